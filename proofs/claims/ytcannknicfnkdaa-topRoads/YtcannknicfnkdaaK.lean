import Derived.Test.YtcannknicfnkdaaJ
namespace Go.Proofs.Ytcannknicfnkdaa
open Go.RowKit
/-- Where the settling stands: all that was gone through, q the last of it. -/
def SP (C K : List Sl) (n m : Nat) (p : List Int) (B : Nat) (wr : World) (v : Value) (LL : List Sl) (q : List Int) : Prop :=
  wr.ownsRow B 25 1 v LL.length (slVals LL) ∧ (∃ M, lists LL = M ++ [q] ∧ Path C K n m p (M ++ [q])) ∧ ∀ s ∈ LL, Ints wr s.la s.ln s.lc s.ints ∧ T3 wr s.la s.ln
theorem SP.later {C K : List Sl} {n m : Nat} {p : List Int} {B : Nat} {w w' : World} {v : Value} {LL : List Sl} {q : List Int} (h : SP C K n m p B w v LL q) (hb : Below w.heap.size w w') : SP C K n m p B w' v LL q :=
  ⟨owns_later h.1 hb, h.2.1, fun s hs => ⟨(h.2.2 s hs).1.later hb, (h.2.2 s hs).2.later hb⟩⟩
theorem SP.next {C K : List Sl} {n m : Nat} {p : List Int} {B : Nat} {w w' : World} {v v' : Value} {LL : List Sl} {q r : List Int} {s : Sl} (h : SP C K n m p B w v LL q) (e : nx C K n m q = some r) (es : s.ints = r) (hI : Ints w s.la s.ln s.lc s.ints) (hT : T3 w s.la s.ln)
    (ho : w'.ownsRow B 25 1 v' (LL.length + 1) (slVals (LL ++ [s]))) (hg : w.grownBy w' v.ownBlock) : SP C K n m p B w' v' (LL ++ [s]) r := by
  obtain ⟨M, h1, h2⟩ := h.2.1
  refine ⟨by rw [List.length_append]; exact ho, ⟨M ++ [q], ?_, h2.next e⟩, fun x hx => ?_⟩
  · unfold lists at h1 ⊢
    rw [List.map_append, h1]
    simp [es]
  · rcases List.mem_append.1 hx with h' | h'
    · have a := h.2.2 x h'
      have := a.2.grown a.1 h.1 hg
      exact ⟨this.2, this.1⟩
    · rw [List.mem_singleton] at h'
      subst h'
      have := hT.grown hI h.1 hg
      exact ⟨this.2, this.1⟩
theorem SP.ok {C K : List Sl} {n m : Nat} {p : List Int} {B : Nat} {w : World} {v : Value} {LL : List Sl} {q : List Int} (h : SP C K n m p B w v LL q) (hR : Rds C K n m) (hO : OkP C n p) : OkP C n q ∧ 1 ≤ LL.length ∧ LL.length ≤ 60000 ∧ (slAt LL (LL.length - 1)).ints = q ∧ (slAt LL (LL.length - 1)).ln = n := by
  obtain ⟨M, h1, h2⟩ := h.2.1
  have hl : LL.length = M.length + 1 := by have := congrArg List.length h1; simpa [lists] using this
  have h3 := h2.len hO hR.ok hR.n5 hR.m6
  have h4 := Path.ok hO M.length q (by have := h2 M.length (by simp); simpa using this)
  have h5 : (slAt LL (LL.length - 1)).ints = q := by
    have : (lists LL)[M.length]? = some q := by rw [h1]; simp
    unfold lists at this
    rw [List.getElem?_map] at this
    rw [hl, Nat.add_sub_cancel]
    unfold slAt
    cases hx : LL[M.length]? with
    | none => rw [hx] at this; cases this
    | some s => rw [hx] at this; simpa using this
  refine ⟨h4.1, by omega, by simp at h3; omega, h5, ?_⟩
  have := (h.2.2 _ (slAt_mem (show LL.length - 1 < LL.length by omega))).1.1
  rw [this, h5]
  exact h4.1.1
theorem SP.one {C K : List Sl} {n m : Nat} {p : List Int} {B : Nat} {w : World} {g cap : Nat} (hB : B ≤ w.heap.size) (hI : Ints w (some ⟨g, 0, none⟩) n cap p) (hT : T3 w (some ⟨g, 0, none⟩) n) :
    SP C K n m p B (w.alloc (.cells #[.slice (some ⟨g, 0, none⟩) n cap] 25)) (.slice (some ⟨w.heap.size, 0, none⟩) 1 1) [⟨some ⟨g, 0, none⟩, n, cap, p⟩] p := by
  have hb : Below w.heap.size w (w.alloc (.cells #[.slice (some ⟨g, 0, none⟩) n cap] 25)) := by go_grown
  refine ⟨World.ownsRow_lit (e := 25) (size := 1) w #[.slice (some ⟨g, 0, none⟩) n cap] 1 hB (by unfold maxLen; omega) rfl, ⟨[], rfl, Path.one C K n m p⟩, fun s hs => ?_⟩
  rw [List.mem_singleton] at hs
  subst hs
  exact ⟨hI.later hb, hT.later hb⟩
/-- What Settle and SettleAll answer. -/
def SPost (C K : List Sl) (n m : Nat) (p : List Int) (w' : World) (v : Value) : Prop :=
  ∃ va vc LL M q, v = .slice va LL.length vc ∧ Lsts w' va LL.length vc LL ∧ lists LL = M ++ [q] ∧ Path C K n m p (M ++ [q]) ∧ nx C K n m q = none
theorem SP.post {C K : List Sl} {n m : Nat} {p : List Int} {B : Nat} {w : World} {v : Value} {LL : List Sl} {q : List Int} (h : SP C K n m p B w v LL q) (e : nx C K n m q = none) : SPost C K n m p w v := by
  obtain ⟨M, h1, h2⟩ := h.2.1
  obtain ⟨va, vc, hv, hL⟩ := Lsts.of_owns h.1 (fun s hs => (h.2.2 s hs).1)
  exact ⟨va, vc, LL, M, q, hv, hL, h1, h2, e⟩
/-- Where next is. -/
def NxV (o : Option (List Int)) (n : Nat) (w : World) (v : Value) : Prop :=
  (o = none ∧ v = .slice none 0 0) ∨ ∃ q g cap, o = some q ∧ v = .slice (some ⟨g, 0, none⟩) n cap ∧ Ints w (some ⟨g, 0, none⟩) n cap q ∧ T3 w (some ⟨g, 0, none⟩) n
theorem NxPost.val {o : Option (List Int)} {n : Nat} {w w' : World} {e : Ending} (h : NxPost o n w e w') : ∃ v, e = .returned v ∧ NxV o n w' v ∧ Below w.heap.size w w' := by
  rcases h.2 with ⟨a, b⟩ | ⟨q, g, cap, a, b, _, c, d⟩
  · exact ⟨_, b, Or.inl ⟨a, rfl⟩, h.1⟩
  · exact ⟨_, b, Or.inr ⟨q, g, cap, a, rfl, c, d⟩, h.1⟩
def hN (C K : List Sl) (n m : Nat) (q : List Int) : Nat := (hg C K n q m + 30000).toNat
theorem hN_lt {C K : List Sl} {n m : Nat} {q r : List Int} (hR : Rds C K n m) (h : OkP C n q) (e : nx C K n m q = some r) : hN C K n m r < hN C K n m q := by
  have h1 := (nx_ok h e).2
  have h2 := hg_bd (C := C) hR.ok r hR.n5 m (Nat.le_refl _)
  have h3 := hR.m6
  unfold hN
  omega
theorem settle_err (ca : Option Addr) (cn cc : Nat) (C : List Sl) (ka : Option Addr) (kn kc : Nat) (K : List Sl) (pa : Option Addr) (pn pc : Nat) (p : List Int) (w : World) (hC : Lsts w ca cn cc C) (hK : Lsts w ka kn kc K) (hp : Ints w pa pn pc p) (hE : aE C K p ≠ 0) :
    Calls Try.prog 9 #[rV ca cn cc ka kn kc, .slice pa pn pc] w fun e w' => e = .returned (two (.slice none 0 0) (aE C K p)) ∧ Below w.heap.size w w' := by
  obtain ⟨W, hW, hbW, hlt0, hbox⟩ := box_cells (w := w) ca cn cc ka kn kc
  have HW := hide hW
  have HBW := hide hbW
  have w0 := (hbox W (Below.refl _ _)).1
  have w1 := (hbox W (Below.refl _ _)).2
  have CR := hide (mayBeAt_any ca cn cc C ka kn kc K pa pn pc p W (hC.later hbW) (hK.later hbW) (hp.later hbW))
  clear hC hK hp hW hbW hbox hlt0
  unfold rV at *
  generalize aE C K p = E at *
  have hd : (E == 0) = false := by simp [hE]
  clear hE
  go_enter Try.func9, Try.ntmps9
  go_wp2_with fail
  rw [unhide HW]
  go_wp2_with fail
  refine (unhide CR).mono ?_
  rintro e wa ⟨rfl, hba⟩
  have HBa := hide (Below.trans (unhide HBW) (hba.mono (unhide HBW).size))
  clear hba w0 w1
  go_wp2
  go_ret2
  exact ⟨rfl, unhide HBa⟩
set_option maxRecDepth 100000 in
set_option maxHeartbeats 8000000 in
theorem settle_ok (ca : Option Addr) (n cc : Nat) (C : List Sl) (ka : Option Addr) (m kc : Nat) (K : List Sl) (pa : Option Addr) (pc : Nat) (p : List Int) (w : World) (hC : Lsts w ca n cc C) (hK : Lsts w ka m kc K) (hp : Ints w pa n pc p) (hR : Rds C K n m) (hO : OkP C n p) (hE : aE C K p = 0) :
    Calls Try.prog 9 #[rV ca n cc ka m kc, .slice pa n pc] w fun e w' => ∃ v, e = .returned (two v 0) ∧ SPost C K n m p w' v ∧ Below w.heap.size w w' := by
  have hc1 := hC.2.1
  have hc2 := hC.2.2.1
  have hk1 := hK.2.1
  have hk2 := hK.2.2.1
  have hp1 := hp.2.1
  have hp2 := hp.2.2.1
  unfold maxLen at hc2 hk2 hp2
  have n1 := hR.n1
  have n5 := hR.n5
  have m6 := hR.m6
  obtain ⟨W, hW, hbW, hlt0, hbox⟩ := box_cells (w := w) ca n cc ka m kc
  have HW := hide hW
  have HBX0 := hide hbox
  have HBT := hide (fun (wr : World) (hb : Below W.heap.size W wr) => Below.trans hbW (hb.mono hbW.size))
  have w0 := (hbox W (Below.refl _ _)).1
  have w1 := (hbox W (Below.refl _ _)).2
  have hCW := hC.later hbW
  have hKW := hK.later hbW
  have hPW := hp.later hbW
  have CM := mayBeAt_any ca n cc C ka m kc K pa n pc p W hCW hKW hPW
  rw [hE] at CM
  have CM := hide CM
  have CL : Hid (∀ (wr : World), Below W.heap.size W wr → Calls Try.prog 25 #[.slice pa n pc] wr fun e w' => ∃ v, e = .returned v ∧ w'.ownsRow wr.heap.size 3 1 v n (intVals p) ∧ Below wr.heap.size wr w') := fun wr hb => clone_any pa n pc p wr (hPW.later hb) (by omega)
  have CN : Hid (∀ (wr : World) (qa : Option Addr) (qc : Nat) (q : List Int), Below W.heap.size W wr → Ints wr qa n qc q → OkP C n q → Calls Try.prog 26 #[rV ca n cc ka m kc, .slice qa n qc] wr fun e w' => NxPost (nx C K n m q) n wr e w') := fun wr qa qc q hb hq hOq => change_any ca n cc C ka m kc K qa qc q wr (hCW.later hb) (hKW.later hb) hq hR hOq
  have HPW := hide hPW
  have HR := hide hR
  have HO := hide hO
  have HBW := hide hbW
  clear hC hK hp hW hbW hbox hlt0 hR hO hCW hKW hPW hE
  unfold rV at *
  go_enter Try.func9, Try.ntmps9
  go_wp2_with fail
  rw [unhide HW]
  go_wp2_with fail
  refine (unhide CM).mono ?_
  rintro e wa ⟨rfl, hba⟩
  have HBa := hide hba
  have CL := hide (unhide CL _ hba)
  clear hba w0 w1 CM
  go_wp2_with fail
  refine (unhide CL).mono ?_
  rintro e w3 ⟨v, rfl, hown, hb3⟩
  obtain ⟨g, cap, rfl, g1, g2, g3, g4, hrow, hT⟩ := owns_row hown n1
  have HB3 := hide ((unhide HBa).trans (hb3.mono (unhide HBa).size))
  have hI : Ints w3 (some ⟨g, 0, none⟩) n cap p := hrow.ints (unhide HO).1.symm g1 g2 (fun j hj => rfl)
  have hbA : Below w3.heap.size w3 (w3.alloc (.cells #[.slice (some ⟨g, 0, none⟩) n cap] 25)) := by go_grown
  have HS4 := hide (SP.one (C := C) (K := K) (m := m) (unhide HB3).size hI hT)
  have HB4 := hide ((unhide HB3).trans (hbA.mono (unhide HB3).size))
  have C2 := unhide CN _ pa pc p (unhide HB4) ((unhide HPW).later (unhide HB4)) (unhide HO)
  have u0 := (unhide HBX0 _ (unhide HB4)).1
  have u1 := (unhide HBX0 _ (unhide HB4)).2
  have C2 := hide C2
  clear hown hrow hT hI hb3 CL HBa hbA
  go_wp2_with fail
  refine (unhide C2).mono ?_
  intro e w5 h5
  obtain ⟨v5, rfl, hv5, hb5⟩ := h5.val
  have HB5 := hide ((unhide HB4).trans (hb5.mono (unhide HB4).size))
  have HS5 := hide ((unhide HS4).later hb5)
  have HV5 := hide hv5
  clear h5 hv5 hb5 u0 u1 HB3 HB4 HS4 C2
  obtain ⟨N, hN0⟩ : ∃ N, N = hN C K n m p := ⟨_, rfl⟩
  have HN0 := hide hN0
  clear hN0
  go_wp2
  go_loopg [7, 8] N (fun k o v wr => Hid (Below W.heap.size W wr) ∧ ∃ (LL : List Sl) (q : List Int), Hid (k = hN C K n m q) ∧ Hid (SP C K n m p W.heap.size wr o LL q) ∧ Hid (NxV (nx C K n m q) n wr v))
  case atStart => exact ⟨HB5, _, p, HN0, HS5, HV5⟩
  case round =>
    clear HB5 HS5 HV5
    obtain ⟨HBr, LL, q, HK, HS, HV⟩ := hrel
    rcases unhide HV with ⟨a1, rfl⟩ | ⟨r, g2', cap2, a1, rfl, hI2, hT2⟩
    · have HP := hide ((unhide HS).post a1)
      have HBX := hide (unhide HBT _ (unhide HBr))
      have hq : ∀ w, (binOp .neq 25 (.slice none 0 0) (.slice none 0 0)).run Try.prog w = .ok (.bool false) w := fun w => run_neq_slice_nil_any w 25 3 none 0 0 0 0 Try.underlying25
      clear a1
      go_wp2
      go_ret2
      exact ⟨_, rfl, unhide HP, unhide HBX⟩
    · have hq : ∀ w, (binOp .neq 25 (.slice (some ⟨g2', 0, none⟩) n cap2) (.slice none 0 0)).run Try.prog w = .ok (.bool true) w := fun w => run_neq_slice_nil_any w 25 3 _ _ _ 0 0 Try.underlying25
      have hok := (unhide HS).ok (unhide HR) (unhide HO)
      have HOR := hide (nx_ok hok.1 a1).1
      have HLT := hide (hN_lt (unhide HR) hok.1 a1)
      have hlen := hok.2.2.1
      have hbA : Below wr.heap.size wr (wr.alloc (.cells #[.slice (some ⟨g2', 0, none⟩) n cap2] 25)) := by go_grown
      have HBA := hide hbA
      have HI3 := hide (hI2.later hbA)
      have HT3 := hide (hT2.later hbA)
      have HS3 := hide ((unhide HS).later hbA)
      have HX := hide (show Lsts (wr.alloc (.cells #[.slice (some ⟨g2', 0, none⟩) n cap2] 25)) (some ⟨wr.heap.size, 0, none⟩) 1 1 [⟨some ⟨g2', 0, none⟩, n, cap2, r⟩] from lsts_one (s := ⟨some ⟨g2', 0, none⟩, n, cap2, r⟩) (by simp) (unhide HI3))
      have HA1 := hide a1
      clear hI2 hT2 hbA hok a1
      go_wp2_with (
        at_builtin
        refine wpList_append_lsts _ rfl _ _ rfl W.heap.size _ LL.length LL rfl (unhide HS3).1 _ 1 1 [⟨some ⟨g2', 0, none⟩, n, cap2, r⟩] rfl (unhide HX) (by omega) (by have := (unhide HBr).size; simp; omega) ?_
        intro v4 w4 ho4 hg4
        have HS4 := hide ((unhide HS3).next (unhide HA1) rfl (unhide HI3) (unhide HT3) ho4 hg4)
        have HI4 := hide (((unhide HT3).grown (unhide HI3) (unhide HS3).1 hg4).2)
        have hbw : Below W.heap.size W (wr.alloc (.cells #[.slice (some ⟨g2', 0, none⟩) n cap2] 25)) := (unhide HBr).trans ((unhide HBA).mono (unhide HBr).size)
        have HB4 := hide (hbw.trans ((Below.refl W.heap.size _).grown hg4 hbw.size (fun q hq => ((unhide HS3).1.lt q hq).1)))
        have u0 := (unhide HBX0 _ (unhide HB4)).1
        have u1 := (unhide HBX0 _ (unhide HB4)).2
        have C2 := hide (unhide CN _ _ _ _ (unhide HB4) (unhide HI4) (unhide HOR))
        clear ho4 hg4 hbw)
      refine (unhide C2).mono ?_
      intro e w5 h5
      obtain ⟨v5, rfl, hv5, hb5⟩ := h5.val
      have HB5 := hide ((unhide HB4).trans (hb5.mono (unhide HB4).size))
      have HS5 := hide ((unhide HS4).later hb5)
      have HV5 := hide hv5
      clear h5 hv5 hb5 u0 u1 C2
      go_wp2
      go_roundg (hN C K n m r)
      case measure => rw [unhide HK]; exact unhide HLT
      case rel => exact ⟨HB5, _, r, rfl, HS5, HV5⟩
end Go.Proofs.Ytcannknicfnkdaa
