import Derived.Test.YtcannknicfnkdaaK
namespace Go.Proofs.Ytcannknicfnkdaa
open Go.RowKit
/-- A callee's answer in a world of the class, whatever it answers. -/
theorem Calls.regrown_post {f : FuncId} {args : Array Value} {w : World} {d : Nat} {os : Array Obj} {R : Value → World → Prop} (h : Calls Try.prog f args (Sort.grow (redrawn w d) os) fun e w' => ∃ v, e = .returned v ∧ R v w' ∧ Below (Sort.grow (redrawn w d) os).heap.size (Sort.grow (redrawn w d) os) w') :
    Calls Try.prog f args (Sort.grow (redrawn w d) os) fun e w' => ∃ v, e = .returned v ∧ R v w' ∧ Below w.heap.size w w' :=
  h.mono fun _ _ ⟨v, a, b, c⟩ => ⟨v, a, b, (below_regrown w d os).trans (c.mono (below_regrown w d os).size)⟩
set_option maxRecDepth 100000 in
set_option maxHeartbeats 8000000 in
theorem settleAll_any (ca : Option Addr) (n cc : Nat) (C : List Sl) (ka : Option Addr) (m kc : Nat) (K : List Sl) (pa : Option Addr) (pc : Nat) (p : List Int) (w : World) (hC : Lsts w ca n cc C) (hK : Lsts w ka m kc K) (hp : Ints w pa n pc p) (hR : Rds C K n m) (hO : OkP C n p) :
    Calls Try.prog 16 #[rV ca n cc ka m kc, .slice pa n pc] w fun e w' => ∃ v, e = .returned v ∧ SPost C K n m p w' v ∧ Below w.heap.size w w' := by
  have hc1 := hC.2.1
  have hc2 := hC.2.2.1
  have hk1 := hK.2.1
  have hk2 := hK.2.2.1
  have hp1 := hp.2.1
  have hp2 := hp.2.2.1
  unfold maxLen at hc2 hk2 hp2
  have n1 := hR.n1
  have n5 := hR.n5
  have m6 := hR.m6
  obtain ⟨W, hW, hbW, hlt0, hbox⟩ := box_cells (w := w) ca n cc ka m kc
  have HW := hide hW
  have HBX0 := hide hbox
  have HBT := hide (fun (wr : World) (hb : Below W.heap.size W wr) => Below.trans hbW (hb.mono hbW.size))
  have w0 := (hbox W (Below.refl _ _)).1
  have w1 := (hbox W (Below.refl _ _)).2
  have hCW := hC.later hbW
  have hKW := hK.later hbW
  have hPW := hp.later hbW
  have CN : Hid (∀ (wr : World) (qa : Option Addr) (qc : Nat) (q : List Int), Below W.heap.size W wr → Ints wr qa n qc q → OkP C n q → Calls Try.prog 31 #[rV ca n cc ka m kc, .slice qa n qc] wr fun e w' => NxPost (nx C K n m q) n wr e w') := fun wr qa qc q hb hq hOq => moved_any ca n cc C ka m kc K qa qc q wr (hCW.later hb) (hKW.later hb) hq hR hOq
  have HPW := hide hPW
  have HR := hide hR
  have HO := hide hO
  have hb0 : Below W.heap.size W (W.alloc (.cells #[] 3)) := by go_grown
  have HB0 := hide hb0
  have HI1 := hide (hPW.later hb0)
  have hsz : W.heap.size = w.heap.size + 1 := by rw [← hW]; simp
  have hE0 := own_empty W W.heap.size (Nat.le_refl _)
  have HE := hide hE0
  rw [hsz] at hE0
  have HE0 := hide hE0
  have HSZ := hide hsz
  clear hE0 hsz
  clear hC hK hp hW hbW hbox hlt0 hR hO hCW hKW hPW hb0
  unfold rV at *
  go_enter Try.func16, Try.ntmps16
  go_wp2_with (
    at_builtin
    rw [unhide HW]
    refine wpList_append_ints _ rfl _ _ rfl (w.heap.size + 1) _ 0 [] rfl (unhide HE0) _ n pc p rfl (unhide HI1) (by omega) (by rw [← unhide HSZ]; simp) ?_
    intro v2 w3 ho2 hg2
    rw [Nat.zero_add, List.nil_append, ← unhide HSZ] at ho2
    rw [← unhide HSZ] at hg2
    obtain ⟨g, cap, rfl, g1, g2, g3, g4, hrow, hT⟩ := owns_row ho2 n1
    have hb2 := (unhide HB0).trans ((Below.refl W.heap.size _).grown hg2 (by simp) (fun k hk => ((unhide HE).lt k hk).1))
    have HB3 := hide hb2
    have hI : Ints w3 (some ⟨g, 0, none⟩) n cap p := hrow.ints (unhide HO).1.symm g1 g2 (fun j hj => rfl)
    have hbA : Below w3.heap.size w3 (w3.alloc (.cells #[.slice (some ⟨g, 0, none⟩) n cap] 25)) := by go_grown
    have HS4 := hide (SP.one (C := C) (K := K) (m := m) (unhide HB3).size hI hT)
    have HB4 := hide ((unhide HB3).trans (hbA.mono (unhide HB3).size))
    clear ho2 hg2 hb2 hrow hT hI hbA)
  obtain ⟨N, hN0⟩ : ∃ N, N = hN C K n m p := ⟨_, rfl⟩
  have HN0 := hide hN0
  clear hN0
  go_loopg [5, 6] N (fun k o _ wr => Hid (Below W.heap.size W wr) ∧ ∃ (LL : List Sl) (q : List Int), Hid (k = hN C K n m q) ∧ Hid (SP C K n m p W.heap.size wr o LL q))
  case atStart => exact ⟨HB4, _, p, HN0, HS4⟩
  case round =>
    clear HB4 HS4 HB3
    obtain ⟨HBr, LL, q, HK, HS⟩ := hrel
    have hok := (unhide HS).ok (unhide HR) (unhide HO)
    obtain ⟨va, vc, hv, hL⟩ := Lsts.of_owns (unhide HS).1 (fun s hs => ((unhide HS).2.2 s hs).1)
    subst hv
    have hl1 := hok.2.1
    have hl2 := hok.2.2.1
    have hv1 := hL.2.1
    have hv2 := hL.2.2.1
    unfold maxLen at hv2
    obtain ⟨ob, oo, rfl, hob, hoc⟩ := hL.cellAt hl1
    have hcl := hoc (LL.length - 1) (by omega)
    have hIq := hL.mem (k := LL.length - 1) (by omega)
    rw [hok.2.2.2.1, hok.2.2.2.2] at hIq
    rw [hok.2.2.2.2] at hcl
    have HBD : Hid (Below W.heap.size W wr.drew) := (unhide HBr).trans (Below.refl _ _).drew
    have C2 := hide (unhide CN _ _ _ _ (unhide HBD) (hIq.later (Below.refl _ _).drew) hok.1)
    have HSD := hide ((unhide HS).later (Below.refl _ _).drew)
    have HOQ := hide hok.1
    have u0 := (unhide HBX0 _ (unhide HBr)).1
    have u1 := (unhide HBX0 _ (unhide HBr)).2
    clear hok hL hoc hIq
    generalize (slAt LL (LL.length - 1)).la = la at *
    generalize (slAt LL (LL.length - 1)).lc = lc at *
    obtain ⟨L1, eL1⟩ : ∃ L1, LL.length - 1 = L1 := ⟨_, rfl⟩
    obtain ⟨len, eL⟩ : ∃ len, LL.length = len := ⟨_, rfl⟩
    rw [eL1] at hcl
    rw [eL] at hv1 hl2
    rw [eL]
    have hL1 : L1 < len := by omega
    have hwr : IntKind.i64.wrap ((len : Int) - 1) = (L1 : Int) := by rw [wrap_in _ (by omega) (by omega)]; omega
    have HEL := hide eL
    clear eL eL1 hl1
    go_wp2_with fail
    refine wp_region_still_tail 7 (by kernel_rfl) (by kernel_rfl) ?_
    simp only [List.take_succ_cons, List.take_zero, List.drop_succ_cons, List.drop_zero]
    show wpStill Try.prog _ wr.drew (fun a' => wpList Try.prog _ _ _ a' wr.drew) _ _
    repeat still_step
    refine wpStill_nil ?_
    go_wp2_with fail
    refine (unhide C2).mono ?_
    intro e w5 h5
    obtain ⟨v5, rfl, hv5, hb5⟩ := h5.val
    have HB5 := hide ((unhide HBD).trans (hb5.mono (unhide HBD).size))
    have HS5 := hide ((unhide HSD).later hb5)
    clear h5 hb5 u0 u1 C2 HSD HBD hcl
    rcases hv5 with ⟨a1, rfl⟩ | ⟨r, g2', cap2, a1, rfl, hI2, hT2⟩
    · have HP := hide ((unhide HS5).post a1)
      rw [unhide HEL] at HP
      have HBX := hide (unhide HBT _ (unhide HB5))
      clear a1
      go_wp2
      go_ret
      exact ⟨_, rfl, unhide HP, unhide HBX⟩
    · have hd : ((n : Int) == 0) = false := by simp; omega
      have HOR := hide (nx_ok (unhide HOQ) a1).1
      have HLT := hide (hN_lt (unhide HR) (unhide HOQ) a1)
      have hbA : Below w5.heap.size w5 (w5.alloc (.cells #[.slice (some ⟨g2', 0, none⟩) n cap2] 25)) := by go_grown
      have HBA := hide hbA
      have HI3 := hide (hI2.later hbA)
      have HT3 := hide (hT2.later hbA)
      have HS3 := hide ((unhide HS5).later hbA)
      have HX := hide (show Lsts (w5.alloc (.cells #[.slice (some ⟨g2', 0, none⟩) n cap2] 25)) (some ⟨w5.heap.size, 0, none⟩) 1 1 [⟨some ⟨g2', 0, none⟩, n, cap2, r⟩] from lsts_one (s := ⟨some ⟨g2', 0, none⟩, n, cap2, r⟩) (by simp) (unhide HI3))
      have HA1 := hide a1
      have HO3 := hide (unhide HS3).1
      rw [unhide HEL] at HO3
      clear hI2 hT2 hbA a1
      go_wp2_with (
        at_builtin
        refine wpList_append_lsts _ rfl _ _ rfl W.heap.size _ len LL rfl (unhide HO3) _ 1 1 [⟨some ⟨g2', 0, none⟩, n, cap2, r⟩] rfl (unhide HX) (by omega) (by have := (unhide HB5).size; simp; omega) ?_
        intro v4 w4 ho4 hg4)
      have HS4 := hide ((unhide HS3).next (unhide HA1) rfl (unhide HI3) (unhide HT3) (by rw [unhide HEL]; exact ho4) (by rw [unhide HEL]; exact hg4))
      have hbw : Below W.heap.size W (w5.alloc (.cells #[.slice (some ⟨g2', 0, none⟩) n cap2] 25)) := (unhide HB5).trans ((unhide HBA).mono (unhide HB5).size)
      have HB4 := hide (hbw.trans ((Below.refl W.heap.size _).grown hg4 hbw.size (fun q hq => ((unhide HO3).lt q hq).1)))
      clear ho4 hg4 hbw
      go_roundg (hN C K n m r)
      case measure => rw [unhide HK]; exact unhide HLT
      case rel => exact ⟨HB4, _, r, rfl, HS4⟩
end Go.Proofs.Ytcannknicfnkdaa
