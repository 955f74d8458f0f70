import Derived.Test.YtajdijjecojdhaaDoorWE
import Derived.Deep.CutRange
namespace Go.Proofs.YtajdijjecojdhaaDoor
open Go.RowKit
theorem owns_drew {w : World} {B : Nat} {e : TypeId} {size : Nat} {v : Value} {n : Nat} {xs : List Value} (h : w.ownsRow B e size v n xs) : w.drew.ownsRow B e size v n xs := h
theorem owns_later {w w' : World} {B : Nat} {e : TypeId} {size : Nat} {v : Value} {n : Nat} {xs : List Value} (h : w.ownsRow B e size v n xs) (hb : Below w.heap.size w w') : w'.ownsRow B e size v n xs :=
  h.kept (row := none) ⟨hb.os, hb.tape, hb.output, hb.size, fun k hk _ => hb.block k hk⟩ (by cases hv : v.ownBlock <;> simp)
theorem idxFrom_spec (l : List Int) (x : Int) : ∀ d k, l.length - k = d → (idxFrom l x k = -1 ∧ ∀ i, k ≤ i → i < l.length → ¬ l[i]?.getD 0 = x) ∨ (∃ m : Nat, k ≤ m ∧ m < l.length ∧ l[m]?.getD 0 = x ∧ idxFrom l x k = m ∧ ∀ i, k ≤ i → i < m → ¬ l[i]?.getD 0 = x) := by
  intro d
  induction d with
  | zero =>
    intro k hk
    exact Or.inl ⟨idxFrom_end (by omega), fun i h1 h2 => by omega⟩
  | succ d ih =>
    intro k hk
    by_cases he : l[k]?.getD 0 = x
    · exact Or.inr ⟨k, Nat.le_refl _, by omega, he, idxFrom_yes (by omega) he, fun i h1 h2 => by omega⟩
    · rw [idxFrom_no (by omega) he]
      rcases ih (k+1) (by omega) with ⟨h1, h2⟩ | ⟨m, h1, h2, h3, h4, h5⟩
      · refine Or.inl ⟨h1, fun i hi hl => ?_⟩
        by_cases e : i = k
        · rw [e]; exact he
        · exact h2 i (by omega) hl
      · refine Or.inr ⟨m, by omega, h2, h3, h4, fun i hi hl => ?_⟩
        by_cases e : i = k
        · rw [e]; exact he
        · exact h5 i (by omega) hl
theorem take_at (l : List Int) {k i : Nat} (h : i < k) : (l.take k)[i]?.getD 0 = l[i]?.getD 0 := by rw [List.getElem?_take, if_pos h]
/-- Named already: among the earlier ones, or its first place is ahead. -/
theorem idx_take (l : List Int) (k : Nat) (h : k < l.length) : 0 ≤ idxFrom (l.take k) (l[k]?.getD 0) 0 ↔ idxFrom l (l[k]?.getD 0) 0 < k := by
  have hl : (l.take k).length = k := by simp; omega
  rcases idxFrom_spec l (l[k]?.getD 0) _ 0 rfl with ⟨h1, h2⟩ | ⟨m, _, h2, h3, h4, h5⟩
  · exact absurd rfl (h2 k (Nat.zero_le _) h)
  · rw [h4]
    rcases idxFrom_spec (l.take k) (l[k]?.getD 0) _ 0 rfl with ⟨g1, g2⟩ | ⟨q, _, g2, g3, g4, g5⟩
    · rw [g1]
      refine ⟨fun h => by omega, fun hm => ?_⟩
      have hm' : m < k := by omega
      exact absurd (by rw [take_at l hm']; exact h3) (g2 m (Nat.zero_le _) (by omega))
    · rw [g4]
      refine ⟨fun _ => ?_, fun _ => by omega⟩
      rw [hl] at g2
      rw [take_at l g2] at g3
      rcases Nat.lt_or_ge q m with h' | h'
      · exact absurd g3 (h5 q (Nat.zero_le _) h')
      · omega
def names (l : List Ag) : List ByteArray := l.map (·.name)
theorem names_at (l : List Ag) (k : Nat) : (names l)[k]?.getD ByteArray.empty = (agAt l k).name := by
  unfold names agAt
  rw [List.getElem?_map]
  cases l[k]? <;> rfl
theorem sidx_names (l : List Ag) (x : ByteArray) : ∀ f k, sidxFuel (names l) x f k = aidxFuel l x f k := by
  intro f
  induction f with
  | zero => intro k; rfl
  | succ f ih => intro k; rw [sidxFuel, aidxFuel, names_at, ih]
theorem sidxFrom_names (l : List Ag) (x : ByteArray) (k : Nat) : sidxFrom (names l) x k = aidxFrom l x k := by
  unfold sidxFrom aidxFrom
  rw [sidx_names]
  simp [names]
theorem Strs.of_owns {w : World} {B : Nat} {v : Value} {n : Nat} {l : List ByteArray} (h : w.ownsRow B 9 1 v n (l.map Value.string)) (hn : n ≤ 1000) : ∃ a c, v = .slice a n c ∧ Strs w a n l := by
  have hl : l.length = n := by have := h.1; simp at this; omega
  have h0 := h
  rcases h.2 with ⟨rfl, rfl⟩ | ⟨g, cap, cur, rfl, hbg, hgg, hnc, hcm, hcs, htake⟩
  · exact ⟨none, 0, rfl, hl.symm, by omega, .inl rfl⟩
  · refine ⟨_, cap, rfl, hl.symm, by omega, .inr ⟨g, 0, rfl, fun j hj => ?_⟩⟩
    rw [Nat.zero_add, h0.cellAt j (by omega), List.getElem?_map, List.getElem?_eq_getElem (show j < l.length by omega)]
    simp
theorem Strs.later {w w' : World} {a : Option Addr} {n : Nat} {l : List ByteArray} (h : Strs w a n l) (hb : Below w.heap.size w w') : Strs w' a n l := by
  obtain ⟨hn, hm, h⟩ := h
  refine ⟨hn, hm, ?_⟩
  rcases h with h0 | ⟨b, off, rfl, hcell⟩
  · exact Or.inl h0
  · exact Or.inr ⟨b, off, rfl, fun j hj => (hb.cell (p := ⟨b, off + j, none⟩) (World.block_lt_of_cell? w _ (hcell j hj))).trans (hcell j hj)⟩
theorem names_take (l : List Ag) (k : Nat) (h : k < l.length) : (names (l.take k)).map Value.string ++ [.string (agAt l k).name] = (names (l.take (k+1))).map Value.string := by
  have e : agAt l k = l[k] := by unfold agAt; rw [List.getElem?_eq_getElem h]; rfl
  rw [List.take_succ_eq_append_getElem h, e]
  unfold names
  rw [List.map_append, List.map_append]
  rfl
theorem info9 : (Tryd.prog.info? 9).map (fun i => (i.zero, i.size, i.bytes)) = some (some (.string ByteArray.empty), 1, 16) := by kernel_rfl
theorem wpList_append_str (w : World) {ops : Array Oper} {rest : List Oper} {o : Oper} {a : Act} {Q : Exit → Act → World → Prop} (hgd : o.guard = none) (s x : Operand)
    (ho : o.op = .call { callee := .builtin .append, args := #[s, x], argTypes := #[49, 49] })
    (base : Nat) (v : Value) (n : Nat) (xs : List Value) (hs : a.eval s = v) (hown : w.ownsRow base 9 1 v n xs)
    (g : Nat) (nm : ByteArray) (hx : a.eval x = .slice (some ⟨g, 0, none⟩) 1 1) (hc : w.cell? ⟨g, 0, none⟩ = some (.string nm))
    (hsm : n ≤ 1000) (hbase : base ≤ w.heap.size)
    (hK : ∀ v' w', w'.ownsRow base 9 1 v' (n + 1) (xs ++ [.string nm]) → w.grownBy w' v.ownBlock → wpList Tryd.prog ops Q rest (a.put o.dst v') w') : wpList Tryd.prog ops Q (o :: rest) a w := by
  obtain ⟨i9, hi9, hz90, hz91, hz92⟩ := info_parts info9
  exact wpList_append_own w hgd s x 49 ho base 9 i9 _ 1 16 Tryd.underlying49 hi9 hz90 hz91 hz92 rfl (by decide) v n xs hs hown ⟨g, 0, none⟩ 1 1 [.string nm] hx rfl
    (fun j u hu => by
      cases j with
      | zero => simp at hu; subst hu; simpa [Addr.add] using hc
      | succ j => simp at hu)
    (fun u hu => by simp at hu; subst hu; rfl) (by unfold maxLen; omega) (by omega) hbase (fun v' w' h1 h2 _ => hK v' w' h1 h2)
theorem hasText_names (a : Option Addr) (n c : Nat) (l : List Ag) (x : ByteArray) (w : World) (h : Strs w a n (names l)) :
    Calls Tryd.prog 22 #[.slice a n c, .string x] w fun e w' => e = .returned (.int .i64 (aidxFrom l x 0)) ∧ w' = w := by
  refine (hasText_any a n c (names l) x w h).mono ?_
  rintro e w' ⟨rfl, rfl⟩
  exact ⟨ret_int (sidxFrom_names l x 0), rfl⟩
end Go.Proofs.YtajdijjecojdhaaDoor
namespace Go.Proofs.YtajdijjecojdhaaDoor
open Go.RowKit
theorem below_drewN (B : Nat) (w : World) (n : Nat) : Below B w (w.drewN n) := ⟨rfl, rfl, rfl, Nat.le_refl _, fun _ _ => rfl⟩
set_option maxRecDepth 100000 in
set_option maxHeartbeats 8000000 in
theorem ranksMay_main (aL : Option Addr) (nL cL : Nat) (lL : List Ag) (aR : Option Addr) (nR cR : Nat) (lR : List Ag) (w : World) (hL : Ags w aL nL cL lL) (hR : Ags w aR nR cR lR) (h1 : ¬ 6 < nL) (h2 : ¬ 6 < nR) :
    Calls Tryd.prog 10 #[.agg #[.slice aL nL cL, .slice aR nR cR]] w fun e w' => e = .returned (.int .i64 (mayFrom (lL ++ lR) nL nR 0)) ∧ Below w.heap.size w w' := by
  have g1 : decide (6 < (nL : Int)) = false := by simp; omega
  have g2 : decide (6 < (nR : Int)) = false := by simp; omega
  have hcL := hL.2.2.1
  have hcR := hR.2.2.1
  have hnL := hL.2.1
  have hnR := hR.2.1
  unfold maxLen at hcL hcR
  have hb0 : Below w.heap.size w ((w.alloc (.cells #[.slice aL nL cL, .slice aR nR cR] 24)).alloc (.cells #[] 27)).drew := by go_grown
  have hown0 : ((w.alloc (.cells #[.slice aL nL cL, .slice aR nR cR] 24)).alloc (.cells #[] 27)).drew.ownsRow (w.heap.size + 1) 27 3 (.slice (some ⟨w.heap.size + 1, 0, none⟩) 0 0) 0 (flat []) :=
    owns_drew (by
      have h := World.ownsRow_made (base := w.heap.size + 1) (e := 27) (size := 3) (w.alloc (.cells #[.slice aL nL cL, .slice aR nR cR] 24)) #[] 0 (by simp) (by unfold maxLen; omega) rfl
      rw [World.size_alloc] at h
      exact h)
  have hL1 := hL.later hb0
  have HO := hide hown0
  clear hown0
  go_enter Tryd.func10, Tryd.ntmps10
  go_wp2_with fail
  go_cut [3] from 22 to 28 (fun s3 wc => ∃ a c, s3 = .slice a (nL + nR) c ∧ Ags wc a (nL + nR) c (lL ++ lR) ∧ Below (w.heap.size + 1) (w.alloc (.cells #[.slice aL nL cL, .slice aR nR cR] 24)) wc)
  case first =>
    have hbX : Below (w.heap.size + 1) (w.alloc (.cells #[.slice aL nL cL, .slice aR nR cR] 24)) ((w.alloc (.cells #[.slice aL nL cL, .slice aR nR cR] 24)).alloc (.cells #[] 27)).drew := by go_grown
    go_region_law (first
        | (refine step_append_ags _ rfl (.tmp 22) (.tmp 24) rfl (w.heap.size + 1) _ 0 [] (by simp [Act.eval]) (unhide HO) aL nL cL lL (by simp [Act.eval]) hL1 (by omega) (by simp) ?_
           intro v2 w2 ho2 hg2
           have hb2 := (Below.refl (w.heap.size + 1) _).grown hg2 (by simp) (fun k hk => ((unhide HO).lt k hk).1)
           have d1 : w2.cell? ⟨w.heap.size, 1, none⟩ = some (.slice aR nR cR) := (hb2.cell (p := ⟨w.heap.size, 1, none⟩) (by simp)).trans (by simp)
           have hR2 := hR.later (hb0.trans (hb2.mono (by omega)))
           clear hg2)
        | (refine step_append_ags _ rfl (.tmp 25) (.tmp 27) rfl (w.heap.size + 1) _ (0 + nL) ([] ++ lL) (by simp [Act.eval]; rfl) (by assumption) aR nR cR lR (by simp [Act.eval]) (by assumption) (by omega) (by have := hb2.size; simp at this; omega) ?_
           intro v3 w3 ho3 hg3
           have hb3 := hb2.grown hg3 (by have := hb2.size; simp at this; omega) (fun k hk => (ho2.lt k hk).1)
           clear hg3))
    all_goals
      go_wp2_with fail
      go_meet
      case rel =>
        simp only [Nat.zero_add, List.nil_append] at ho3
        have hb4 : Below w.heap.size w w3 := hb0.trans (hb3.mono (by omega))
        obtain ⟨a3, c3, hv3, hA⟩ := Ags.of_owns ho3 (fun g hg => by
          rcases List.mem_append.1 hg with hg | hg
          · exact ⟨((hL.2.2.2.1 g hg).1).later hb4, (hL.2.2.2.1 g hg).2⟩
          · exact ⟨((hR.2.2.2.1 g hg).1).later hb4, (hR.2.2.2.1 g hg).2⟩)
        exact ⟨a3, c3, hv3, hA, hbX.trans hb3⟩
  case rest =>
    obtain ⟨a, c, rfl, hA, hbc⟩ := hcut
    have hA0 := hA
    obtain ⟨hAn, hAc, hAm, _, hrow⟩ := hA
    unfold maxLen at hAm
    have HA := hide hAn
    clear hAn
    have hbw : Below w.heap.size w wc := by
      have h := (Below.refl w.heap.size w).alloc (Nat.le_refl _) (.cells #[.slice aL nL cL, .slice aR nR cR] 24)
      exact h.trans (hbc.mono (by omega))
    have e0 : wc.cell? ⟨w.heap.size, 0, none⟩ = some (.slice aL nL cL) := (hbc.cell (p := ⟨w.heap.size, 0, none⟩) (by simp)).trans (by simp)
    have e1 : wc.cell? ⟨w.heap.size, 1, none⟩ = some (.slice aR nR cR) := (hbc.cell (p := ⟨w.heap.size, 1, none⟩) (by simp)).trans (by simp)
    have hsz1 : w.heap.size < wc.heap.size := by have := hbc.size; simp at this; omega
    rcases hrow with h0 | ⟨b, off, rfl, hb, hcell⟩
    · have hz : nL = 0 := by omega
      have hz' : nR = 0 := by omega
      subst hz
      subst hz'
      go_wp2_with fail
      refine wp_loop_rounds 1 ?_
      rw [rounds_succ]
      go_wp2
      go_ret
      exact ⟨ret_int (by rw [mayFrom_end (by have := unhide HA; omega)]), hbw⟩
    go_wp2_with fail
    go_loopw [5, 4] (fun i v wr => Below wc.heap.size wc wr ∧ ∃ k : Nat, k ≤ nL + nR ∧ i = .int .i64 k ∧ wr.ownsRow wc.heap.size 9 1 v k ((names ((lL ++ lR).take k)).map Value.string) ∧ mayFrom (lL ++ lR) nL nR 0 = mayFrom (lL ++ lR) nL nR k) (fun i _ _ => nL + nR - (intOf i).toNat)
    case atStart => exact ⟨Below.refl _ _, 0, Nat.zero_le _, rfl, World.ownsRow_nil _ _ _ _, rfl⟩
    case round =>
      obtain ⟨hbr, k, hk, rfl, hown, hn⟩ := hrel
      have HI := hide hn
      clear hn
      have hbwr : Below w.heap.size w wr := hbw.trans (hbr.mono (by omega))
      by_cases hlt : k < nL + nR
      · have hlen : k < (lL ++ lR).length := by have := unhide HA; omega
        have hAr := hA0.later hbr
        have hgl := hAr.mem hlt
        obtain ⟨q1, q2, q3⟩ := hcell k hlt
        have r1 := (hbr.cell (p := ⟨b, off + k * 3, none⟩) hb).trans q1
        have r2 := (hbr.cell (p := ⟨b, off + k * 3 + 1, none⟩) hb).trans q2
        have r3 := (hbr.cell (p := ⟨b, off + k * 3 + 2, none⟩) hb).trans q3
        have s0 := (hbr.cell (p := ⟨w.heap.size, 0, none⟩) hsz1).trans e0
        have s1 := (hbr.cell (p := ⟨w.heap.size, 1, none⟩) hsz1).trans e1
        have hszr : w.heap.size < wr.heap.size := Nat.lt_of_lt_of_le hsz1 hbr.size
        have hszb : b < wr.heap.size := Nat.lt_of_lt_of_le hb hbr.size
        have HT := hide (names_take (lL ++ lR) k hlen)
        have hst := hide (mayFrom_step (nL := nL) (nR := nR) hlen)
        obtain ⟨va, vc, rfl, hS⟩ := Strs.of_owns hown (by omega)
        have hSx := fun o => hS.later (w' := wr.alloc o) (by go_grown)
        have hbx : ∀ o, Below wr.heap.size wr (wr.alloc o) := fun o => by go_grown
        have HC := hide hcell
        clear q1 q2 q3 hcell hlen
        generalize hG : agAt (lL ++ lR) k = G at *
        obtain ⟨nm, room, la, ln, lc, likes⟩ := G
        have HG := hide hG
        clear hG
        obtain ⟨hI, hnm⟩ := hgl
        simp only at hI hnm r1 r2 r3 HT
        cases hnb : nameB nm with
        | false =>
          go_wp2_with (first | (go_at_call 21; refine (named_any nm _ hnm).mono ?_; rintro e w' ⟨rfl, rfl⟩) | (go_at_call 22; refine (hasText_names va k vc _ nm _ (hSx _)).mono ?_; rintro e w' ⟨rfl, rfl⟩))
          go_ret
          refine ⟨ret_int ?_, ?_⟩
          · rw [unhide HI, unhide hst]
            simp [agE, hnb]
          · exact hbwr.trans ((hbx _).mono hbwr.size)
        | true =>
        by_cases hp : 0 ≤ aidxFrom ((lL ++ lR).take k) nm 0
        · go_wp2_with (first | (go_at_call 21; refine (named_any nm _ hnm).mono ?_; rintro e w' ⟨rfl, rfl⟩) | (go_at_call 22; refine (hasText_names va k vc _ nm _ (hSx _)).mono ?_; rintro e w' ⟨rfl, rfl⟩))
          go_ret
          refine ⟨ret_int ?_, ?_⟩
          · rw [unhide HI, unhide hst]
            simp [agE, hnb, hp]
          · exact hbwr.trans ((hbx _).mono hbwr.size)
        have hp' : aidxFrom ((lL ++ lR).take k) nm 0 < 0 := by omega
        by_cases hr : room < 1 ∨ 4 < room
        · have HR := hide hr
          have HE : Hid (∀ o, agE ⟨nm, room, la, ln, lc, likes⟩ ((lL ++ lR).take k) o = 9) := fun o => by simp only [agE]; rw [hnb, if_neg (by decide), if_neg hp, if_pos hr]
          clear hr hp
          rcases unhide HR with hr | hr
          · go_wp2_with (first | (go_at_call 21; refine (named_any nm _ hnm).mono ?_; rintro e w' ⟨rfl, rfl⟩) | (go_at_call 22; refine (hasText_names va k vc _ nm _ (hSx _)).mono ?_; rintro e w' ⟨rfl, rfl⟩))
            go_ret
            refine ⟨ret_int ?_, ?_⟩
            · rw [unhide HI, unhide hst, unhide HE, if_neg (by decide)]
            · exact hbwr.trans ((hbx _).mono hbwr.size)
          · have hr2 : ¬ room < 1 := by omega
            go_wp2_with (first | (go_at_call 21; refine (named_any nm _ hnm).mono ?_; rintro e w' ⟨rfl, rfl⟩) | (go_at_call 22; refine (hasText_names va k vc _ nm _ (hSx _)).mono ?_; rintro e w' ⟨rfl, rfl⟩))
            go_ret
            refine ⟨ret_int ?_, ?_⟩
            · rw [unhide HI, unhide hst, unhide HE, if_neg (by decide)]
            · exact hbwr.trans ((hbx _).mono hbwr.size)
        have HE : Hid (∀ o, agE ⟨nm, room, la, ln, lc, likes⟩ ((lL ++ lR).take k) o = likesFrom likes o 0) := fun o => by simp only [agE]; rw [hnb, if_neg (by decide), if_neg hp, if_neg hr]
        have hd1 : decide (room < 1) = false := by simp; omega
        have hd2 : decide (4 < room) = false := by simp; omega
        have hd0 : decide (0 ≤ aidxFrom ((lL ++ lR).take k) nm 0) = false := by simpa using hp'
        clear hr hp
        have hI0 := hI
        obtain ⟨hIn, hIc, hIm, hIrow⟩ := hI
        have HN := hide hIn
        clear hIn
        unfold maxLen at hIm
        have hcase : ln = 0 ∨ ∃ lb loff, la = some ⟨lb, loff, none⟩ := by
          rcases hIrow with hz | ⟨lb, loff, hla, _⟩
          · exact Or.inl hz
          · exact Or.inr ⟨lb, loff, hla⟩
        have HR := hide hIrow
        clear hIrow
        by_cases hkL : k < nL
        · rw [if_pos hkL] at hst
          have hlk : decide ((k : Int) < (nL : Int)) = true := by simp; omega
          rcases hcase with hz | ⟨lb, loff, rfl⟩
          · subst hz
            go_wp2_with (first | (go_at_call 21; refine (named_any nm _ hnm).mono ?_; rintro e w' ⟨rfl, rfl⟩) | (go_at_call 22; refine (hasText_names va k vc _ nm _ (hSx _)).mono ?_; rintro e w' ⟨rfl, rfl⟩))
            go_loopw [10, 11] (fun j _ wq => Below (wr.heap.size + 1) (wr.alloc (.cells #[.string nm, .int .i64 room, .slice la 0 lc] 27)) wq ∧ ∃ m : Nat, m ≤ 0 ∧ j = .int .i64 m ∧ likesFrom likes (nR : Int) 0 = likesFrom likes (nR : Int) m) (fun j _ _ => 0 - (intOf j).toNat)
            case atStart => exact ⟨Below.refl _ _, 0, Nat.zero_le _, rfl, rfl⟩
            case round =>
              rename World => wq
              obtain ⟨hbq, m, hm, rfl, hjn⟩ := hrel
              have HJ := hide hjn
              clear hjn
              have f0 : wq.cell? ⟨wr.heap.size, 0, none⟩ = some (.string nm) := (hbq.cell (p := ⟨wr.heap.size, 0, none⟩) (by simp)).trans (by simp)
              have f2 : wq.cell? ⟨wr.heap.size, 2, none⟩ = some (.slice la 0 lc) := (hbq.cell (p := ⟨wr.heap.size, 2, none⟩) (by simp)).trans (by simp)
              have hszq : wr.heap.size < wq.heap.size := by have := hbq.size; simp at this; omega
              have hbz : Below w.heap.size w wq := hbwr.trans (((hbx _).trans (hbq.mono (by omega))).mono hbwr.size)
              by_cases hm2 : m < 0
              · skip
                exfalso
                omega
              · have hbo : Below wr.heap.size wr wq := (hbx _).trans (hbq.mono (by omega))
                have hownq := owns_later hown hbo
                have HO := hide hownq
                have hbB : wc.heap.size ≤ wq.heap.size := Nat.le_trans hbr.size hbo.size
                clear hownq
                go_wp2_with (at_builtin; refine wpList_append_str _ rfl _ _ rfl wc.heap.size (.slice va k vc) k _ rfl ((unhide HO).alloc _) wq.heap.size nm rfl (by simp) (by omega) (by simp; omega) ?_; intro v2 w2 ho2 hg2)
                go_roundw
                case rel =>
                  have hb5 := (((Below.refl wc.heap.size wq).alloc hbB (.cells #[.string nm] 9)).grown hg2 (by simp; omega) (fun q hq => ((unhide HO).lt q hq).1))
                  refine ⟨(hbr.trans (hbo.mono hbr.size)).trans hb5, k+1, by omega, by go_num, ?_, ?_⟩
                  · rw [← unhide HT]; exact ho2
                  · rw [unhide HI, unhide hst, unhide HE, unhide HJ, likesFrom_end (by have := unhide HN; omega), if_pos rfl]
                case measure => simp [intOf]; omega
          · skip
            go_wp2_with (first | (go_at_call 21; refine (named_any nm _ hnm).mono ?_; rintro e w' ⟨rfl, rfl⟩) | (go_at_call 22; refine (hasText_names va k vc _ nm _ (hSx _)).mono ?_; rintro e w' ⟨rfl, rfl⟩))
            go_loopw [10, 11] (fun j _ wq => Below (wr.heap.size + 1) (wr.alloc (.cells #[.string nm, .int .i64 room, .slice (some ⟨lb, loff, none⟩) ln lc] 27)) wq ∧ ∃ m : Nat, m ≤ ln ∧ j = .int .i64 m ∧ likesFrom likes (nR : Int) 0 = likesFrom likes (nR : Int) m) (fun j _ _ => ln - (intOf j).toNat)
            case atStart => exact ⟨Below.refl _ _, 0, Nat.zero_le _, rfl, rfl⟩
            case round =>
              rename World => wq
              obtain ⟨hbq, m, hm, rfl, hjn⟩ := hrel
              have HJ := hide hjn
              clear hjn
              have f0 : wq.cell? ⟨wr.heap.size, 0, none⟩ = some (.string nm) := (hbq.cell (p := ⟨wr.heap.size, 0, none⟩) (by simp)).trans (by simp)
              have f2 : wq.cell? ⟨wr.heap.size, 2, none⟩ = some (.slice (some ⟨lb, loff, none⟩) ln lc) := (hbq.cell (p := ⟨wr.heap.size, 2, none⟩) (by simp)).trans (by simp)
              have hszq : wr.heap.size < wq.heap.size := by have := hbq.size; simp at this; omega
              have hbz : Below w.heap.size w wq := hbwr.trans (((hbx _).trans (hbq.mono (by omega))).mono hbwr.size)
              by_cases hm2 : m < ln
              · skip
                have hck : wq.cell? ⟨lb, loff + m, none⟩ = some (.int .i64 (likes[m]?.getD 0)) := by
                  rcases unhide HR with hz | ⟨lb', loff', he, hlb, hcl⟩
                  · omega
                  · cases he
                    exact (hbq.cell (p := ⟨lb, loff + m, none⟩) (by show lb < wr.heap.size + 1; omega)).trans (((hbx _).cell (p := ⟨lb, loff + m, none⟩) hlb).trans (hcl m hm2))
                have hIq : Ints wq (some ⟨lb, loff, none⟩) ln lc likes := hI0.later ((hbx _).trans (hbq.mono (by omega)))
                have HL := hide (show m < likes.length by have := unhide HN; omega)
                by_cases he : likes[m]?.getD 0 < 0 ∨ (nR : Int) ≤ likes[m]?.getD 0
                · have HX := hide (likesFrom_who (unhide HL) he)
                  rcases he with he | he
                  · go_wp2
                    go_ret
                    exact ⟨ret_int (by rw [unhide HI, unhide hst, unhide HE, unhide HJ, unhide HX, if_neg (by decide)]), hbz⟩
                  · have he2 : ¬ likes[m]?.getD 0 < 0 := by omega
                    go_wp2
                    go_ret
                    exact ⟨ret_int (by rw [unhide HI, unhide hst, unhide HE, unhide HJ, unhide HX, if_neg (by decide)]), hbz⟩
                · have he1 : ¬ likes[m]?.getD 0 < 0 := by omega
                  have he2 : ¬ (nR : Int) ≤ likes[m]?.getD 0 := by omega
                  have HQ := hide (idx_take likes m (unhide HL))
                  by_cases hd : idxFrom likes (likes[m]?.getD 0) 0 < m
                  · have HX := hide (likesFrom_dbl (unhide HL) he ((unhide HQ).2 hd))
                    clear he
                    go_wp2_with fail
                    go_quiet ((go_at_call 12; exact Calls.quiet_of_same (place_any _ ln lc likes _ _ hIq)))
                    go_wp2
                    go_ret
                    exact ⟨ret_int (by rw [unhide HI, unhide hst, unhide HE, unhide HJ, unhide HX, if_neg (by decide)]), hbz.trans (below_drewN _ _ _)⟩
                  · have HX := hide (likesFrom_on (unhide HL) he (fun h => hd ((unhide HQ).1 h)))
                    clear he
                    have hd' : (m : Int) ≤ idxFrom likes (likes[m]?.getD 0) 0 := by omega
                    go_wp2_with fail
                    go_quiet ((go_at_call 12; exact Calls.quiet_of_same (place_any _ ln lc likes _ _ hIq)))
                    go_wp2
                    go_roundw
                    case rel => exact ⟨hbq.trans (below_drewN _ _ _), m+1, by omega, by go_num, by rw [unhide HJ, unhide HX]⟩
                    case measure => simp [intOf]; omega
              · have hbo : Below wr.heap.size wr wq := (hbx _).trans (hbq.mono (by omega))
                have hownq := owns_later hown hbo
                have HO := hide hownq
                have hbB : wc.heap.size ≤ wq.heap.size := Nat.le_trans hbr.size hbo.size
                clear hownq
                go_wp2_with (at_builtin; refine wpList_append_str _ rfl _ _ rfl wc.heap.size (.slice va k vc) k _ rfl ((unhide HO).alloc _) wq.heap.size nm rfl (by simp) (by omega) (by simp; omega) ?_; intro v2 w2 ho2 hg2)
                go_roundw
                case rel =>
                  have hb5 := (((Below.refl wc.heap.size wq).alloc hbB (.cells #[.string nm] 9)).grown hg2 (by simp; omega) (fun q hq => ((unhide HO).lt q hq).1))
                  refine ⟨(hbr.trans (hbo.mono hbr.size)).trans hb5, k+1, by omega, by go_num, ?_, ?_⟩
                  · rw [← unhide HT]; exact ho2
                  · rw [unhide HI, unhide hst, unhide HE, unhide HJ, likesFrom_end (by have := unhide HN; omega), if_pos rfl]
                case measure => simp [intOf]; omega
        · rw [if_neg hkL] at hst
          have hlk : decide ((k : Int) < (nL : Int)) = false := by simp; omega
          rcases hcase with hz | ⟨lb, loff, rfl⟩
          · subst hz
            go_wp2_with (first | (go_at_call 21; refine (named_any nm _ hnm).mono ?_; rintro e w' ⟨rfl, rfl⟩) | (go_at_call 22; refine (hasText_names va k vc _ nm _ (hSx _)).mono ?_; rintro e w' ⟨rfl, rfl⟩))
            go_loopw [10, 11] (fun j _ wq => Below (wr.heap.size + 1) (wr.alloc (.cells #[.string nm, .int .i64 room, .slice la 0 lc] 27)) wq ∧ ∃ m : Nat, m ≤ 0 ∧ j = .int .i64 m ∧ likesFrom likes (nL : Int) 0 = likesFrom likes (nL : Int) m) (fun j _ _ => 0 - (intOf j).toNat)
            case atStart => exact ⟨Below.refl _ _, 0, Nat.zero_le _, rfl, rfl⟩
            case round =>
              rename World => wq
              obtain ⟨hbq, m, hm, rfl, hjn⟩ := hrel
              have HJ := hide hjn
              clear hjn
              have f0 : wq.cell? ⟨wr.heap.size, 0, none⟩ = some (.string nm) := (hbq.cell (p := ⟨wr.heap.size, 0, none⟩) (by simp)).trans (by simp)
              have f2 : wq.cell? ⟨wr.heap.size, 2, none⟩ = some (.slice la 0 lc) := (hbq.cell (p := ⟨wr.heap.size, 2, none⟩) (by simp)).trans (by simp)
              have hszq : wr.heap.size < wq.heap.size := by have := hbq.size; simp at this; omega
              have hbz : Below w.heap.size w wq := hbwr.trans (((hbx _).trans (hbq.mono (by omega))).mono hbwr.size)
              by_cases hm2 : m < 0
              · skip
                exfalso
                omega
              · have hbo : Below wr.heap.size wr wq := (hbx _).trans (hbq.mono (by omega))
                have hownq := owns_later hown hbo
                have HO := hide hownq
                have hbB : wc.heap.size ≤ wq.heap.size := Nat.le_trans hbr.size hbo.size
                clear hownq
                go_wp2_with (at_builtin; refine wpList_append_str _ rfl _ _ rfl wc.heap.size (.slice va k vc) k _ rfl ((unhide HO).alloc _) wq.heap.size nm rfl (by simp) (by omega) (by simp; omega) ?_; intro v2 w2 ho2 hg2)
                go_roundw
                case rel =>
                  have hb5 := (((Below.refl wc.heap.size wq).alloc hbB (.cells #[.string nm] 9)).grown hg2 (by simp; omega) (fun q hq => ((unhide HO).lt q hq).1))
                  refine ⟨(hbr.trans (hbo.mono hbr.size)).trans hb5, k+1, by omega, by go_num, ?_, ?_⟩
                  · rw [← unhide HT]; exact ho2
                  · rw [unhide HI, unhide hst, unhide HE, unhide HJ, likesFrom_end (by have := unhide HN; omega), if_pos rfl]
                case measure => simp [intOf]; omega
          · skip
            go_wp2_with (first | (go_at_call 21; refine (named_any nm _ hnm).mono ?_; rintro e w' ⟨rfl, rfl⟩) | (go_at_call 22; refine (hasText_names va k vc _ nm _ (hSx _)).mono ?_; rintro e w' ⟨rfl, rfl⟩))
            go_loopw [10, 11] (fun j _ wq => Below (wr.heap.size + 1) (wr.alloc (.cells #[.string nm, .int .i64 room, .slice (some ⟨lb, loff, none⟩) ln lc] 27)) wq ∧ ∃ m : Nat, m ≤ ln ∧ j = .int .i64 m ∧ likesFrom likes (nL : Int) 0 = likesFrom likes (nL : Int) m) (fun j _ _ => ln - (intOf j).toNat)
            case atStart => exact ⟨Below.refl _ _, 0, Nat.zero_le _, rfl, rfl⟩
            case round =>
              rename World => wq
              obtain ⟨hbq, m, hm, rfl, hjn⟩ := hrel
              have HJ := hide hjn
              clear hjn
              have f0 : wq.cell? ⟨wr.heap.size, 0, none⟩ = some (.string nm) := (hbq.cell (p := ⟨wr.heap.size, 0, none⟩) (by simp)).trans (by simp)
              have f2 : wq.cell? ⟨wr.heap.size, 2, none⟩ = some (.slice (some ⟨lb, loff, none⟩) ln lc) := (hbq.cell (p := ⟨wr.heap.size, 2, none⟩) (by simp)).trans (by simp)
              have hszq : wr.heap.size < wq.heap.size := by have := hbq.size; simp at this; omega
              have hbz : Below w.heap.size w wq := hbwr.trans (((hbx _).trans (hbq.mono (by omega))).mono hbwr.size)
              by_cases hm2 : m < ln
              · skip
                have hck : wq.cell? ⟨lb, loff + m, none⟩ = some (.int .i64 (likes[m]?.getD 0)) := by
                  rcases unhide HR with hz | ⟨lb', loff', he, hlb, hcl⟩
                  · omega
                  · cases he
                    exact (hbq.cell (p := ⟨lb, loff + m, none⟩) (by show lb < wr.heap.size + 1; omega)).trans (((hbx _).cell (p := ⟨lb, loff + m, none⟩) hlb).trans (hcl m hm2))
                have hIq : Ints wq (some ⟨lb, loff, none⟩) ln lc likes := hI0.later ((hbx _).trans (hbq.mono (by omega)))
                have HL := hide (show m < likes.length by have := unhide HN; omega)
                by_cases he : likes[m]?.getD 0 < 0 ∨ (nL : Int) ≤ likes[m]?.getD 0
                · have HX := hide (likesFrom_who (unhide HL) he)
                  rcases he with he | he
                  · go_wp2
                    go_ret
                    exact ⟨ret_int (by rw [unhide HI, unhide hst, unhide HE, unhide HJ, unhide HX, if_neg (by decide)]), hbz⟩
                  · have he2 : ¬ likes[m]?.getD 0 < 0 := by omega
                    go_wp2
                    go_ret
                    exact ⟨ret_int (by rw [unhide HI, unhide hst, unhide HE, unhide HJ, unhide HX, if_neg (by decide)]), hbz⟩
                · have he1 : ¬ likes[m]?.getD 0 < 0 := by omega
                  have he2 : ¬ (nL : Int) ≤ likes[m]?.getD 0 := by omega
                  have HQ := hide (idx_take likes m (unhide HL))
                  by_cases hd : idxFrom likes (likes[m]?.getD 0) 0 < m
                  · have HX := hide (likesFrom_dbl (unhide HL) he ((unhide HQ).2 hd))
                    clear he
                    go_wp2_with fail
                    go_quiet ((go_at_call 12; exact Calls.quiet_of_same (place_any _ ln lc likes _ _ hIq)))
                    go_wp2
                    go_ret
                    exact ⟨ret_int (by rw [unhide HI, unhide hst, unhide HE, unhide HJ, unhide HX, if_neg (by decide)]), hbz.trans (below_drewN _ _ _)⟩
                  · have HX := hide (likesFrom_on (unhide HL) he (fun h => hd ((unhide HQ).1 h)))
                    clear he
                    have hd' : (m : Int) ≤ idxFrom likes (likes[m]?.getD 0) 0 := by omega
                    go_wp2_with fail
                    go_quiet ((go_at_call 12; exact Calls.quiet_of_same (place_any _ ln lc likes _ _ hIq)))
                    go_wp2
                    go_roundw
                    case rel => exact ⟨hbq.trans (below_drewN _ _ _), m+1, by omega, by go_num, by rw [unhide HJ, unhide HX]⟩
                    case measure => simp [intOf]; omega
              · have hbo : Below wr.heap.size wr wq := (hbx _).trans (hbq.mono (by omega))
                have hownq := owns_later hown hbo
                have HO := hide hownq
                have hbB : wc.heap.size ≤ wq.heap.size := Nat.le_trans hbr.size hbo.size
                clear hownq
                go_wp2_with (at_builtin; refine wpList_append_str _ rfl _ _ rfl wc.heap.size (.slice va k vc) k _ rfl ((unhide HO).alloc _) wq.heap.size nm rfl (by simp) (by omega) (by simp; omega) ?_; intro v2 w2 ho2 hg2)
                go_roundw
                case rel =>
                  have hb5 := (((Below.refl wc.heap.size wq).alloc hbB (.cells #[.string nm] 9)).grown hg2 (by simp; omega) (fun q hq => ((unhide HO).lt q hq).1))
                  refine ⟨(hbr.trans (hbo.mono hbr.size)).trans hb5, k+1, by omega, by go_num, ?_, ?_⟩
                  · rw [← unhide HT]; exact ho2
                  · rw [unhide HI, unhide hst, unhide HE, unhide HJ, likesFrom_end (by have := unhide HN; omega), if_pos rfl]
                case measure => simp [intOf]; omega
      · go_wp2
        go_ret
        exact ⟨ret_int (by rw [unhide HI, mayFrom_end (by have := unhide HA; omega)]), hbwr⟩
set_option maxHeartbeats 1000000 in
theorem ranksMay_any (aL : Option Addr) (nL cL : Nat) (lL : List Ag) (aR : Option Addr) (nR cR : Nat) (lR : List Ag) (w : World) (hL : Ags w aL nL cL lL) (hR : Ags w aR nR cR lR) :
    Calls Tryd.prog 10 #[.agg #[.slice aL nL cL, .slice aR nR cR]] w fun e w' => e = .returned (.int .i64 (mayE lL lR)) ∧ Below w.heap.size w w' := by
  have hlL := hide hL.1
  have hlR := hide hR.1
  by_cases h1 : 6 < nL
  · go_enter Tryd.func10, Tryd.ntmps10
    go_wp2
    go_ret
    exact ⟨ret_int (by unfold mayE; rw [if_pos (Or.inl (by have := unhide hlL; omega))]), by go_grown⟩
  by_cases h2 : 6 < nR
  · go_enter Tryd.func10, Tryd.ntmps10
    go_wp2
    go_ret
    exact ⟨ret_int (by unfold mayE; rw [if_pos (Or.inr (by have := unhide hlR; omega))]), by go_grown⟩
  refine (ranksMay_main aL nL cL lL aR nR cR lR w hL hR h1 h2).mono ?_
  rintro e w' ⟨rfl, hb⟩
  refine ⟨ret_int ?_, hb⟩
  unfold mayE
  rw [if_neg (by have := unhide hlL; have := unhide hlR; omega), ← unhide hlL, ← unhide hlR]
end Go.Proofs.YtajdijjecojdhaaDoor
