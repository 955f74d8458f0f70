import Derived.Test.YtodbnjainpjkcaaK
namespace Go.Proofs.Ytodbnjainpjkcaa
open Go.RowKit
set_option maxRecDepth 100000 in
set_option maxHeartbeats 1000000 in
theorem mmay_any (aL : Option Addr) (nL cL : Nat) (lL : List Ag) (aR : Option Addr) (nR cR : Nat) (lR : List Ag) (w : World) (hL : Ags w aL nL cL lL) (hR : Ags w aR nR cR lR) :
    Calls Try.prog 31 #[.agg #[.slice aL nL cL, .slice aR nR cR]] w fun e w' => e = .returned (.int .i64 (matchE lL lR)) ∧ Below w.heap.size w w' := by
  have hlL := hide hL.1
  have hlR := hide hR.1
  have hcL := hL.2.2.1
  have hcR := hR.2.2.1
  have hnL := hL.2.1
  have hnR := hR.2.1
  unfold maxLen at hcL hcR
  obtain ⟨wA, hwA⟩ : ∃ y, y = w.alloc (.cells #[.slice aL nL cL, .slice aR nR cR] 26) := ⟨_, rfl⟩
  have hbA : Below w.heap.size w wA := by rw [hwA]; go_grown
  have a0 : wA.cell? ⟨w.heap.size, 0, none⟩ = some (.slice aL nL cL) := by rw [hwA]; simp
  have a1 : wA.cell? ⟨w.heap.size, 1, none⟩ = some (.slice aR nR cR) := by rw [hwA]; simp
  have HW := hide hwA
  clear hwA
  by_cases hz : mayE lL lR = 0
  · have HE : Hid (matchE lL lR = wideE (firstFrom (wideP lL) nL 0)) := by
      show matchE lL lR = _
      unfold matchE
      rw [if_pos hz, unhide hlL]
    have hzb : mayE lL lR = 0 := hz
    go_enter Try.func31, Try.ntmps31
    go_wp2_with (go_at_call 53; rw [← unhide HW]; refine (may_any aL nL cL lL aR nR cR lR wA (hL.later hbA) (hR.later hbA)).mono ?_; rintro e w1 ⟨rfl, hb1⟩; rw [hzb]; have e0 := (hb1.cell (p := ⟨w.heap.size, 0, none⟩) (World.block_lt_of_cell? wA _ a0)).trans a0; have e1 := (hb1.cell (p := ⟨w.heap.size, 1, none⟩) (World.block_lt_of_cell? wA _ a1)).trans a1; have hb1w := hbA.trans (hb1.mono hbA.size); clear a0 a1)
    have hL1 := hL.later hb1w
    have hrow := hL1.2.2.2.2
    clear hL1
    rcases hrow with h0 | ⟨b, off, rfl, hb, hcell⟩
    · subst h0
      refine wp_loop_rounds 1 ?_
      rw [rounds_succ]
      go_wp2
      go_ret
      exact ⟨ret_int (by rw [unhide HE, firstFrom_end (by omega)]; rfl), hb1w⟩
    · go_loopw [14, 5] (fun i _ wr => Below w1.heap.size w1 wr ∧ ∃ k : Nat, k ≤ nL ∧ i = .int .i64 k ∧ firstFrom (wideP lL) nL 0 = firstFrom (wideP lL) nL k) (fun i _ _ => nL - (intOf i).toNat)
      case atStart => exact ⟨Below.refl _ _, 0, Nat.zero_le _, rfl, rfl⟩
      case round =>
        obtain ⟨hbr, k, hk, rfl, hn⟩ := hrel
        have HI := hide hn
        clear hn
        have hbwr : Below w.heap.size w wr := hb1w.trans (hbr.mono hb1w.size)
        have f0 := (hbr.cell (p := ⟨w.heap.size, 0, none⟩) (World.block_lt_of_cell? w1 _ e0)).trans e0; have f1 := (hbr.cell (p := ⟨w.heap.size, 1, none⟩) (World.block_lt_of_cell? w1 _ e1)).trans e1; 
        by_cases hlt : k < nL
        · obtain ⟨q1, q2, q3⟩ := hcell k hlt
          have r1 := (hbr.cell (p := ⟨b, off + k * 3, none⟩) hb).trans q1
          have r2 := (hbr.cell (p := ⟨b, off + k * 3 + 1, none⟩) hb).trans q2
          have r3 := (hbr.cell (p := ⟨b, off + k * 3 + 2, none⟩) hb).trans q3
          clear q1 q2 q3
          have hszb : b < wr.heap.size := Nat.lt_of_lt_of_le hb hbr.size
          by_cases hp : wideP lL k = true
          · have HY := hide (firstFrom_yes (P := wideP lL) hlt hp)
            have hp' := of_decide_eq_true hp
            clear hp
            generalize agAt lL k = G at *
            obtain ⟨nm, room, la, ln, lc, likes⟩ := G
            simp only at r1 r2 r3 hp'
            go_wp2
            go_ret
            exact ⟨ret_int (by rw [unhide HE, unhide HI, unhide HY]; rfl), by first | exact hbwr | exact hbwr.trans (Below.mono (show Below wr.heap.size wr _ by go_grown) hbwr.size)⟩
          · have hpf : wideP lL k = false := by simpa using hp
            have HY := hide (firstFrom_no (P := wideP lL) hlt hpf)
            have hp' := of_decide_eq_false hpf
            clear hp hpf
            generalize agAt lL k = G at *
            obtain ⟨nm, room, la, ln, lc, likes⟩ := G
            simp only at r1 r2 r3 hp'
            have hp2 : decide (1 < room) = false := decide_eq_false hp'
            go_wp2
            go_roundw
            case rel => exact ⟨by first | exact hbr | exact hbr.trans (Below.mono (show Below wr.heap.size wr _ by go_grown) hbr.size), k+1, by omega, by go_num, by rw [unhide HI, unhide HY]⟩
            case measure => simp [intOf]; omega
        · go_wp2
          go_ret
          exact ⟨ret_int (by rw [unhide HE, unhide HI, firstFrom_end (by omega)]; rfl), hbwr⟩
  · have HE : Hid (matchE lL lR = mayE lL lR) := by show matchE lL lR = _; unfold matchE; rw [if_neg hz]
    have hzb : (mayE lL lR != 0) = true := by simpa using hz
    clear hz
    go_enter Try.func31, Try.ntmps31
    go_wp2_with (go_at_call 53; rw [← unhide HW]; refine (may_any aL nL cL lL aR nR cR lR wA (hL.later hbA) (hR.later hbA)).mono ?_; rintro e w1 ⟨rfl, hb1⟩)
    go_ret
    exact ⟨ret_int (unhide HE).symm, hbA.trans (hb1.mono hbA.size)⟩
set_option maxRecDepth 100000 in
set_option maxHeartbeats 1000000 in
theorem mmayD_any (aL : Option Addr) (nL cL : Nat) (lL : List Ag) (aR : Option Addr) (nR cR : Nat) (lR : List Ag) (w : World) (hL : Ags w aL nL cL lL) (hR : Ags w aR nR cR lR) :
    Calls Try.prog 46 #[.agg #[.slice aL nL cL, .slice aR nR cR]] w fun e w' => e = .returned (.int .i64 (matchE lL lR)) ∧ Below w.heap.size w w' := by
  have hlL := hide hL.1
  have hlR := hide hR.1
  have hcL := hL.2.2.1
  have hcR := hR.2.2.1
  have hnL := hL.2.1
  have hnR := hR.2.1
  unfold maxLen at hcL hcR
  obtain ⟨wA, hwA⟩ : ∃ y, y = w.alloc (.cells #[.slice aL nL cL, .slice aR nR cR] 26) := ⟨_, rfl⟩
  have hbA : Below w.heap.size w wA := by rw [hwA]; go_grown
  have a0 : wA.cell? ⟨w.heap.size, 0, none⟩ = some (.slice aL nL cL) := by rw [hwA]; simp
  have a1 : wA.cell? ⟨w.heap.size, 1, none⟩ = some (.slice aR nR cR) := by rw [hwA]; simp
  have HW := hide hwA
  clear hwA
  by_cases hz : mayE lL lR = 0
  · have HE : Hid (matchE lL lR = wideE (firstFrom (notOneP lL) nL 0)) := by
      show matchE lL lR = _
      unfold matchE
      rw [if_pos hz, unhide hlL, match_d lL lR hz]
    have hzb : mayE lL lR = 0 := hz
    go_enter Try.func46, Try.ntmps46
    go_wp2_with (go_at_call 59; rw [← unhide HW]; refine (ranksMay_any aL nL cL lL aR nR cR lR wA (hL.later hbA) (hR.later hbA)).mono ?_; rintro e w1 ⟨rfl, hb1⟩; rw [hzb]; have e0 := (hb1.cell (p := ⟨w.heap.size, 0, none⟩) (World.block_lt_of_cell? wA _ a0)).trans a0; have e1 := (hb1.cell (p := ⟨w.heap.size, 1, none⟩) (World.block_lt_of_cell? wA _ a1)).trans a1; have hb1w := hbA.trans (hb1.mono hbA.size); clear a0 a1)
    have hL1 := hL.later hb1w
    have hrow := hL1.2.2.2.2
    clear hL1
    rcases hrow with h0 | ⟨b, off, rfl, hb, hcell⟩
    · subst h0
      refine wp_loop_rounds 1 ?_
      rw [rounds_succ]
      go_wp2
      go_ret
      exact ⟨ret_int (by rw [unhide HE, firstFrom_end (by omega)]; rfl), hb1w⟩
    · go_loopw [4] (fun i wr => Below w1.heap.size w1 wr ∧ ∃ k : Nat, k ≤ nL ∧ i = .int .i64 k ∧ firstFrom (notOneP lL) nL 0 = firstFrom (notOneP lL) nL k) (fun i _ => nL - (intOf i).toNat)
      case atStart => exact ⟨Below.refl _ _, 0, Nat.zero_le _, rfl, rfl⟩
      case round =>
        obtain ⟨hbr, k, hk, rfl, hn⟩ := hrel
        have HI := hide hn
        clear hn
        have hbwr : Below w.heap.size w wr := hb1w.trans (hbr.mono hb1w.size)
        have f0 := (hbr.cell (p := ⟨w.heap.size, 0, none⟩) (World.block_lt_of_cell? w1 _ e0)).trans e0; have f1 := (hbr.cell (p := ⟨w.heap.size, 1, none⟩) (World.block_lt_of_cell? w1 _ e1)).trans e1; 
        by_cases hlt : k < nL
        · obtain ⟨q1, q2, q3⟩ := hcell k hlt
          have r1 := (hbr.cell (p := ⟨b, off + k * 3, none⟩) hb).trans q1
          have r2 := (hbr.cell (p := ⟨b, off + k * 3 + 1, none⟩) hb).trans q2
          have r3 := (hbr.cell (p := ⟨b, off + k * 3 + 2, none⟩) hb).trans q3
          clear q1 q2 q3
          have hszb : b < wr.heap.size := Nat.lt_of_lt_of_le hb hbr.size
          by_cases hp : notOneP lL k = true
          · have HY := hide (firstFrom_yes (P := notOneP lL) hlt hp)
            have hp' := of_decide_eq_true hp
            clear hp
            generalize agAt lL k = G at *
            obtain ⟨nm, room, la, ln, lc, likes⟩ := G
            simp only at r1 r2 r3 hp'
            have hp2 : (room != 1) = true := by simpa using hp'
            go_wp2
            go_ret
            exact ⟨ret_int (by rw [unhide HE, unhide HI, unhide HY]; rfl), by first | exact hbwr | exact hbwr.trans (Below.mono (show Below wr.heap.size wr _ by go_grown) hbwr.size)⟩
          · have hpf : notOneP lL k = false := by simpa using hp
            have HY := hide (firstFrom_no (P := notOneP lL) hlt hpf)
            have hp' := of_decide_eq_false hpf
            clear hp hpf
            generalize agAt lL k = G at *
            obtain ⟨nm, room, la, ln, lc, likes⟩ := G
            simp only at r1 r2 r3 hp'
            have hp2 : (room != 1) = false := by simpa using hp'
            go_wp2
            go_roundw
            case rel => exact ⟨by first | exact hbr | exact hbr.trans (Below.mono (show Below wr.heap.size wr _ by go_grown) hbr.size), k+1, by omega, by go_num, by rw [unhide HI, unhide HY]⟩
            case measure => simp [intOf]; omega
        · go_wp2
          go_ret
          exact ⟨ret_int (by rw [unhide HE, unhide HI, firstFrom_end (by omega)]; rfl), hbwr⟩
  · have HE : Hid (matchE lL lR = mayE lL lR) := by show matchE lL lR = _; unfold matchE; rw [if_neg hz]
    have hzb : (mayE lL lR != 0) = true := by simpa using hz
    clear hz
    go_enter Try.func46, Try.ntmps46
    go_wp2_with (go_at_call 59; rw [← unhide HW]; refine (ranksMay_any aL nL cL lL aR nR cR lR wA (hL.later hbA) (hR.later hbA)).mono ?_; rintro e w1 ⟨rfl, hb1⟩)
    go_ret
    exact ⟨ret_int (unhide HE).symm, hbA.trans (hb1.mono hbA.size)⟩
theorem in_any (a : Option Addr) (n c : Nat) (l : List Int) (x : Int) (w : World) (h : Ints w a n c l) :
    Calls Try.prog 76 #[.int .i64 x, .slice a n c] w fun e w' => e = .returned (.bool (decide (0 ≤ idxFrom l x 0))) ∧ w' = w := by
  go_enter Try.func76, Try.ntmps76
  go_wp2_with (go_at_call 23; refine (place_any _ _ _ l _ _ h).mono ?_; rintro e w' ⟨rfl, rfl⟩)
  go_ret
  exact ⟨rfl, rfl⟩
set_option maxRecDepth 100000 in
set_option maxHeartbeats 1000000 in
theorem likes_any (aL : Option Addr) (nL cL : Nat) (lL : List Ag) (aR : Option Addr) (nR cR : Nat) (lR : List Ag) (l r : Nat) (w : World) (hL : Ags w aL nL cL lL) (hR : Ags w aR nR cR lR) (hl : l < nL) (hr : r < nR) :
    Calls Try.prog 61 #[.agg #[.slice aL nL cL, .slice aR nR cR], .int .i64 l, .int .i64 r] w fun e w' => e = .returned (.bool (likeB lL lR l r)) ∧ Below w.heap.size w w' := by
  have hcL := hL.2.2.1
  have hcR := hR.2.2.1
  have hnL := hL.2.1
  have hnR := hR.2.1
  unfold maxLen at hcL hcR
  obtain ⟨bL, oL, rfl, hbL, p1, p2, p3⟩ := hL.at hl
  obtain ⟨bR, oR, rfl, hbR, q1, q2, q3⟩ := hR.at hr
  have hIL := (hL.mem hl).1
  have hIR := (hR.mem hr).1
  have HB := hide (show likeB lL lR l r = (decide (0 ≤ idxFrom (agAt lL l).likes r 0) && decide (0 ≤ idxFrom (agAt lR r).likes l 0)) from rfl)
  generalize agAt lL l = G at *
  obtain ⟨nm, room, la, ln, lc, likes⟩ := G
  generalize agAt lR r = G at *
  obtain ⟨nm', room', la', ln', lc', likes'⟩ := G
  simp only at p1 p2 p3 q1 q2 q3 hIL hIR HB
  have hbA : Below w.heap.size w (w.alloc (.cells #[.slice (some ⟨bL, oL, none⟩) nL cL, .slice (some ⟨bR, oR, none⟩) nR cR] 26)) := by go_grown
  have hIA := hIL.later hbA
  have hIB := hIR.later hbA
  cases h1 : decide (0 ≤ idxFrom likes r 0) with
  | true =>
    have HB2 : Hid (likeB lL lR l r = decide (0 ≤ idxFrom likes' l 0)) := by have := unhide HB; rw [h1, Bool.true_and] at this; exact this
    go_enter Try.func61, Try.ntmps61
    go_wp2_with (first | (go_at_call 76; refine (in_any la ln lc likes r _ hIA).mono ?_; rintro e w1 ⟨rfl, rfl⟩; rw [h1]) | (go_at_call 76; refine (in_any la' ln' lc' likes' l _ hIB).mono ?_; rintro e w2 ⟨rfl, rfl⟩))
    go_ret
    exact ⟨ret_bool (unhide HB2).symm, hbA⟩
  | false =>
    have HB2 : Hid (likeB lL lR l r = false) := by have := unhide HB; rw [h1, Bool.false_and] at this; exact this
    go_enter Try.func61, Try.ntmps61
    go_wp2_with (first | (go_at_call 76; refine (in_any la ln lc likes r _ hIA).mono ?_; rintro e w1 ⟨rfl, rfl⟩; rw [h1]) | (go_at_call 76; refine (in_any la' ln' lc' likes' l _ hIB).mono ?_; rintro e w2 ⟨rfl, rfl⟩))
    go_ret
    exact ⟨ret_bool (unhide HB2).symm, hbA⟩
theorem info3 : (Try.prog.info? 3).map (fun i => (i.zero, i.size, i.bytes)) = some (some (.int .i64 0), 1, 8) := by kernel_rfl
def intVals (l : List Int) : List Value := l.map (Value.int .i64)
theorem wpList_append_int (w : World) {ops : Array Oper} {rest : List Oper} {o : Oper} {a : Act} {Q : Exit → Act → World → Prop} (hgd : o.guard = none) (s x : Operand)
    (ho : o.op = .call { callee := .builtin .append, args := #[s, x], argTypes := #[22, 22] })
    (base : Nat) (v : Value) (n : Nat) (xs : List Value) (hs : a.eval s = v) (hown : w.ownsRow base 3 1 v n xs)
    (g : Nat) (y : Int) (hx : a.eval x = .slice (some ⟨g, 0, none⟩) 1 1) (hc : w.cell? ⟨g, 0, none⟩ = some (.int .i64 y))
    (hsm : n ≤ 1000) (hbase : base ≤ w.heap.size)
    (hK : ∀ v' w', w'.ownsRow base 3 1 v' (n + 1) (xs ++ [.int .i64 y]) → w.grownBy w' v.ownBlock → wpList Try.prog ops Q rest (a.put o.dst v') w') : wpList Try.prog ops Q (o :: rest) a w := by
  obtain ⟨i9, hi9, hz90, hz91, hz92⟩ := info_parts info3
  exact wpList_append_own w hgd s x 22 ho base 3 i9 _ 1 8 Try.underlying22 hi9 hz90 hz91 hz92 rfl (by decide) v n xs hs hown ⟨g, 0, none⟩ 1 1 [.int .i64 y] hx rfl
    (fun j u hu => by
      cases j with
      | zero => simp at hu; subst hu; simpa [Addr.add] using hc
      | succ j => simp at hu)
    (fun u hu => by simp at hu; subst hu; rfl) (by unfold maxLen; omega) (by omega) hbase (fun v' w' h1 h2 _ => hK v' w' h1 h2)
theorem Ints.of_owns {w : World} {B : Nat} {v : Value} {n : Nat} {l : List Int} (h : w.ownsRow B 3 1 v n (intVals l)) (hn : n ≤ 1000) : ∃ a c, v = .slice a n c ∧ Ints w a n c l ∧ (n = 0 ∨ ∃ g, B ≤ g ∧ g < w.heap.size ∧ a = some ⟨g, 0, none⟩) := by
  have hl : l.length = n := by have := h.1; simp [intVals] at this; omega
  have h0 := h
  rcases h.2 with ⟨rfl, rfl⟩ | ⟨g, cap, cur, rfl, hbg, hgg, hnc, hcm, hcs, htake⟩
  · exact ⟨none, 0, rfl, ⟨hl.symm, Nat.le_refl _, by unfold maxLen; omega, .inl rfl⟩, .inl rfl⟩
  · by_cases hz : n = 0
    · exact ⟨_, cap, rfl, ⟨hl.symm, hnc, hcm, .inl hz⟩, .inl hz⟩
    · have hc0 : ∀ j, j < n → w.cell? ⟨g, 0 + j, none⟩ = some (.int .i64 (l[j]?.getD 0)) := fun j hj => by
        rw [Nat.zero_add, h0.cellAt j (by omega), intVals, List.getElem?_map, List.getElem?_eq_getElem (show j < l.length by omega)]
        simp
      have hlt : g < w.heap.size := World.block_lt_of_cell? w _ (hc0 0 (by omega))
      exact ⟨_, cap, rfl, ⟨hl.symm, hnc, hcm, .inr ⟨g, 0, rfl, hlt, hc0⟩⟩, .inr ⟨g, hbg, hlt, rfl⟩⟩
set_option maxHeartbeats 1000000 in
theorem goes_any (a : Option Addr) (n c : Nat) (l : List Int) (r : Int) (w : World) (h : Ints w a n c l) (hs : n ≤ 1000) :
    Calls Try.prog 16 #[.slice a n c, .int .i64 r] w fun e w' => ∃ v, e = .returned v ∧ w'.ownsRow w.heap.size 3 1 v (goesTo l r n).length (intVals (goesTo l r n)) ∧ Below w.heap.size w w' := by
  have h00 := h
  obtain ⟨hn, hc, hm, h⟩ := h
  unfold maxLen at hm
  rcases h with h0 | ⟨b, off, rfl, hb, hcell⟩
  · subst h0
    go_enter Try.func16, Try.ntmps16
    go_wp2
    refine wp_loop_rounds 1 ?_
    rw [rounds_succ]
    go_wp2
    go_ret
    exact ⟨_, rfl, World.ownsRow_nil _ _ _ _, Below.refl _ _⟩
  · have HN : Hid (n = l.length) := hn
    clear hn
    go_enter Try.func16, Try.ntmps16
    go_wp2
    go_loopw [6, 5] (fun i v wr => Below w.heap.size w wr ∧ ∃ k : Nat, k ≤ n ∧ i = .int .i64 k ∧ wr.ownsRow w.heap.size 3 1 v (goesTo l r k).length (intVals (goesTo l r k))) (fun i _ _ => n - (intOf i).toNat)
    case atStart => exact ⟨Below.refl _ _, 0, Nat.zero_le _, rfl, World.ownsRow_nil _ _ _ _⟩
    case round =>
      obtain ⟨hbr, k, hk, rfl, hown⟩ := hrel
      have hglen := goes_len l r k (by have := HN.out; omega)
      have hgle := cnt_le l r k
      by_cases hlt : k < n
      · have hck : wr.cell? ⟨b, off + k, none⟩ = some (.int .i64 (l[k]?.getD 0)) := (hbr.cell (p := ⟨b, off + k, none⟩) hb).trans (hcell k hlt)
        by_cases he : l[k]?.getD 0 = r
        · have HG := hide (goes_yes he)
          have ge : (l[k]?.getD 0 == r) = true := by simpa using he
          clear he
          have HO := hide hown
          clear hown
          go_wp2_with (at_builtin; refine wpList_append_int _ rfl _ _ rfl w.heap.size _ (goesTo l r k).length _ rfl ((unhide HO).alloc _) wr.heap.size (k : Int) rfl (by simp) (by omega) (by have := hbr.size; simp; omega) ?_; intro v2 w2 ho2 hg2)
          go_roundw
          case rel =>
            have hb5 := (((Below.refl w.heap.size wr).alloc hbr.size (.cells #[.int .i64 (k : Int)] 3)).grown hg2 (by have := hbr.size; simp; omega) (fun q hq => ((unhide HO).lt q hq).1))
            refine ⟨hbr.trans hb5, k+1, by omega, by go_num, ?_⟩
            rw [unhide HG, List.length_append]
            unfold intVals at ho2 ⊢
            rw [List.map_append]
            exact ho2
          case measure => simp [intOf]; omega
        · have HG := hide (goes_no he)
          have ge : (l[k]?.getD 0 == r) = false := by simpa using he
          clear he
          go_wp2
          go_roundw
          case rel => exact ⟨hbr, k+1, by omega, by go_num, by rw [unhide HG]; exact hown⟩
          case measure => simp [intOf]; omega
      · go_wp2
        go_ret
        obtain rfl : k = n := by omega
        exact ⟨_, rfl, hown, hbr⟩
end Go.Proofs.Ytodbnjainpjkcaa
