import Derived.Test.YtodbnjainpjkcaaKK
namespace Go.Proofs.Ytodbnjainpjkcaa
open Go.RowKit
/-- What AllStable gives: its error, or all of them. -/
def AllGot (lL lR : List Ag) (w : World) (e : Ending) (w' : World) : Prop :=
  ∃ a n c L, e = .returned (two (.slice a n c) (matchE lL lR)) ∧ Lsts w' a n c L ∧ lists L = (if matchE lL lR = 0 then docF lL lR lL.length [] else []) ∧ Below w.heap.size w w'
set_option maxRecDepth 100000 in
theorem allStable_any (aL : Option Addr) (nL cL : Nat) (lL : List Ag) (aR : Option Addr) (nR cR : Nat) (lR : List Ag) (w : World) (hL : Ags w aL nL cL lL) (hR : Ags w aR nR cR lR) :
    Calls Try.prog 25 #[.agg #[.slice aL nL cL, .slice aR nR cR]] w fun e w' => AllGot lL lR w e w' := by
  obtain ⟨wA, hwA⟩ : ∃ y, y = w.alloc (.cells #[.slice aL nL cL, .slice aR nR cR] 26) := ⟨_, rfl⟩
  have hbA : Below w.heap.size w wA := by rw [hwA]; go_grown
  have p0a : wA.cell? ⟨w.heap.size, 0, none⟩ = some (.slice aL nL cL) := by rw [hwA]; simp
  have p1a : wA.cell? ⟨w.heap.size, 1, none⟩ = some (.slice aR nR cR) := by rw [hwA]; simp
  have HW := hide hwA
  clear hwA
  go_enter Try.func25, Try.ntmps25
  go_wp2_with fail
  rw [← unhide HW]
  refine (mmayD_any aL nL cL lL aR nR cR lR wA (hL.later hbA) (hR.later hbA)).mono ?_
  rintro e w1 ⟨rfl, hb1⟩
  have hbw1 := hbA.trans (hb1.mono hbA.size)
  have p0b := (hb1.cell (p := ⟨w.heap.size, 0, none⟩) (World.block_lt_of_cell? wA _ p0a)).trans p0a
  have p1b := (hb1.cell (p := ⟨w.heap.size, 1, none⟩) (World.block_lt_of_cell? wA _ p1a)).trans p1a
  clear p0a p1a
  by_cases hz : matchE lL lR = 0
  · have HZ := hide hz
    rw [hz]
    have h6 := may_six (match_may hz)
    clear hz
    go_wp2_with fail
    refine (stableFrom_any lL lR h6.1 h6.2 lL.length aL nL cL aR nR cR none 0 0 [] w1 (hL.later hbw1) (hR.later hbw1) ⟨rfl, Nat.le_refl _, by unfold maxLen; omega, .inl rfl⟩ (Or.inl rfl) (by simp)).mono ?_
    rintro e w2 ⟨v, n, L, rfl, ho, hi, hl, hb2⟩
    obtain ⟨a, c, hv, hLs⟩ := Lsts.of_owns ho (fun s hs => (hi s hs).1)
    subst hv
    go_wp2
    go_ret2
    exact ⟨a, n, c, L, by rw [unhide HZ]; rfl, hLs, by rw [if_pos (unhide HZ)]; exact hl, hbw1.trans (hb2.mono hbw1.size)⟩
  · have hzb : (matchE lL lR != 0) = true := by simpa using hz
    have HZ := hide hz
    clear hz
    go_wp2
    go_ret2
    exact ⟨none, 0, 0, [], rfl, ⟨rfl, Nat.le_refl _, by unfold maxLen; omega, (fun s hs => by cases hs), .inl rfl⟩, by rw [if_neg (unhide HZ)]; rfl, hbw1⟩
set_option maxRecDepth 100000 in
set_option maxHeartbeats 4000000 in
theorem bestT_any (aL : Option Addr) (nL cL : Nat) (lL : List Ag) (aR : Option Addr) (nR cR : Nat) (lR : List Ag) (w : World) (hL : Ags w aL nL cL lL) (hR : Ags w aR nR cR lR) (hfL : ∀ g ∈ lL, g.ln ≤ 500) (hz : matchE lL lR = 0) (o : List Int) (l : List (List Int)) (hdoc : docF lL lR lL.length [] = o :: l) :
    Calls Try.prog 27 #[.agg #[.slice aL nL cL, .slice aR nR cR], .bool true] w fun e w' => ∃ a n c, e = .returned (two (.slice a n c) 0) ∧ Ints w' a n c (bestT lL lR o l) ∧ Below w.heap.size w w' := by
  obtain ⟨wA, hwA⟩ : ∃ y, y = w.alloc (.cells #[.slice aL nL cL, .slice aR nR cR] 26) := ⟨_, rfl⟩
  have hbA : Below w.heap.size w wA := by rw [hwA]; go_grown
  have p0a : wA.cell? ⟨w.heap.size, 0, none⟩ = some (.slice aL nL cL) := by rw [hwA]; simp
  have p1a : wA.cell? ⟨w.heap.size, 1, none⟩ = some (.slice aR nR cR) := by rw [hwA]; simp
  have HW := hide hwA
  clear hwA
  have HDOC := hide hdoc
  clear hdoc
  have HZ := hide hz
  have h6 := may_six (match_may hz)
  clear hz
  go_enter Try.func27, Try.ntmps27
  go_wp2_with fail
  rw [← unhide HW]
  refine (allStable_any aL nL cL lL aR nR cR lR wA (hL.later hbA) (hR.later hbA)).mono ?_
  rintro e w1 ⟨a, n, c, L, rfl, hLs, hl, hb1⟩
  rw [unhide HZ]
  rw [if_pos (unhide HZ), unhide HDOC] at hl
  have hbw1 := hbA.trans (hb1.mono hbA.size)
  have p0b := (hb1.cell (p := ⟨w.heap.size, 0, none⟩) (World.block_lt_of_cell? wA _ p0a)).trans p0a
  have p1b := (hb1.cell (p := ⟨w.heap.size, 1, none⟩) (World.block_lt_of_cell? wA _ p1a)).trans p1a
  clear p0a p1a
  have HL := hide hl
  have hnl : n = l.length + 1 := by have h := congrArg List.length hl; simp [lists] at h; have := hLs.1; omega
  have HNL := hide hnl
  have hpos : 0 < n := by omega
  clear hl hnl
  have hcn := hLs.2.1
  have hcm := hLs.2.2.1
  unfold maxLen at hcm
  have hstab : ∀ x, x ∈ o :: l → Stab lL lR x := fun x hx => (stab_iff (unhide HZ)).1 (doc_mem _ _ _ (by rw [unhide HDOC]; exact hx))
  have HST := hide hstab
  clear hstab
  have hat : ∀ k, k < n → (o :: l)[k]? = some (slAt L k).ints := fun k hk => by rw [← unhide HL]; exact lists_at L k (by have := hLs.1; omega)
  have HAT := hide hat
  clear hat
  obtain ⟨b, off, rfl, hb, hcell⟩ := hLs.cellAt hpos
  have c0 := hcell 0 hpos
  rw [Nat.add_zero] at c0
  have hI0 := hLs.mem hpos
  have h0i : (slAt L 0).ints = o := by have := unhide HAT 0 hpos; simp at this; exact this.symm
  generalize hS : slAt L 0 = S at *
  obtain ⟨la, ln, lc, ints⟩ := S
  simp only at c0 hI0 h0i
  subst h0i
  clear hS
  unfold two
  go_wp2_with fail
  go_loopw [9, 8] (fun i v wr => Below w1.heap.size w1 wr ∧ ∃ (k : Nat) (va : Option Addr) (vn vc : Nat), 1 ≤ k ∧ k ≤ n ∧ i = .int .i64 k ∧ v = .slice va vn vc ∧ Ints wr va vn vc (bestT lL lR ints (l.take (k - 1)))) (fun i _ _ => n - (intOf i).toNat)
  case atStart => exact ⟨Below.refl _ _, 1, la, ln, lc, Nat.le_refl _, hpos, rfl, rfl, hI0⟩
  case round =>
    obtain ⟨hbr, k, va, vn, vc, hk1, hk, rfl, rfl, hIv⟩ := hrel
    have hbwr : Below w.heap.size w wr := hbw1.trans (hbr.mono hbw1.size)
    have p0r := (hbr.cell (p := ⟨w.heap.size, 0, none⟩) (World.block_lt_of_cell? w1 _ p0b)).trans p0b
    have p1r := (hbr.cell (p := ⟨w.heap.size, 1, none⟩) (World.block_lt_of_cell? w1 _ p1b)).trans p1b
    by_cases hlt : k < n
    · have hck := (hbr.cell (p := ⟨b, off + k, none⟩) hb).trans (hcell k hlt)
      have hIk := (hLs.later hbr).mem hlt
      have hkat := unhide HAT k hlt
      generalize slAt L k = S at *
      obtain ⟨la2, ln2, lc2, ints2⟩ := S
      simp only at hck hIk hkat
      have hl2 : l[k - 1]? = some ints2 := by rw [show k = (k - 1) + 1 by omega, List.getElem?_cons_succ] at hkat; exact hkat
      have hmem2 : ints2 ∈ ints :: l := List.mem_of_getElem? hkat
      have hs2 := unhide HST ints2 hmem2
      have hsv : Stab lL lR (bestT lL lR ints (l.take (k - 1))) := (bestT_spec (unhide HZ) (l.take (k - 1)) ints (unhide HST ints (by simp)) (fun x hx => unhide HST x (by simp [List.mem_of_mem_take hx]))).1
      have hnext : bestT lL lR ints (l.take k) = blendL lL lR (secDT lL (bestT lL lR ints (l.take (k - 1))) ints2) (bestT lL lR ints (l.take (k - 1))) ints2 := by
        have hlt2 : k - 1 < l.length := by have := unhide HNL; omega
        have e : l.take k = l.take (k - 1) ++ [ints2] := by
          have h := List.take_succ_eq_append_getElem hlt2
          rw [List.getElem?_eq_getElem hlt2] at hl2
          rw [Option.some.inj hl2, show k - 1 + 1 = k by omega] at h
          exact h
        unfold bestT
        rw [e, List.foldl_append]
        rfl
      have hvn : vn ≤ 500 := by have := hIv.1; have := hsv.len; omega
      have hln2 : ln2 ≤ 500 := by have := hIk.1; have := hs2.len; omega
      have HNX := hide hnext
      clear hnext hkat hl2
      generalize bestT lL lR ints (l.take (k - 1)) = cur at *
      have HIV := hide hIv
      have HIK := hide hIk
      clear hcell hsv hs2 hmem2
      have hcd : ∀ (d : Nat), (wr.drew).cell? ⟨b, off + k, none⟩ = some (.slice la2 ln2 lc2) := fun _ => hck
      go_wp2_with fail
      go_region_with (first | (go_at_call 48; refine (blendT_any aL nL cL lL aR nR cR lR va vn vc cur la2 ln2 lc2 ints2 wr.drew (hL.later hbwr.drew) (hR.later hbwr.drew) ((unhide HIV).later (Below.refl _ _).drew) ((unhide HIK).later (Below.refl _ _).drew) hvn hln2 hfL).mono ?_; rintro e wn ⟨va2, vn2, vc2, rfl, hI2, hbn⟩; unfold two))
      all_goals
        have hbrn := hbr.trans ((show Below wr.heap.size wr wn from (Below.refl wr.heap.size wr).drew.trans hbn).mono hbr.size)
        go_wp2
        go_roundw
        case rel => exact ⟨hbrn, k + 1, va2, vn2, vc2, by omega, by omega, by go_num, rfl, by rw [show k + 1 - 1 = k by omega, unhide HNX]; exact hI2⟩
        case measure => simp [intOf]; omega
    · go_wp2
      go_ret2
      have hkn : k = n := by omega
      subst hkn
      refine ⟨va, vn, vc, rfl, ?_, hbwr⟩
      rw [List.take_of_length_le (by have := unhide HNL; omega)] at hIv
      exact hIv
set_option maxRecDepth 100000 in
set_option maxHeartbeats 4000000 in
theorem bestF_any (aL : Option Addr) (nL cL : Nat) (lL : List Ag) (aR : Option Addr) (nR cR : Nat) (lR : List Ag) (w : World) (hL : Ags w aL nL cL lL) (hR : Ags w aR nR cR lR) (hfL : ∀ g ∈ lL, g.ln ≤ 500) (hz : matchE lL lR = 0) (o : List Int) (l : List (List Int)) (hdoc : docF lL lR lL.length [] = o :: l) :
    Calls Try.prog 27 #[.agg #[.slice aL nL cL, .slice aR nR cR], .bool false] w fun e w' => ∃ a n c, e = .returned (two (.slice a n c) 0) ∧ Ints w' a n c (bestF lL lR o l) ∧ Below w.heap.size w w' := by
  obtain ⟨wA, hwA⟩ : ∃ y, y = w.alloc (.cells #[.slice aL nL cL, .slice aR nR cR] 26) := ⟨_, rfl⟩
  have hbA : Below w.heap.size w wA := by rw [hwA]; go_grown
  have p0a : wA.cell? ⟨w.heap.size, 0, none⟩ = some (.slice aL nL cL) := by rw [hwA]; simp
  have p1a : wA.cell? ⟨w.heap.size, 1, none⟩ = some (.slice aR nR cR) := by rw [hwA]; simp
  have HW := hide hwA
  clear hwA
  have HDOC := hide hdoc
  clear hdoc
  have HZ := hide hz
  have h6 := may_six (match_may hz)
  clear hz
  go_enter Try.func27, Try.ntmps27
  go_wp2_with fail
  rw [← unhide HW]
  refine (allStable_any aL nL cL lL aR nR cR lR wA (hL.later hbA) (hR.later hbA)).mono ?_
  rintro e w1 ⟨a, n, c, L, rfl, hLs, hl, hb1⟩
  rw [unhide HZ]
  rw [if_pos (unhide HZ), unhide HDOC] at hl
  have hbw1 := hbA.trans (hb1.mono hbA.size)
  have p0b := (hb1.cell (p := ⟨w.heap.size, 0, none⟩) (World.block_lt_of_cell? wA _ p0a)).trans p0a
  have p1b := (hb1.cell (p := ⟨w.heap.size, 1, none⟩) (World.block_lt_of_cell? wA _ p1a)).trans p1a
  clear p0a p1a
  have HL := hide hl
  have hnl : n = l.length + 1 := by have h := congrArg List.length hl; simp [lists] at h; have := hLs.1; omega
  have HNL := hide hnl
  have hpos : 0 < n := by omega
  clear hl hnl
  have hcn := hLs.2.1
  have hcm := hLs.2.2.1
  unfold maxLen at hcm
  have hstab : ∀ x, x ∈ o :: l → Stab lL lR x := fun x hx => (stab_iff (unhide HZ)).1 (doc_mem _ _ _ (by rw [unhide HDOC]; exact hx))
  have HST := hide hstab
  clear hstab
  have hat : ∀ k, k < n → (o :: l)[k]? = some (slAt L k).ints := fun k hk => by rw [← unhide HL]; exact lists_at L k (by have := hLs.1; omega)
  have HAT := hide hat
  clear hat
  obtain ⟨b, off, rfl, hb, hcell⟩ := hLs.cellAt hpos
  have c0 := hcell 0 hpos
  rw [Nat.add_zero] at c0
  have hI0 := hLs.mem hpos
  have h0i : (slAt L 0).ints = o := by have := unhide HAT 0 hpos; simp at this; exact this.symm
  generalize hS : slAt L 0 = S at *
  obtain ⟨la, ln, lc, ints⟩ := S
  simp only at c0 hI0 h0i
  subst h0i
  clear hS
  unfold two
  go_wp2_with fail
  go_loopw [9, 8] (fun i v wr => Below w1.heap.size w1 wr ∧ ∃ (k : Nat) (va : Option Addr) (vn vc : Nat), 1 ≤ k ∧ k ≤ n ∧ i = .int .i64 k ∧ v = .slice va vn vc ∧ Ints wr va vn vc (bestF lL lR ints (l.take (k - 1)))) (fun i _ _ => n - (intOf i).toNat)
  case atStart => exact ⟨Below.refl _ _, 1, la, ln, lc, Nat.le_refl _, hpos, rfl, rfl, hI0⟩
  case round =>
    obtain ⟨hbr, k, va, vn, vc, hk1, hk, rfl, rfl, hIv⟩ := hrel
    have hbwr : Below w.heap.size w wr := hbw1.trans (hbr.mono hbw1.size)
    have p0r := (hbr.cell (p := ⟨w.heap.size, 0, none⟩) (World.block_lt_of_cell? w1 _ p0b)).trans p0b
    have p1r := (hbr.cell (p := ⟨w.heap.size, 1, none⟩) (World.block_lt_of_cell? w1 _ p1b)).trans p1b
    by_cases hlt : k < n
    · have hck := (hbr.cell (p := ⟨b, off + k, none⟩) hb).trans (hcell k hlt)
      have hIk := (hLs.later hbr).mem hlt
      have hkat := unhide HAT k hlt
      generalize slAt L k = S at *
      obtain ⟨la2, ln2, lc2, ints2⟩ := S
      simp only at hck hIk hkat
      have hl2 : l[k - 1]? = some ints2 := by rw [show k = (k - 1) + 1 by omega, List.getElem?_cons_succ] at hkat; exact hkat
      have hmem2 : ints2 ∈ ints :: l := List.mem_of_getElem? hkat
      have hs2 := unhide HST ints2 hmem2
      have hsv : Stab lL lR (bestF lL lR ints (l.take (k - 1))) := (bestF_spec (unhide HZ) (l.take (k - 1)) ints (unhide HST ints (by simp)) (fun x hx => unhide HST x (by simp [List.mem_of_mem_take hx]))).1
      have hnext : bestF lL lR ints (l.take k) = blendL lL lR (secDF lL (bestF lL lR ints (l.take (k - 1))) ints2) (bestF lL lR ints (l.take (k - 1))) ints2 := by
        have hlt2 : k - 1 < l.length := by have := unhide HNL; omega
        have e : l.take k = l.take (k - 1) ++ [ints2] := by
          have h := List.take_succ_eq_append_getElem hlt2
          rw [List.getElem?_eq_getElem hlt2] at hl2
          rw [Option.some.inj hl2, show k - 1 + 1 = k by omega] at h
          exact h
        unfold bestF
        rw [e, List.foldl_append]
        rfl
      have hvn : vn ≤ 500 := by have := hIv.1; have := hsv.len; omega
      have hln2 : ln2 ≤ 500 := by have := hIk.1; have := hs2.len; omega
      have HNX := hide hnext
      clear hnext hkat hl2
      generalize bestF lL lR ints (l.take (k - 1)) = cur at *
      have HIV := hide hIv
      have HIK := hide hIk
      clear hcell hsv hs2 hmem2
      have hcd : ∀ (d : Nat), (wr.drew).cell? ⟨b, off + k, none⟩ = some (.slice la2 ln2 lc2) := fun _ => hck
      go_wp2_with fail
      go_region_with (first | (go_at_call 48; refine (blendF_any aL nL cL lL aR nR cR lR va vn vc cur la2 ln2 lc2 ints2 wr.drew (hL.later hbwr.drew) (hR.later hbwr.drew) ((unhide HIV).later (Below.refl _ _).drew) ((unhide HIK).later (Below.refl _ _).drew) hvn hln2 hfL).mono ?_; rintro e wn ⟨va2, vn2, vc2, rfl, hI2, hbn⟩; unfold two))
      all_goals
        have hbrn := hbr.trans ((show Below wr.heap.size wr wn from (Below.refl wr.heap.size wr).drew.trans hbn).mono hbr.size)
        go_wp2
        go_roundw
        case rel => exact ⟨hbrn, k + 1, va2, vn2, vc2, by omega, by omega, by go_num, rfl, by rw [show k + 1 - 1 = k by omega, unhide HNX]; exact hI2⟩
        case measure => simp [intOf]; omega
    · go_wp2
      go_ret2
      have hkn : k = n := by omega
      subst hkn
      refine ⟨va, vn, vc, rfl, ?_, hbwr⟩
      rw [List.take_of_length_le (by have := unhide HNL; omega)] at hIv
      exact hIv
end Go.Proofs.Ytodbnjainpjkcaa
