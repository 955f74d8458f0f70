import Derived.Test.YtodbnjainpjkcaaR
namespace Go.Proofs.Ytodbnjainpjkcaa
open Go.RowKit
def secDT (lL : List Ag) (a b : List Int) (l : Nat) : Bool := !decide (levelI (agAt lL l).likes (a[l]?.getD 0) ≤ levelI (agAt lL l).likes (b[l]?.getD 0))
def secDF (lL : List Ag) (a b : List Int) (l : Nat) : Bool := !decide (levelI (agAt lL l).likes (b[l]?.getD 0) < levelI (agAt lL l).likes (a[l]?.getD 0))
theorem blend_parts {lL lR : List Ag} {a b : List Int} (h : blendE lL lR a b = 0) : withE lL lR a = 0 ∧ withE lL lR b = 0 := by
  unfold blendE at h
  by_cases c : withE lL lR a = 0
  · rw [if_pos c] at h; exact ⟨c, h⟩
  · rw [if_neg c] at h; exact absurd h c
theorem blend_J (lL lR : List Ag) (a b : List Int) : blendL lL lR (secDT lL a b) a b = blendL lL lR (secJ lL a b) a b := by
  unfold blendL
  by_cases h : blendE lL lR a b = 0
  · rw [if_pos h, if_pos h]
    refine pick_ext _ (fun j hj => ?_)
    obtain ⟨h1, h2⟩ := blend_parts h
    have ha := mayBe_ok (with_match h1).2
    have hb := mayBe_ok (with_match h2).2
    have e1 := (ha.2 j hj).1
    have e2 := (hb.2 j (by omega)).1
    unfold secDT secJ ratherB
    rw [level_grief _ _ e1, level_grief _ _ e2]
    by_cases c : griefI (agAt lL j).likes (a[j]?.getD 0) ≤ griefI (agAt lL j).likes (b[j]?.getD 0)
    · rw [decide_eq_true c, decide_eq_false (by omega)]; rfl
    · rw [decide_eq_false c, decide_eq_true (by omega)]; rfl
  · rw [if_neg h, if_neg h]
theorem blend_M (lL lR : List Ag) (a b : List Int) : blendL lL lR (secDF lL a b) a b = blendL lL lR (secM lL a b) a b := by
  unfold blendL
  by_cases h : blendE lL lR a b = 0
  · rw [if_pos h, if_pos h]
    refine pick_ext _ (fun j hj => ?_)
    obtain ⟨h1, h2⟩ := blend_parts h
    have ha := mayBe_ok (with_match h1).2
    have hb := mayBe_ok (with_match h2).2
    have e1 := (ha.2 j hj).1
    have e2 := (hb.2 j (by omega)).1
    unfold secDF secM ratherB
    rw [level_grief _ _ e1, level_grief _ _ e2]
  · rw [if_neg h, if_neg h]
set_option maxRecDepth 100000 in
theorem join_any (aL : Option Addr) (nL cL : Nat) (lL : List Ag) (aR : Option Addr) (nR cR : Nat) (lR : List Ag) (aa : Option Addr) (na ca : Nat) (xs : List Int) (ab : Option Addr) (nb cb : Nat) (bs : List Int) (w : World) (hL : Ags w aL nL cL lL) (hR : Ags w aR nR cR lR) (ha : Ints w aa na ca xs) (hb : Ints w ab nb cb bs) (hsa : na ≤ 1000) (hsb : nb ≤ 1000) (hfL : ∀ g ∈ lL, g.ln ≤ 500) :
    Calls Try.prog 19 #[.agg #[.slice aL nL cL, .slice aR nR cR], .slice aa na ca, .slice ab nb cb] w fun e w' => ∃ va m c, e = .returned (two (.slice va m c) (blendE lL lR xs bs)) ∧ Ints w' va m c (blendL lL lR (secJ lL xs bs) xs bs) ∧ Below w.heap.size w w' := by
  have hbA : Below w.heap.size w (w.alloc (.cells #[.slice aL nL cL, .slice aR nR cR] 26)) := by go_grown
  go_enter Try.func19, Try.ntmps19
  go_wp2_with fail
  refine (chooseJ_any aL nL cL lL aR nR cR lR aa na ca xs ab nb cb bs _ (hL.later hbA) (hR.later hbA) (ha.later hbA) (hb.later hbA) hsa hsb hfL).mono ?_
  rintro e w1 ⟨va, m, c, rfl, hI, hb1⟩
  unfold two
  go_wp2
  go_ret2
  exact ⟨va, m, c, rfl, hI, hbA.trans (hb1.mono hbA.size)⟩
set_option maxRecDepth 100000 in
theorem meet_any (aL : Option Addr) (nL cL : Nat) (lL : List Ag) (aR : Option Addr) (nR cR : Nat) (lR : List Ag) (aa : Option Addr) (na ca : Nat) (xs : List Int) (ab : Option Addr) (nb cb : Nat) (bs : List Int) (w : World) (hL : Ags w aL nL cL lL) (hR : Ags w aR nR cR lR) (ha : Ints w aa na ca xs) (hb : Ints w ab nb cb bs) (hsa : na ≤ 1000) (hsb : nb ≤ 1000) (hfL : ∀ g ∈ lL, g.ln ≤ 500) :
    Calls Try.prog 20 #[.agg #[.slice aL nL cL, .slice aR nR cR], .slice aa na ca, .slice ab nb cb] w fun e w' => ∃ va m c, e = .returned (two (.slice va m c) (blendE lL lR xs bs)) ∧ Ints w' va m c (blendL lL lR (secM lL xs bs) xs bs) ∧ Below w.heap.size w w' := by
  have hbA : Below w.heap.size w (w.alloc (.cells #[.slice aL nL cL, .slice aR nR cR] 26)) := by go_grown
  go_enter Try.func20, Try.ntmps20
  go_wp2_with fail
  refine (chooseM_any aL nL cL lL aR nR cR lR aa na ca xs ab nb cb bs _ (hL.later hbA) (hR.later hbA) (ha.later hbA) (hb.later hbA) hsa hsb hfL).mono ?_
  rintro e w1 ⟨va, m, c, rfl, hI, hb1⟩
  unfold two
  go_wp2
  go_ret2
  exact ⟨va, m, c, rfl, hI, hbA.trans (hb1.mono hbA.size)⟩
set_option maxRecDepth 100000 in
set_option maxHeartbeats 4000000 in
theorem blendT_any (aL : Option Addr) (nL cL : Nat) (lL : List Ag) (aR : Option Addr) (nR cR : Nat) (lR : List Ag) (aa : Option Addr) (na ca : Nat) (xs : List Int) (ab : Option Addr) (nb cb : Nat) (bs : List Int) (w : World) (hL : Ags w aL nL cL lL) (hR : Ags w aR nR cR lR) (ha : Ints w aa na ca xs) (hb : Ints w ab nb cb bs) (hsa : na ≤ 500) (hsb : nb ≤ 500) (hfL : ∀ g ∈ lL, g.ln ≤ 500) :
    Calls Try.prog 48 #[.agg #[.slice aL nL cL, .slice aR nR cR], .slice aa na ca, .slice ab nb cb, .bool true] w fun e w' => ∃ va m c, e = .returned (two (.slice va m c) (blendE lL lR xs bs)) ∧ Ints w' va m c (blendL lL lR (secDT lL xs bs) xs bs) ∧ Below w.heap.size w w' := by
  have hlL := hide hL.1
  have hnL := hL.2.1
  have hcL := hL.2.2.1
  unfold maxLen at hcL
  have hna := hide ha.1
  have hnb := hide hb.1
  have hca := ha.2.1
  have hma := ha.2.2.1
  unfold maxLen at hma
  have hcb := hb.2.1
  have hmb := hb.2.2.1
  unfold maxLen at hmb
  obtain ⟨wA, hwA⟩ : ∃ y, y = w.alloc (.cells #[.slice aL nL cL, .slice aR nR cR] 26) := ⟨_, rfl⟩
  have hbA : Below w.heap.size w wA := by rw [hwA]; go_grown
  have p0a : wA.cell? ⟨w.heap.size, 0, none⟩ = some (.slice aL nL cL) := by rw [hwA]; simp
  have p1a : wA.cell? ⟨w.heap.size, 1, none⟩ = some (.slice aR nR cR) := by rw [hwA]; simp
  have HW := hide hwA
  clear hwA
  go_enter Try.func48, Try.ntmps48
  go_wp2_with fail
  rw [← unhide HW]
  refine (withMay_any aL nL cL lL aR nR cR lR aa na ca xs wA (hL.later hbA) (hR.later hbA) (ha.later hbA) (by omega)).mono ?_
  rintro e w1 ⟨rfl, hb1⟩
  have hbw1 := hbA.trans (hb1.mono hbA.size)
  have p0b := (hb1.cell (p := ⟨w.heap.size, 0, none⟩) (World.block_lt_of_cell? wA _ p0a)).trans p0a
  have p1b := (hb1.cell (p := ⟨w.heap.size, 1, none⟩) (World.block_lt_of_cell? wA _ p1a)).trans p1a
  clear p0a p1a
  by_cases hz : withE lL lR xs = 0
  case neg =>
    have HE := hide (show blendE lL lR xs bs = withE lL lR xs by unfold blendE; rw [if_neg hz])
    have HE2 := hide (show blendL lL lR (secDT lL xs bs) xs bs = [] by unfold blendL; rw [unhide HE, if_neg hz])
    have hzb : (withE lL lR xs != 0) = true := by simpa using hz
    clear hz
    go_wp2
    go_ret2
    exact ⟨none, 0, 0, by rw [unhide HE]; rfl, by rw [unhide HE2]; exact ⟨rfl, Nat.le_refl _, by unfold maxLen; omega, .inl rfl⟩, hbw1⟩
  case pos =>
  have HZA := hide hz
  rw [hz]
  clear hz
  go_wp2_with fail
  refine (withMay_any aL nL cL lL aR nR cR lR ab nb cb bs w1 (hL.later hbw1) (hR.later hbw1) (hb.later hbw1) (by omega)).mono ?_
  rintro e w2 ⟨rfl, hb2⟩
  have hbw2 := hbw1.trans (hb2.mono hbw1.size)
  have p0c := (hb2.cell (p := ⟨w.heap.size, 0, none⟩) (World.block_lt_of_cell? w1 _ p0b)).trans p0b
  have p1c := (hb2.cell (p := ⟨w.heap.size, 1, none⟩) (World.block_lt_of_cell? w1 _ p1b)).trans p1b
  clear p0b p1b
  by_cases hz : withE lL lR bs = 0
  case neg =>
    have HE := hide (show blendE lL lR xs bs = withE lL lR bs by unfold blendE; rw [if_pos (unhide HZA)])
    have HE2 := hide (show blendL lL lR (secDT lL xs bs) xs bs = [] by unfold blendL; rw [unhide HE, if_neg hz])
    have hzb : (withE lL lR bs != 0) = true := by simpa using hz
    clear hz
    go_wp2
    go_ret2
    exact ⟨none, 0, 0, by rw [unhide HE]; rfl, by rw [unhide HE2]; exact ⟨rfl, Nat.le_refl _, by unfold maxLen; omega, .inl rfl⟩, hbw2⟩
  case pos =>
  have HE := hide (show blendE lL lR xs bs = 0 by unfold blendE; rw [if_pos (unhide HZA)]; exact hz)
  have HE2 := hide (show blendL lL lR (secDT lL xs bs) xs bs = pickTo (secDT lL xs bs) xs bs xs.length by unfold blendL; rw [unhide HE, if_pos rfl])
  have HLA := hide (mayBe_ok (with_match (unhide HZA)).2).1
  have HLB := hide (mayBe_ok (with_match hz).2).1
  rw [hz]
  clear hz
  have hnn : na = nL := by have := unhide hna; have := unhide hlL; have := unhide HLA; omega
  have hnn2 : nb = nL := by have := unhide hnb; have := unhide hlL; have := unhide HLB; omega
  have HNN := hide hnn
  have HNN2 := hide hnn2
  clear hnn hnn2
  go_wp2_with fail
  go_loopw [12, 11] (fun i v wr => Below w2.heap.size w2 wr ∧ ∃ k : Nat, k ≤ na ∧ i = .int .i64 k ∧ wr.ownsRow w2.heap.size 3 1 v k (intVals (pickTo (secDT lL xs bs) xs bs k))) (fun i _ _ => na - (intOf i).toNat)
  case atStart => exact ⟨Below.refl _ _, 0, Nat.zero_le _, rfl, World.ownsRow_nil _ _ _ _⟩
  case round =>
    obtain ⟨hb2r, k, hk, rfl, hown⟩ := hrel
    have hbwr : Below w.heap.size w wr := hbw2.trans (hb2r.mono hbw2.size)
    have p0r := (hb2r.cell (p := ⟨w.heap.size, 0, none⟩) (World.block_lt_of_cell? w2 _ p0c)).trans p0c
    have p1r := (hb2r.cell (p := ⟨w.heap.size, 1, none⟩) (World.block_lt_of_cell? w2 _ p1c)).trans p1c
    by_cases hka2 : k < na
    · have hlt : k < nL := by have := unhide HNN; omega
      obtain ⟨bL, oL, rfl, hbL, q1, q2, q3⟩ := (hL.later hbwr).at hlt
      obtain ⟨ba, oa, rfl, hba, hcella⟩ := ha.cellAt (by omega)
      obtain ⟨bb, ob, rfl, hbb, hcellb⟩ := hb.cellAt (by have := unhide HNN2; omega)
      have x0 := hcella k hka2
      have y0 := hcellb k (by have := unhide HNN2; omega)
      clear hcella hcellb
      have hkb : (k : Int) < nb := by have := unhide HNN2; omega
      have hkb2 : k < nb := by omega
      have hIL := (hL.mem hlt).1
      have hsl : (agAt lL k).ln ≤ 500 := hfL _ (by unfold agAt; rw [List.getElem?_eq_getElem (show k < lL.length by have := unhide hlL; omega)]; simp)
      have hsec : secDT lL xs bs k = !decide (levelI (agAt lL k).likes (xs[k]?.getD 0) ≤ levelI (agAt lL k).likes (bs[k]?.getD 0)) := rfl
      have hgen := hide (rfl : k = k)
      generalize agAt lL k = G at *
      obtain ⟨nm, room, la, ln, lc, likes⟩ := G
      simp only at q1 q2 q3 hIL hsl hsec
      obtain ⟨x, hx⟩ : ∃ x, x = xs[k]?.getD 0 := ⟨_, rfl⟩
      obtain ⟨y, hy⟩ : ∃ y, y = bs[k]?.getD 0 := ⟨_, rfl⟩
      rw [← hx] at x0
      rw [← hy] at y0
      rw [← hx, ← hy] at hsec
      have HYB := hide hy.symm
      have HXA := hide hx.symm
      clear hx hy
      have x0r := (hbwr.cell (p := ⟨ba, oa + k, none⟩) hba).trans x0
      have y0r := (hbwr.cell (p := ⟨bb, ob + k, none⟩) hbb).trans y0
      have hbar : ba < wr.heap.size := Nat.lt_of_lt_of_le hba hbwr.size
      have hbbr : bb < wr.heap.size := Nat.lt_of_lt_of_le hbb hbwr.size
      have hpr : w.heap.size < wr.heap.size := World.block_lt_of_cell? wr _ p0r
      have C1 := hide (fun d os => Calls.regrown_of (level_any nm room la ln lc likes x _ (hIL.later (hbwr.trans ((below_regrown wr d os).mono hbwr.size))) hsl))
      have p0g := cell_regrown p0r
      have p1g := cell_regrown p1r
      have q1g := cell_regrown q1
      have q2g := cell_regrown q2
      have q3g := cell_regrown q3
      have x0g := cell_regrown x0r
      have p0s := hide p0r
      have p1s := hide p1r
      have q1s := hide q1
      have q2s := hide q2
      have q3s := hide q3
      have x0s := hide x0r
      have y0s := hide y0r
      have HO := hide hown
      clear hown x0 y0
      cases hq : decide (levelI likes x ≤ levelI likes y) with
      | true =>
        have HS := hide (show pickTo (secDT lL xs bs) xs bs (k + 1) = pickTo (secDT lL xs bs) xs bs k ++ [x] by rw [pickTo]; unfold pickAt; rw [hsec, hq]; exact congrArg (fun z => _ ++ [z]) (unhide HXA))
        clear hsec
        go_wp2_with fail
        clear q1 q2 q3 p0r p1r x0r y0r
        refine wp_region_quiet_below (by kernel_rfl) (by kernel_rfl) ?_
        repeat (quiet_step (first | exact unhide C1 _ _))
        refine wpQuiet_nil ?_
        intro _ hw'
        obtain ⟨⟨dq, osq⟩, hw''⟩ := hw'
        subst hw''
        have hbC := below_regrown wr dq osq
        have p0h := cell_regrown (hbC.cell (p := ⟨w.heap.size, 0, none⟩) hpr |>.trans p0s)
        have p1h := cell_regrown (hbC.cell (p := ⟨w.heap.size, 1, none⟩) hpr |>.trans p1s)
        have q1h := cell_regrown ((hbC.cell (p := ⟨bL, oL + k * 3, none⟩) hbL).trans q1s)
        have q2h := cell_regrown ((hbC.cell (p := ⟨bL, oL + k * 3 + 1, none⟩) hbL).trans q2s)
        have q3h := cell_regrown ((hbC.cell (p := ⟨bL, oL + k * 3 + 2, none⟩) hbL).trans q3s)
        have y0h := cell_regrown ((hbC.cell (p := ⟨bb, ob + k, none⟩) hbbr).trans y0s)
        have hbwC := hbwr.trans (hbC.mono hbwr.size)
        have hb2C := hb2r.trans (hbC.mono hb2r.size)
        have hownC := hide (owns_later (unhide HO) hbC)
        have C2 := hide (fun d os => Calls.regrown_of (level_any nm room la ln lc likes y _ (hIL.later (hbwC.trans ((below_regrown (Sort.grow (redrawn wr dq) osq) d os).mono hbwC.size))) hsl))
        have x0h := (hbC.cell (p := ⟨ba, oa + k, none⟩) hbar).trans x0s
        have y0i := (hbC.cell (p := ⟨bb, ob + k, none⟩) hbbr).trans y0s
        have hbarC := Nat.lt_of_lt_of_le hbar hbC.size
        have hbbrC := Nat.lt_of_lt_of_le hbbr hbC.size
        clear p0g p1g q1g q2g q3g x0g C1
        generalize Sort.grow (redrawn wr dq) osq = wC at *
        go_wp2_with fail
        refine wp_region_quiet_below (by kernel_rfl) (by kernel_rfl) ?_
        repeat (quiet_step (first | exact unhide C2 _ _))
        refine wpQuiet_nil ?_
        intro _ hw'
        obtain ⟨⟨dp, osp⟩, hw''⟩ := hw'
        subst hw''
        have hbD := below_regrown wC dp osp
        have x0k := (hbD.cell (p := ⟨ba, oa + k, none⟩) hbarC).trans x0h
        have y0k := (hbD.cell (p := ⟨bb, ob + k, none⟩) hbbrC).trans y0i
        have hbwD := hbwC.trans (hbD.mono hbwC.size)
        have hb2D := hb2C.trans (hbD.mono hb2C.size)
        have hownD := hide (owns_later (unhide hownC) hbD)
        clear p0h p1h q1h q2h q3h y0h x0h y0i C2
        generalize Sort.grow (redrawn wC dp) osp = wD at *
        go_wp2_with (at_builtin; refine wpList_append_int _ rfl _ _ rfl w2.heap.size _ k _ rfl ((unhide hownD).alloc _) wD.heap.size x rfl (by simp) (by have := unhide HNN; omega) (by have := hb2D.size; simp; omega) ?_; intro v2 w6 ho6 hg6)
        go_roundw
        case rel =>
          have hb7 := (((Below.refl w2.heap.size wD).alloc hb2D.size (.cells #[.int .i64 x] 3)).grown hg6 (by have := hb2D.size; simp; omega) (fun q hq => ((unhide hownD).lt q hq).1))
          refine ⟨hb2D.trans hb7, k+1, by omega, by go_num, ?_⟩
          rw [unhide HS, intVals_append]
          exact ho6
        case measure => simp [intOf]; omega
      | false =>
        have HS := hide (show pickTo (secDT lL xs bs) xs bs (k + 1) = pickTo (secDT lL xs bs) xs bs k ++ [y] by rw [pickTo]; unfold pickAt; rw [hsec, hq]; exact congrArg (fun z => _ ++ [z]) (unhide HYB))
        clear hsec
        go_wp2_with fail
        clear q1 q2 q3 p0r p1r x0r y0r
        refine wp_region_quiet_below (by kernel_rfl) (by kernel_rfl) ?_
        repeat (quiet_step (first | exact unhide C1 _ _))
        refine wpQuiet_nil ?_
        intro _ hw'
        obtain ⟨⟨dq, osq⟩, hw''⟩ := hw'
        subst hw''
        have hbC := below_regrown wr dq osq
        have p0h := cell_regrown (hbC.cell (p := ⟨w.heap.size, 0, none⟩) hpr |>.trans p0s)
        have p1h := cell_regrown (hbC.cell (p := ⟨w.heap.size, 1, none⟩) hpr |>.trans p1s)
        have q1h := cell_regrown ((hbC.cell (p := ⟨bL, oL + k * 3, none⟩) hbL).trans q1s)
        have q2h := cell_regrown ((hbC.cell (p := ⟨bL, oL + k * 3 + 1, none⟩) hbL).trans q2s)
        have q3h := cell_regrown ((hbC.cell (p := ⟨bL, oL + k * 3 + 2, none⟩) hbL).trans q3s)
        have y0h := cell_regrown ((hbC.cell (p := ⟨bb, ob + k, none⟩) hbbr).trans y0s)
        have hbwC := hbwr.trans (hbC.mono hbwr.size)
        have hb2C := hb2r.trans (hbC.mono hb2r.size)
        have hownC := hide (owns_later (unhide HO) hbC)
        have C2 := hide (fun d os => Calls.regrown_of (level_any nm room la ln lc likes y _ (hIL.later (hbwC.trans ((below_regrown (Sort.grow (redrawn wr dq) osq) d os).mono hbwC.size))) hsl))
        have x0h := (hbC.cell (p := ⟨ba, oa + k, none⟩) hbar).trans x0s
        have y0i := (hbC.cell (p := ⟨bb, ob + k, none⟩) hbbr).trans y0s
        have hbarC := Nat.lt_of_lt_of_le hbar hbC.size
        have hbbrC := Nat.lt_of_lt_of_le hbbr hbC.size
        clear p0g p1g q1g q2g q3g x0g C1
        generalize Sort.grow (redrawn wr dq) osq = wC at *
        go_wp2_with fail
        refine wp_region_quiet_below (by kernel_rfl) (by kernel_rfl) ?_
        repeat (quiet_step (first | exact unhide C2 _ _))
        refine wpQuiet_nil ?_
        intro _ hw'
        obtain ⟨⟨dp, osp⟩, hw''⟩ := hw'
        subst hw''
        have hbD := below_regrown wC dp osp
        have x0k := (hbD.cell (p := ⟨ba, oa + k, none⟩) hbarC).trans x0h
        have y0k := (hbD.cell (p := ⟨bb, ob + k, none⟩) hbbrC).trans y0i
        have hbwD := hbwC.trans (hbD.mono hbwC.size)
        have hb2D := hb2C.trans (hbD.mono hb2C.size)
        have hownD := hide (owns_later (unhide hownC) hbD)
        clear p0h p1h q1h q2h q3h y0h x0h y0i C2
        generalize Sort.grow (redrawn wC dp) osp = wD at *
        go_wp2_with (at_builtin; refine wpList_append_int _ rfl _ _ rfl w2.heap.size _ k _ rfl ((unhide hownD).alloc _) wD.heap.size y rfl (by simp) (by have := unhide HNN; omega) (by have := hb2D.size; simp; omega) ?_; intro v2 w6 ho6 hg6)
        go_roundw
        case rel =>
          have hb7 := (((Below.refl w2.heap.size wD).alloc hb2D.size (.cells #[.int .i64 y] 3)).grown hg6 (by have := hb2D.size; simp; omega) (fun q hq => ((unhide hownD).lt q hq).1))
          refine ⟨hb2D.trans hb7, k+1, by omega, by go_num, ?_⟩
          rw [unhide HS, intVals_append]
          exact ho6
        case measure => simp [intOf]; omega
    · go_wp2
      go_ret2
      obtain rfl : k = na := by omega
      obtain ⟨va, c, rfl, hI, _⟩ := Ints.of_owns hown (by omega)
      refine ⟨va, k, c, by rw [unhide HE]; rfl, ?_, hbwr⟩
      rw [unhide HE2, ← unhide hna]
      exact hI
set_option maxRecDepth 100000 in
set_option maxHeartbeats 4000000 in
theorem blendF_any (aL : Option Addr) (nL cL : Nat) (lL : List Ag) (aR : Option Addr) (nR cR : Nat) (lR : List Ag) (aa : Option Addr) (na ca : Nat) (xs : List Int) (ab : Option Addr) (nb cb : Nat) (bs : List Int) (w : World) (hL : Ags w aL nL cL lL) (hR : Ags w aR nR cR lR) (ha : Ints w aa na ca xs) (hb : Ints w ab nb cb bs) (hsa : na ≤ 500) (hsb : nb ≤ 500) (hfL : ∀ g ∈ lL, g.ln ≤ 500) :
    Calls Try.prog 48 #[.agg #[.slice aL nL cL, .slice aR nR cR], .slice aa na ca, .slice ab nb cb, .bool false] w fun e w' => ∃ va m c, e = .returned (two (.slice va m c) (blendE lL lR xs bs)) ∧ Ints w' va m c (blendL lL lR (secDF lL xs bs) xs bs) ∧ Below w.heap.size w w' := by
  have hlL := hide hL.1
  have hnL := hL.2.1
  have hcL := hL.2.2.1
  unfold maxLen at hcL
  have hna := hide ha.1
  have hnb := hide hb.1
  have hca := ha.2.1
  have hma := ha.2.2.1
  unfold maxLen at hma
  have hcb := hb.2.1
  have hmb := hb.2.2.1
  unfold maxLen at hmb
  obtain ⟨wA, hwA⟩ : ∃ y, y = w.alloc (.cells #[.slice aL nL cL, .slice aR nR cR] 26) := ⟨_, rfl⟩
  have hbA : Below w.heap.size w wA := by rw [hwA]; go_grown
  have p0a : wA.cell? ⟨w.heap.size, 0, none⟩ = some (.slice aL nL cL) := by rw [hwA]; simp
  have p1a : wA.cell? ⟨w.heap.size, 1, none⟩ = some (.slice aR nR cR) := by rw [hwA]; simp
  have HW := hide hwA
  clear hwA
  go_enter Try.func48, Try.ntmps48
  go_wp2_with fail
  rw [← unhide HW]
  refine (withMay_any aL nL cL lL aR nR cR lR aa na ca xs wA (hL.later hbA) (hR.later hbA) (ha.later hbA) (by omega)).mono ?_
  rintro e w1 ⟨rfl, hb1⟩
  have hbw1 := hbA.trans (hb1.mono hbA.size)
  have p0b := (hb1.cell (p := ⟨w.heap.size, 0, none⟩) (World.block_lt_of_cell? wA _ p0a)).trans p0a
  have p1b := (hb1.cell (p := ⟨w.heap.size, 1, none⟩) (World.block_lt_of_cell? wA _ p1a)).trans p1a
  clear p0a p1a
  by_cases hz : withE lL lR xs = 0
  case neg =>
    have HE := hide (show blendE lL lR xs bs = withE lL lR xs by unfold blendE; rw [if_neg hz])
    have HE2 := hide (show blendL lL lR (secDF lL xs bs) xs bs = [] by unfold blendL; rw [unhide HE, if_neg hz])
    have hzb : (withE lL lR xs != 0) = true := by simpa using hz
    clear hz
    go_wp2
    go_ret2
    exact ⟨none, 0, 0, by rw [unhide HE]; rfl, by rw [unhide HE2]; exact ⟨rfl, Nat.le_refl _, by unfold maxLen; omega, .inl rfl⟩, hbw1⟩
  case pos =>
  have HZA := hide hz
  rw [hz]
  clear hz
  go_wp2_with fail
  refine (withMay_any aL nL cL lL aR nR cR lR ab nb cb bs w1 (hL.later hbw1) (hR.later hbw1) (hb.later hbw1) (by omega)).mono ?_
  rintro e w2 ⟨rfl, hb2⟩
  have hbw2 := hbw1.trans (hb2.mono hbw1.size)
  have p0c := (hb2.cell (p := ⟨w.heap.size, 0, none⟩) (World.block_lt_of_cell? w1 _ p0b)).trans p0b
  have p1c := (hb2.cell (p := ⟨w.heap.size, 1, none⟩) (World.block_lt_of_cell? w1 _ p1b)).trans p1b
  clear p0b p1b
  by_cases hz : withE lL lR bs = 0
  case neg =>
    have HE := hide (show blendE lL lR xs bs = withE lL lR bs by unfold blendE; rw [if_pos (unhide HZA)])
    have HE2 := hide (show blendL lL lR (secDF lL xs bs) xs bs = [] by unfold blendL; rw [unhide HE, if_neg hz])
    have hzb : (withE lL lR bs != 0) = true := by simpa using hz
    clear hz
    go_wp2
    go_ret2
    exact ⟨none, 0, 0, by rw [unhide HE]; rfl, by rw [unhide HE2]; exact ⟨rfl, Nat.le_refl _, by unfold maxLen; omega, .inl rfl⟩, hbw2⟩
  case pos =>
  have HE := hide (show blendE lL lR xs bs = 0 by unfold blendE; rw [if_pos (unhide HZA)]; exact hz)
  have HE2 := hide (show blendL lL lR (secDF lL xs bs) xs bs = pickTo (secDF lL xs bs) xs bs xs.length by unfold blendL; rw [unhide HE, if_pos rfl])
  have HLA := hide (mayBe_ok (with_match (unhide HZA)).2).1
  have HLB := hide (mayBe_ok (with_match hz).2).1
  rw [hz]
  clear hz
  have hnn : na = nL := by have := unhide hna; have := unhide hlL; have := unhide HLA; omega
  have hnn2 : nb = nL := by have := unhide hnb; have := unhide hlL; have := unhide HLB; omega
  have HNN := hide hnn
  have HNN2 := hide hnn2
  clear hnn hnn2
  go_wp2_with fail
  go_loopw [12, 11] (fun i v wr => Below w2.heap.size w2 wr ∧ ∃ k : Nat, k ≤ na ∧ i = .int .i64 k ∧ wr.ownsRow w2.heap.size 3 1 v k (intVals (pickTo (secDF lL xs bs) xs bs k))) (fun i _ _ => na - (intOf i).toNat)
  case atStart => exact ⟨Below.refl _ _, 0, Nat.zero_le _, rfl, World.ownsRow_nil _ _ _ _⟩
  case round =>
    obtain ⟨hb2r, k, hk, rfl, hown⟩ := hrel
    have hbwr : Below w.heap.size w wr := hbw2.trans (hb2r.mono hbw2.size)
    have p0r := (hb2r.cell (p := ⟨w.heap.size, 0, none⟩) (World.block_lt_of_cell? w2 _ p0c)).trans p0c
    have p1r := (hb2r.cell (p := ⟨w.heap.size, 1, none⟩) (World.block_lt_of_cell? w2 _ p1c)).trans p1c
    by_cases hka2 : k < na
    · have hlt : k < nL := by have := unhide HNN; omega
      obtain ⟨bL, oL, rfl, hbL, q1, q2, q3⟩ := (hL.later hbwr).at hlt
      obtain ⟨ba, oa, rfl, hba, hcella⟩ := ha.cellAt (by omega)
      obtain ⟨bb, ob, rfl, hbb, hcellb⟩ := hb.cellAt (by have := unhide HNN2; omega)
      have x0 := hcella k hka2
      have y0 := hcellb k (by have := unhide HNN2; omega)
      clear hcella hcellb
      have hkb : (k : Int) < nb := by have := unhide HNN2; omega
      have hkb2 : k < nb := by omega
      have hIL := (hL.mem hlt).1
      have hsl : (agAt lL k).ln ≤ 500 := hfL _ (by unfold agAt; rw [List.getElem?_eq_getElem (show k < lL.length by have := unhide hlL; omega)]; simp)
      have hsec : secDF lL xs bs k = !decide (levelI (agAt lL k).likes (bs[k]?.getD 0) < levelI (agAt lL k).likes (xs[k]?.getD 0)) := rfl
      have hgen := hide (rfl : k = k)
      generalize agAt lL k = G at *
      obtain ⟨nm, room, la, ln, lc, likes⟩ := G
      simp only at q1 q2 q3 hIL hsl hsec
      obtain ⟨x, hx⟩ : ∃ x, x = xs[k]?.getD 0 := ⟨_, rfl⟩
      obtain ⟨y, hy⟩ : ∃ y, y = bs[k]?.getD 0 := ⟨_, rfl⟩
      rw [← hx] at x0
      rw [← hy] at y0
      rw [← hx, ← hy] at hsec
      have HYB := hide hy.symm
      have HXA := hide hx.symm
      clear hx hy
      have x0r := (hbwr.cell (p := ⟨ba, oa + k, none⟩) hba).trans x0
      have y0r := (hbwr.cell (p := ⟨bb, ob + k, none⟩) hbb).trans y0
      have hbar : ba < wr.heap.size := Nat.lt_of_lt_of_le hba hbwr.size
      have hbbr : bb < wr.heap.size := Nat.lt_of_lt_of_le hbb hbwr.size
      have hpr : w.heap.size < wr.heap.size := World.block_lt_of_cell? wr _ p0r
      have C1 := hide (fun d os => Calls.regrown_of (level_any nm room la ln lc likes x _ (hIL.later (hbwr.trans ((below_regrown wr d os).mono hbwr.size))) hsl))
      have p0g := cell_regrown p0r
      have p1g := cell_regrown p1r
      have q1g := cell_regrown q1
      have q2g := cell_regrown q2
      have q3g := cell_regrown q3
      have x0g := cell_regrown x0r
      have p0s := hide p0r
      have p1s := hide p1r
      have q1s := hide q1
      have q2s := hide q2
      have q3s := hide q3
      have x0s := hide x0r
      have y0s := hide y0r
      have HO := hide hown
      clear hown x0 y0
      cases hq : decide (levelI likes y < levelI likes x) with
      | true =>
        have HS := hide (show pickTo (secDF lL xs bs) xs bs (k + 1) = pickTo (secDF lL xs bs) xs bs k ++ [x] by rw [pickTo]; unfold pickAt; rw [hsec, hq]; exact congrArg (fun z => _ ++ [z]) (unhide HXA))
        clear hsec
        go_wp2_with fail
        clear q1 q2 q3 p0r p1r x0r y0r
        refine wp_region_quiet_below (by kernel_rfl) (by kernel_rfl) ?_
        repeat (quiet_step (first | exact unhide C1 _ _))
        refine wpQuiet_nil ?_
        intro _ hw'
        obtain ⟨⟨dq, osq⟩, hw''⟩ := hw'
        subst hw''
        have hbC := below_regrown wr dq osq
        have p0h := cell_regrown (hbC.cell (p := ⟨w.heap.size, 0, none⟩) hpr |>.trans p0s)
        have p1h := cell_regrown (hbC.cell (p := ⟨w.heap.size, 1, none⟩) hpr |>.trans p1s)
        have q1h := cell_regrown ((hbC.cell (p := ⟨bL, oL + k * 3, none⟩) hbL).trans q1s)
        have q2h := cell_regrown ((hbC.cell (p := ⟨bL, oL + k * 3 + 1, none⟩) hbL).trans q2s)
        have q3h := cell_regrown ((hbC.cell (p := ⟨bL, oL + k * 3 + 2, none⟩) hbL).trans q3s)
        have y0h := cell_regrown ((hbC.cell (p := ⟨bb, ob + k, none⟩) hbbr).trans y0s)
        have hbwC := hbwr.trans (hbC.mono hbwr.size)
        have hb2C := hb2r.trans (hbC.mono hb2r.size)
        have hownC := hide (owns_later (unhide HO) hbC)
        have C2 := hide (fun d os => Calls.regrown_of (level_any nm room la ln lc likes y _ (hIL.later (hbwC.trans ((below_regrown (Sort.grow (redrawn wr dq) osq) d os).mono hbwC.size))) hsl))
        have x0h := (hbC.cell (p := ⟨ba, oa + k, none⟩) hbar).trans x0s
        have y0i := (hbC.cell (p := ⟨bb, ob + k, none⟩) hbbr).trans y0s
        have hbarC := Nat.lt_of_lt_of_le hbar hbC.size
        have hbbrC := Nat.lt_of_lt_of_le hbbr hbC.size
        clear p0g p1g q1g q2g q3g x0g C1
        generalize Sort.grow (redrawn wr dq) osq = wC at *
        go_wp2_with fail
        refine wp_region_quiet_below (by kernel_rfl) (by kernel_rfl) ?_
        repeat (quiet_step (first | exact unhide C2 _ _))
        refine wpQuiet_nil ?_
        intro _ hw'
        obtain ⟨⟨dp, osp⟩, hw''⟩ := hw'
        subst hw''
        have hbD := below_regrown wC dp osp
        have x0k := (hbD.cell (p := ⟨ba, oa + k, none⟩) hbarC).trans x0h
        have y0k := (hbD.cell (p := ⟨bb, ob + k, none⟩) hbbrC).trans y0i
        have hbwD := hbwC.trans (hbD.mono hbwC.size)
        have hb2D := hb2C.trans (hbD.mono hb2C.size)
        have hownD := hide (owns_later (unhide hownC) hbD)
        clear p0h p1h q1h q2h q3h y0h x0h y0i C2
        generalize Sort.grow (redrawn wC dp) osp = wD at *
        go_wp2_with (at_builtin; refine wpList_append_int _ rfl _ _ rfl w2.heap.size _ k _ rfl ((unhide hownD).alloc _) wD.heap.size x rfl (by simp) (by have := unhide HNN; omega) (by have := hb2D.size; simp; omega) ?_; intro v2 w6 ho6 hg6)
        go_roundw
        case rel =>
          have hb7 := (((Below.refl w2.heap.size wD).alloc hb2D.size (.cells #[.int .i64 x] 3)).grown hg6 (by have := hb2D.size; simp; omega) (fun q hq => ((unhide hownD).lt q hq).1))
          refine ⟨hb2D.trans hb7, k+1, by omega, by go_num, ?_⟩
          rw [unhide HS, intVals_append]
          exact ho6
        case measure => simp [intOf]; omega
      | false =>
        have HS := hide (show pickTo (secDF lL xs bs) xs bs (k + 1) = pickTo (secDF lL xs bs) xs bs k ++ [y] by rw [pickTo]; unfold pickAt; rw [hsec, hq]; exact congrArg (fun z => _ ++ [z]) (unhide HYB))
        clear hsec
        go_wp2_with fail
        clear q1 q2 q3 p0r p1r x0r y0r
        refine wp_region_quiet_below (by kernel_rfl) (by kernel_rfl) ?_
        repeat (quiet_step (first | exact unhide C1 _ _))
        refine wpQuiet_nil ?_
        intro _ hw'
        obtain ⟨⟨dq, osq⟩, hw''⟩ := hw'
        subst hw''
        have hbC := below_regrown wr dq osq
        have p0h := cell_regrown (hbC.cell (p := ⟨w.heap.size, 0, none⟩) hpr |>.trans p0s)
        have p1h := cell_regrown (hbC.cell (p := ⟨w.heap.size, 1, none⟩) hpr |>.trans p1s)
        have q1h := cell_regrown ((hbC.cell (p := ⟨bL, oL + k * 3, none⟩) hbL).trans q1s)
        have q2h := cell_regrown ((hbC.cell (p := ⟨bL, oL + k * 3 + 1, none⟩) hbL).trans q2s)
        have q3h := cell_regrown ((hbC.cell (p := ⟨bL, oL + k * 3 + 2, none⟩) hbL).trans q3s)
        have y0h := cell_regrown ((hbC.cell (p := ⟨bb, ob + k, none⟩) hbbr).trans y0s)
        have hbwC := hbwr.trans (hbC.mono hbwr.size)
        have hb2C := hb2r.trans (hbC.mono hb2r.size)
        have hownC := hide (owns_later (unhide HO) hbC)
        have C2 := hide (fun d os => Calls.regrown_of (level_any nm room la ln lc likes y _ (hIL.later (hbwC.trans ((below_regrown (Sort.grow (redrawn wr dq) osq) d os).mono hbwC.size))) hsl))
        have x0h := (hbC.cell (p := ⟨ba, oa + k, none⟩) hbar).trans x0s
        have y0i := (hbC.cell (p := ⟨bb, ob + k, none⟩) hbbr).trans y0s
        have hbarC := Nat.lt_of_lt_of_le hbar hbC.size
        have hbbrC := Nat.lt_of_lt_of_le hbbr hbC.size
        clear p0g p1g q1g q2g q3g x0g C1
        generalize Sort.grow (redrawn wr dq) osq = wC at *
        go_wp2_with fail
        refine wp_region_quiet_below (by kernel_rfl) (by kernel_rfl) ?_
        repeat (quiet_step (first | exact unhide C2 _ _))
        refine wpQuiet_nil ?_
        intro _ hw'
        obtain ⟨⟨dp, osp⟩, hw''⟩ := hw'
        subst hw''
        have hbD := below_regrown wC dp osp
        have x0k := (hbD.cell (p := ⟨ba, oa + k, none⟩) hbarC).trans x0h
        have y0k := (hbD.cell (p := ⟨bb, ob + k, none⟩) hbbrC).trans y0i
        have hbwD := hbwC.trans (hbD.mono hbwC.size)
        have hb2D := hb2C.trans (hbD.mono hb2C.size)
        have hownD := hide (owns_later (unhide hownC) hbD)
        clear p0h p1h q1h q2h q3h y0h x0h y0i C2
        generalize Sort.grow (redrawn wC dp) osp = wD at *
        go_wp2_with (at_builtin; refine wpList_append_int _ rfl _ _ rfl w2.heap.size _ k _ rfl ((unhide hownD).alloc _) wD.heap.size y rfl (by simp) (by have := unhide HNN; omega) (by have := hb2D.size; simp; omega) ?_; intro v2 w6 ho6 hg6)
        go_roundw
        case rel =>
          have hb7 := (((Below.refl w2.heap.size wD).alloc hb2D.size (.cells #[.int .i64 y] 3)).grown hg6 (by have := hb2D.size; simp; omega) (fun q hq => ((unhide hownD).lt q hq).1))
          refine ⟨hb2D.trans hb7, k+1, by omega, by go_num, ?_⟩
          rw [unhide HS, intVals_append]
          exact ho6
        case measure => simp [intOf]; omega
    · go_wp2
      go_ret2
      obtain rfl : k = na := by omega
      obtain ⟨va, c, rfl, hI, _⟩ := Ints.of_owns hown (by omega)
      refine ⟨va, k, c, by rw [unhide HE]; rfl, ?_, hbwr⟩
      rw [unhide HE2, ← unhide hna]
      exact hI
end Go.Proofs.Ytodbnjainpjkcaa
