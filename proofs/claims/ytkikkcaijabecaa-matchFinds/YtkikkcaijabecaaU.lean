import Derived.Test.YtkikkcaijabecaaX
namespace Go.Proofs.Ytkikkcaijabecaa
open Go.RowKit
theorem stab_form (lL lR : List Ag) (ws : List Int) (P : Nat → Nat → Bool) : ∃ b x y z, stabV lL lR ws P = four b x y z := by
  unfold stabV
  split
  · split
    · exact ⟨_, _, _, _, rfl⟩
    · split
      · exact ⟨_, _, _, _, rfl⟩
      · exact ⟨_, _, _, _, rfl⟩
  · exact ⟨_, _, _, _, rfl⟩
set_option maxRecDepth 100000 in
set_option maxHeartbeats 4000000 in
theorem says_any (aL : Option Addr) (nL cL : Nat) (lL : List Ag) (aR : Option Addr) (nR cR : Nat) (lR : List Ag) (aa : Option Addr) (na ca : Nat) (xs : List Int) (ab : Option Addr) (nb cb : Nat) (bs : List Int) (w : World) (hL : Ags w aL nL cL lL) (hR : Ags w aR nR cR lR) (ha : Ints w aa na ca xs) (hb : Ints w ab nb cb bs)
    (hsL : Small lL) (hsR : Small lR) (hmL : nL ≤ 140737488351232) (hmR : nR ≤ 140737488351232) (hma : na ≤ 140737488351232) (hmb : nb ≤ 140737488351232) :
    Calls Try.prog 3 #[.agg #[.slice aL nL cL, .slice aR nR cR], .slice aa na ca, .slice ab nb cb] w fun e w' => e = .returned (.bool true) ∧ Below w.heap.size w w' := by
  obtain ⟨wA, hwA⟩ : ∃ y, y = w.alloc (.cells #[.slice aL nL cL, .slice aR nR cR] 24) := ⟨_, rfl⟩
  have hbA : Below w.heap.size w wA := by rw [hwA]; go_grown
  have p0a : wA.cell? ⟨w.heap.size, 0, none⟩ = some (.slice aL nL cL) := by rw [hwA]; simp
  have p1a : wA.cell? ⟨w.heap.size, 1, none⟩ = some (.slice aR nR cR) := by rw [hwA]; simp
  have HW := hide hwA
  clear hwA
  go_enter Try.func3, Try.ntmps3
  go_wp2_with fail
  rw [← unhide HW]
  refine (heavy_any aL nL cL lL aR nR cR lR wA (hL.later hbA) (hR.later hbA) hsL hsR hmL hmR).mono ?_
  rintro e w1 ⟨hv, rfl, hfl, hb1⟩
  have hbw1 := hbA.trans (hb1.mono hbA.size)
  have p0b := (hb1.cell (p := ⟨w.heap.size, 0, none⟩) (World.block_lt_of_cell? wA _ p0a)).trans p0a
  have p1b := (hb1.cell (p := ⟨w.heap.size, 1, none⟩) (World.block_lt_of_cell? wA _ p1a)).trans p1a
  clear p0a p1a
  cases hv with
  | true =>
    go_wp2
    go_ret
    exact ⟨rfl, hbw1⟩
  | false =>
  obtain ⟨hfL, hfR⟩ := hfl rfl
  have HFL := hide hfL
  have HFR := hide hfR
  clear hfl hfL hfR
  by_cases hbig : 100 < na + nb
  · have hb2 : decide (100 < (na : Int) + (nb : Int)) = true := by simp; omega
    go_wp2
    go_ret
    exact ⟨rfl, hbw1⟩
  have hna : na ≤ 500 := by omega
  have hnb : nb ≤ 500 := by omega
  have hb2 : decide (100 < (na : Int) + (nb : Int)) = false := by simp; omega
  clear hbig
  go_wp2_with fail
  refine (stable_any aL nL cL lL aR nR cR lR aa na ca xs w1 (hL.later hbw1) (hR.later hbw1) (ha.later hbw1) (by omega) (unhide HFL) (unhide HFR)).mono ?_
  rintro e w2 ⟨rfl, hb2w⟩
  have hbw2 := hbw1.trans (hb2w.mono hbw1.size)
  have p0c := (hb2w.cell (p := ⟨w.heap.size, 0, none⟩) (World.block_lt_of_cell? w1 _ p0b)).trans p0b
  have p1c := (hb2w.cell (p := ⟨w.heap.size, 1, none⟩) (World.block_lt_of_cell? w1 _ p1b)).trans p1b
  clear p0b p1b
  rw [stab_same]
  obtain ⟨sb, sx, sy, sz, hst⟩ := stab_form lL lR xs (wouldB lL lR xs)
  rw [hst]
  unfold four
  go_wp2_with fail
  refine (stableD_any aL nL cL lL aR nR cR lR aa na ca xs w2 (hL.later hbw2) (hR.later hbw2) (ha.later hbw2) (by omega)).mono ?_
  rintro e w3 ⟨rfl, hb3w⟩
  have hbw3 := hbw2.trans (hb3w.mono hbw2.size)
  have p0d := (hb3w.cell (p := ⟨w.heap.size, 0, none⟩) (World.block_lt_of_cell? w2 _ p0c)).trans p0c
  have p1d := (hb3w.cell (p := ⟨w.heap.size, 1, none⟩) (World.block_lt_of_cell? w2 _ p1c)).trans p1c
  clear p0c p1c
  rw [hst]
  clear hst
  unfold four
  go_wp2_with fail
  have C1 := hide (fun d os => Calls.regrown_of (mmay_any aL nL cL lL aR nR cR lR _ (hL.later (hbw3.trans ((below_regrown w3 d os).mono hbw3.size))) (hR.later (hbw3.trans ((below_regrown w3 d os).mono hbw3.size)))))
  have C2 := hide (fun d os => Calls.regrown_of (mmayD_any aL nL cL lL aR nR cR lR _ (hL.later (hbw3.trans ((below_regrown w3 d os).mono hbw3.size))) (hR.later (hbw3.trans ((below_regrown w3 d os).mono hbw3.size)))))
  have p0g := cell_regrown p0d
  have p1g := cell_regrown p1d
  have hme : (matchE lL lR != matchE lL lR) = false := by simp
  have hmb1 : (sb != sb) = false := by simp
  have hmb2 : (sx != sx) = false := by simp
  have hmb3 : (sy != sy) = false := by simp
  have hmb4 : (sz != sz) = false := by simp
  refine wp_region_quiet_below (by kernel_rfl) (by kernel_rfl) ?_
  repeat (quiet_step (first | exact unhide C1 _ _ | exact unhide C2 _ _))
  refine wpQuiet_nil ?_
  intro _ hw'
  obtain ⟨⟨dq, osq⟩, hw''⟩ := hw'
  subst hw''
  have hb4w := below_regrown w3 dq osq
  have hbw4 := hbw3.trans (hb4w.mono hbw3.size)
  have p0e := (hb4w.cell (p := ⟨w.heap.size, 0, none⟩) (World.block_lt_of_cell? w3 _ p0d)).trans p0d
  have p1e := (hb4w.cell (p := ⟨w.heap.size, 1, none⟩) (World.block_lt_of_cell? w3 _ p1d)).trans p1d
  clear p0d p1d p0g p1g C1 C2
  generalize Sort.grow (redrawn w3 dq) osq = w4 at *
  go_wp2_with fail
  refine (join_any aL nL cL lL aR nR cR lR aa na ca xs ab nb cb bs w4 (hL.later hbw4) (hR.later hbw4) (ha.later hbw4) (hb.later hbw4) (by omega) (by omega) (unhide HFL)).mono ?_
  rintro e w5 ⟨va, vm, vc, rfl, hI, hb5w⟩
  have hbw5 := hbw4.trans (hb5w.mono hbw4.size)
  have p0f := (hb5w.cell (p := ⟨w.heap.size, 0, none⟩) (World.block_lt_of_cell? w4 _ p0e)).trans p0e
  have p1f := (hb5w.cell (p := ⟨w.heap.size, 1, none⟩) (World.block_lt_of_cell? w4 _ p1e)).trans p1e
  clear p0e p1e
  unfold two
  go_wp2_with fail
  refine (blendT_any aL nL cL lL aR nR cR lR aa na ca xs ab nb cb bs w5 (hL.later hbw5) (hR.later hbw5) (ha.later hbw5) (hb.later hbw5) hna hnb (unhide HFL)).mono ?_
  rintro e w6 ⟨va2, vm2, vc2, rfl, hI2, hb6w⟩
  have hbw6 := hbw5.trans (hb6w.mono hbw5.size)
  have p0g := (hb6w.cell (p := ⟨w.heap.size, 0, none⟩) (World.block_lt_of_cell? w5 _ p0f)).trans p0f
  have p1g := (hb6w.cell (p := ⟨w.heap.size, 1, none⟩) (World.block_lt_of_cell? w5 _ p1f)).trans p1f
  clear p0f p1f
  unfold two
  rw [blend_J] at hI2
  have hI1 := hI.later hb6w
  go_wp2_with fail
  refine (sameInts_any va va2 vm vc vm2 vc2 _ _ w6 hI1 hI2).mono ?_
  rintro e w7 ⟨rfl, hb7w⟩
  have hbw7 := hbw6.trans (hb7w.mono hbw6.size)
  have p0h := (hb7w.cell (p := ⟨w.heap.size, 0, none⟩) (World.block_lt_of_cell? w6 _ p0g)).trans p0g
  have p1h := (hb7w.cell (p := ⟨w.heap.size, 1, none⟩) (World.block_lt_of_cell? w6 _ p1g)).trans p1g
  clear p0g p1g hI hI1 hI2
  rw [decide_eq_true rfl]
  go_wp2_with fail
  refine (meet_any aL nL cL lL aR nR cR lR aa na ca xs ab nb cb bs w7 (hL.later hbw7) (hR.later hbw7) (ha.later hbw7) (hb.later hbw7) (by omega) (by omega) (unhide HFL)).mono ?_
  rintro e w8 ⟨vb, vn, vd, rfl, hI, hb8w⟩
  have hbw8 := hbw7.trans (hb8w.mono hbw7.size)
  have p0i := (hb8w.cell (p := ⟨w.heap.size, 0, none⟩) (World.block_lt_of_cell? w7 _ p0h)).trans p0h
  have p1i := (hb8w.cell (p := ⟨w.heap.size, 1, none⟩) (World.block_lt_of_cell? w7 _ p1h)).trans p1h
  clear p0h p1h
  unfold two
  go_wp2_with fail
  refine (blendF_any aL nL cL lL aR nR cR lR aa na ca xs ab nb cb bs w8 (hL.later hbw8) (hR.later hbw8) (ha.later hbw8) (hb.later hbw8) hna hnb (unhide HFL)).mono ?_
  rintro e w9 ⟨vb2, vn2, vd2, rfl, hI2, hb9w⟩
  have hbw9 := hbw8.trans (hb9w.mono hbw8.size)
  have p0j := (hb9w.cell (p := ⟨w.heap.size, 0, none⟩) (World.block_lt_of_cell? w8 _ p0i)).trans p0i
  have p1j := (hb9w.cell (p := ⟨w.heap.size, 1, none⟩) (World.block_lt_of_cell? w8 _ p1i)).trans p1i
  clear p0i p1i
  unfold two
  rw [blend_M] at hI2
  have hI1 := hI.later hb9w
  go_wp2_with fail
  refine (sameInts_any vb vb2 vn vd vn2 vd2 _ _ w9 hI1 hI2).mono ?_
  rintro e w10 ⟨rfl, hb10w⟩
  have hbw10 := hbw9.trans (hb10w.mono hbw9.size)
  rw [decide_eq_true rfl]
  go_wp2
  go_ret
  exact ⟨rfl, hbw10⟩
end Go.Proofs.Ytkikkcaijabecaa
