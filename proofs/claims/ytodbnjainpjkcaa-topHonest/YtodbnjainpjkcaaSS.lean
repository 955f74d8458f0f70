import Derived.Test.YtodbnjainpjkcaaRR
import Derived.Test.YtodbnjainpjkcaaBB
namespace Go.Proofs.Ytodbnjainpjkcaa
open Go.RowKit
theorem asks_end (lL lR : List Ag) : ∀ n ws asked, leftQ lL (atL asked) lL.length ≤ n → Asks lL lR ws asked → ∃ ws' asked', Asks lL lR ws' asked' ∧ Asked lL ws' asked' := by
  intro n
  induction n with
  | zero =>
    intro ws asked hq hA
    refine ⟨ws, asked, hA, fun j hj hjw => Int.not_lt.1 fun hlt => ?_⟩
    have := leftQ_less (lL := lL) (f := atL asked) (g := atL (stepA asked j)) (m := j) lL.length hj (fun i hi hne => by unfold stepA; rw [set_at asked j _ i (by rw [hA.lens.2.1]; exact hj), if_neg hne]) (hA.lens.2.2 j) hlt (by unfold stepA; rw [set_at asked j _ j (by rw [hA.lens.2.1]; exact hj), if_pos rfl])
    omega
  | succ n ih =>
    intro ws asked hq hA
    by_cases hF : Asked lL ws asked
    · exact ⟨ws, asked, hA, hF⟩
    · have hex : ∃ j, j < lL.length ∧ atL ws j = -1 ∧ atL asked j < (agAt lL j).likes.length := Classical.byContradiction fun hh => hF fun j hj hjw => Int.not_lt.1 fun hlt => hh ⟨j, hj, hjw, hlt⟩
      obtain ⟨j, hj, hjw, hlt⟩ := hex
      have hq2 := leftQ_less (lL := lL) (f := atL asked) (g := atL (stepA asked j)) (m := j) lL.length hj (fun i hi hne => by unfold stepA; rw [set_at asked j _ i (by rw [hA.lens.2.1]; exact hj), if_neg hne]) (hA.lens.2.2 j) hlt (by unfold stepA; rw [set_at asked j _ j (by rw [hA.lens.2.1]; exact hj), if_pos rfl])
      exact ih _ _ (by omega) (hA.step hj hjw hlt)
theorem doc_ex {lL lR : List Ag} (hm : matchE lL lR = 0) : ∃ o l, docF lL lR lL.length [] = o :: l := by
  obtain ⟨ws, asked, hA, hF⟩ := asks_end lL lR _ _ _ (Nat.le_refl _) (Asks.start lL lR)
  exact doc_some hm hA hF
set_option maxRecDepth 100000 in
set_option maxHeartbeats 4000000 in
theorem finds_any (aL : Option Addr) (nL cL : Nat) (lL : List Ag) (aR : Option Addr) (nR cR : Nat) (lR : List Ag) (w : World) (hL : Ags w aL nL cL lL) (hR : Ags w aR nR cR lR)
    (hsL : Small lL) (hsR : Small lR) (hmL : nL ≤ 140737488351232) (hmR : nR ≤ 140737488351232) :
    Calls Try.prog 8 #[.agg #[.slice aL nL cL, .slice aR nR cR]] w fun e w' => e = .returned (.bool true) ∧ Below w.heap.size w w' := by
  obtain ⟨wA, hwA⟩ : ∃ y, y = w.alloc (.cells #[.slice aL nL cL, .slice aR nR cR] 26) := ⟨_, rfl⟩
  have hbA : Below w.heap.size w wA := by rw [hwA]; go_grown
  have p0a : wA.cell? ⟨w.heap.size, 0, none⟩ = some (.slice aL nL cL) := by rw [hwA]; simp
  have p1a : wA.cell? ⟨w.heap.size, 1, none⟩ = some (.slice aR nR cR) := by rw [hwA]; simp
  have HW := hide hwA
  clear hwA
  go_enter Try.func8, Try.ntmps8
  go_wp2_with fail
  rw [← unhide HW]
  refine (heavy_any aL nL cL lL aR nR cR lR wA (hL.later hbA) (hR.later hbA) hsL hsR hmL hmR).mono ?_
  rintro e w1 ⟨hv, rfl, hfl, hb1⟩
  have hbw1 := hbA.trans (hb1.mono hbA.size)
  have p0b := (hb1.cell (p := ⟨w.heap.size, 0, none⟩) (World.block_lt_of_cell? wA _ p0a)).trans p0a
  have p1b := (hb1.cell (p := ⟨w.heap.size, 1, none⟩) (World.block_lt_of_cell? wA _ p1a)).trans p1a
  clear p0a p1a
  cases hv with
  | true =>
    go_wp2
    go_ret
    exact ⟨rfl, hbw1⟩
  | false =>
  obtain ⟨hfL, hfR⟩ := hfl rfl
  have HFL := hide hfL
  have HFR := hide hfR
  clear hfl hfL hfR
  by_cases hb4 : 4 < nL
  · have d1 : decide (4 < (nL : Int)) = true := by simp; omega
    go_wp2
    go_ret
    exact ⟨rfl, hbw1⟩
  have d1 : decide (4 < (nL : Int)) = false := by simp; omega
  by_cases hb5 : 4 < nR
  · have d2 : decide (4 < (nR : Int)) = true := by simp; omega
    go_wp2
    go_ret
    exact ⟨rfl, hbw1⟩
  have d2 : decide (4 < (nR : Int)) = false := by simp; omega
  clear hb4 hb5
  by_cases hz : matchE lL lR = 0
  · have HZ := hide hz
    clear hz
    go_wp2_with fail
    refine (all_ok aL nL cL lL aR nR cR lR w1 (hL.later hbw1) (hR.later hbw1) (unhide HFL) (unhide HFR) (unhide HZ)).mono ?_
    rintro e w2 ⟨a2, n2, c2, L2, rfl, hL2, hl2, hb2⟩
    have hbw2 := hbw1.trans (hb2.mono hbw1.size)
    have p0c := (hb2.cell (p := ⟨w.heap.size, 0, none⟩) (World.block_lt_of_cell? w1 _ p0b)).trans p0b
    have p1c := (hb2.cell (p := ⟨w.heap.size, 1, none⟩) (World.block_lt_of_cell? w1 _ p1b)).trans p1b
    clear p0b p1b
    unfold two
    go_wp2_with fail
    refine (allStable_any aL nL cL lL aR nR cR lR w2 (hL.later hbw2) (hR.later hbw2)).mono ?_
    rintro e w3 ⟨a3, n3, c3, L3, rfl, hL3, hl3, hb3⟩
    rw [unhide HZ]
    rw [if_pos (unhide HZ)] at hl3
    have hbw3 := hbw2.trans (hb3.mono hbw2.size)
    have p0d := (hb3.cell (p := ⟨w.heap.size, 0, none⟩) (World.block_lt_of_cell? w2 _ p0c)).trans p0c
    have p1d := (hb3.cell (p := ⟨w.heap.size, 1, none⟩) (World.block_lt_of_cell? w2 _ p1c)).trans p1c
    clear p0c p1c
    unfold two
    have hee : lists L2 = lists L3 := by rw [hl2, hl3]; exact prog_doc (unhide HZ) _ _ (good_nil (match_may (unhide HZ))) (by simp)
    have HEE := hide hee
    have HL3 := hide hl3
    clear hee hl2 hl3
    go_wp2_with fail
    refine (sameLists_any a2 a3 n2 c2 n3 c3 L2 L3 w3 (hL2.later hb3) hL3 (unhide HEE)).mono ?_
    rintro e w4 ⟨rfl, hb4⟩
    have hbw4 := hbw3.trans (hb4.mono hbw3.size)
    have p0e := (hb4.cell (p := ⟨w.heap.size, 0, none⟩) (World.block_lt_of_cell? w3 _ p0d)).trans p0d
    have p1e := (hb4.cell (p := ⟨w.heap.size, 1, none⟩) (World.block_lt_of_cell? w3 _ p1d)).trans p1d
    clear p0d p1d
    clear hL2 hL3
    obtain ⟨o, l, hdoc⟩ := doc_ex (unhide HZ)
    go_wp2_with fail
    refine (bestT_any aL nL cL lL aR nR cR lR w4 (hL.later hbw4) (hR.later hbw4) (unhide HFL) (unhide HZ) o l hdoc).mono ?_
    rintro e w5 ⟨a5, n5, c5, rfl, hI5, hb5⟩
    have hbw5 := hbw4.trans (hb5.mono hbw4.size)
    have p0f := (hb5.cell (p := ⟨w.heap.size, 0, none⟩) (World.block_lt_of_cell? w4 _ p0e)).trans p0e
    have p1f := (hb5.cell (p := ⟨w.heap.size, 1, none⟩) (World.block_lt_of_cell? w4 _ p1e)).trans p1e
    clear p0e p1e
    unfold two
    go_wp2_with fail
    refine (bestF_any aL nL cL lL aR nR cR lR w5 (hL.later hbw5) (hR.later hbw5) (unhide HFL) (unhide HZ) o l hdoc).mono ?_
    rintro e w6 ⟨a6, n6, c6, rfl, hI6, hb6⟩
    have hbw6 := hbw5.trans (hb6.mono hbw5.size)
    have p0g := (hb6.cell (p := ⟨w.heap.size, 0, none⟩) (World.block_lt_of_cell? w5 _ p0f)).trans p0f
    have p1g := (hb6.cell (p := ⟨w.heap.size, 1, none⟩) (World.block_lt_of_cell? w5 _ p1f)).trans p1f
    clear p0f p1f
    unfold two
    go_wp2_with fail
    refine (left_ok aL nL cL lL aR nR cR lR w6 (hL.later hbw6) (hR.later hbw6) (unhide HFR) (unhide HZ)).mono ?_
    rintro e w7 ⟨g7, ws7, asked7, rfl, hI7, _, hA7, hF7, hb7⟩
    have hbw7 := hbw6.trans (hb7.mono hbw6.size)
    have p0h := (hb7.cell (p := ⟨w.heap.size, 0, none⟩) (World.block_lt_of_cell? w6 _ p0g)).trans p0g
    have p1h := (hb7.cell (p := ⟨w.heap.size, 1, none⟩) (World.block_lt_of_cell? w6 _ p1g)).trans p1g
    clear p0g p1g
    rw [best_left (unhide HZ) hA7 hF7 hdoc] at hI5
    unfold two
    go_wp2_with fail
    refine (right_ok aL nL cL lL aR nR cR lR w7 (hL.later hbw7) (hR.later hbw7) (unhide HFL) (unhide HZ)).mono ?_
    rintro e w8 ⟨g8, ws8, asked8, rfl, hI8, _, hA8, hF8, hb8⟩
    have hbw8 := hbw7.trans (hb8.mono hbw7.size)
    rw [worst_right (unhide HZ) hA8 hF8 hdoc] at hI6
    unfold two
    have hI5' := hI5.later (hb6.trans ((hb7.trans (hb8.mono hb7.size)).mono hb6.size))
    have hI7' := hI7.later hb8
    have hI6' := hI6.later (hb7.trans (hb8.mono hb7.size))
    clear hI5 hI6 hI7 hdoc hA7 hF7 hA8 hF8 p0h p1h
    go_wp2_with fail
    refine (sameInts_any _ a5 nL nL n5 c5 ws7 ws7 w8 hI7' hI5').mono ?_
    rintro e w9 ⟨rfl, hb9⟩
    rw [decide_eq_true rfl]
    have hbw9 := hbw8.trans (hb9.mono hbw8.size)
    go_wp2_with fail
    refine (sameInts_any _ a6 nL nL n6 c6 ws8 ws8 w9 (hI8.later hb9) (hI6'.later hb9)).mono ?_
    rintro e w10 ⟨rfl, hb10⟩
    rw [decide_eq_true rfl]
    go_wp2
    go_ret
    exact ⟨rfl, hbw9.trans (hb10.mono hbw9.size)⟩
  · have HZ := hide hz
    have hzb : (matchE lL lR != 0) = true := by simpa using hz
    clear hz
    have hnil : ∀ W : World, Lsts W none 0 0 [] := fun W => ⟨rfl, Nat.le_refl _, by unfold maxLen; omega, (fun s hs => by cases hs), .inl rfl⟩
    have HNIL := hide hnil
    clear hnil
    go_wp2_with fail
    refine (all_err aL nL cL lL aR nR cR lR w1 (hL.later hbw1) (hR.later hbw1) (unhide HZ)).mono ?_
    rintro e w2 ⟨rfl, hb2⟩
    have hbw2 := hbw1.trans (hb2.mono hbw1.size)
    have p0c := (hb2.cell (p := ⟨w.heap.size, 0, none⟩) (World.block_lt_of_cell? w1 _ p0b)).trans p0b
    have p1c := (hb2.cell (p := ⟨w.heap.size, 1, none⟩) (World.block_lt_of_cell? w1 _ p1b)).trans p1b
    clear p0b p1b
    unfold two
    go_wp2_with fail
    refine (allStable_any aL nL cL lL aR nR cR lR w2 (hL.later hbw2) (hR.later hbw2)).mono ?_
    rintro e w3 ⟨a3, n3, c3, L3, rfl, hL3, hl3, hb3⟩
    rw [if_neg (unhide HZ)] at hl3
    have hbw3 := hbw2.trans (hb3.mono hbw2.size)
    have p0d := (hb3.cell (p := ⟨w.heap.size, 0, none⟩) (World.block_lt_of_cell? w2 _ p0c)).trans p0c
    have p1d := (hb3.cell (p := ⟨w.heap.size, 1, none⟩) (World.block_lt_of_cell? w2 _ p1c)).trans p1c
    clear p0c p1c
    unfold two
    have HL3 := hide hl3
    clear hl3
    go_wp2_with fail
    refine (sameLists_any none a3 0 0 n3 c3 [] L3 w3 (unhide HNIL w3) hL3 (by rw [unhide HL3]; rfl)).mono ?_
    rintro e w4 ⟨rfl, hb4⟩
    have hbw4 := hbw3.trans (hb4.mono hbw3.size)
    have p0e := (hb4.cell (p := ⟨w.heap.size, 0, none⟩) (World.block_lt_of_cell? w3 _ p0d)).trans p0d
    have p1e := (hb4.cell (p := ⟨w.heap.size, 1, none⟩) (World.block_lt_of_cell? w3 _ p1d)).trans p1d
    clear p0d p1d
    clear hL3
    go_wp2_with fail
    refine (left_err aL nL cL lL aR nR cR lR w4 (hL.later hbw4) (hR.later hbw4) (unhide HZ)).mono ?_
    rintro e w5 ⟨rfl, hb5⟩
    have hbw5 := hbw4.trans (hb5.mono hbw4.size)
    have p0f := (hb5.cell (p := ⟨w.heap.size, 0, none⟩) (World.block_lt_of_cell? w4 _ p0e)).trans p0e
    have p1f := (hb5.cell (p := ⟨w.heap.size, 1, none⟩) (World.block_lt_of_cell? w4 _ p1e)).trans p1e
    clear p0e p1e
    unfold two
    go_wp2_with fail
    refine (right_err aL nL cL lL aR nR cR lR w5 (hL.later hbw5) (hR.later hbw5) (unhide HZ)).mono ?_
    rintro e w6 ⟨rfl, hb6⟩
    have hbw6 := hbw5.trans (hb6.mono hbw5.size)
    unfold two
    go_wp2
    go_ret
    exact ⟨rfl, hbw6⟩
end Go.Proofs.Ytodbnjainpjkcaa
