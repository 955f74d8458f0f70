import Derived.Test.YtajdijjecojdhaaDoorWT
namespace Go.Proofs.YtajdijjecojdhaaDoor
open Go.RowKit
set_option maxRecDepth 100000 in
set_option maxHeartbeats 4000000 in
theorem says_any (aL : Option Addr) (nL cL : Nat) (lL : List Ag) (aR : Option Addr) (nR cR : Nat) (lR : List Ag) (nm : ByteArray) (room : Int) (la : Option Addr) (ln lc : Nat) (likes : List Int) (x : Int) (w : World) (hL : Ags w aL nL cL lL) (hR : Ags w aR nR cR lR)
    (hI : Ints w la ln lc likes) (hsL : Small lL) (hsR : Small lR) (hmL : nL ≤ 140737488351232) (hmR : nR ≤ 140737488351232) :
    Calls Tryd.prog 3 #[.agg #[.slice aL nL cL, .slice aR nR cR], .agg #[.string nm, .int .i64 room, .slice la ln lc], .int .i64 x] w fun e w' => e = .returned (.bool true) ∧ Below w.heap.size w w' := by
  obtain ⟨wA, hwA⟩ : ∃ y, y = (w.alloc (.cells #[.slice aL nL cL, .slice aR nR cR] 24)).alloc (.cells #[.string nm, .int .i64 room, .slice la ln lc] 27) := ⟨_, rfl⟩
  have hbA : Below w.heap.size w wA := by rw [hwA]; go_grown
  have a0 : wA.cell? ⟨w.heap.size, 0, none⟩ = some (.slice aL nL cL) := by rw [hwA]; simp
  have a1 : wA.cell? ⟨w.heap.size, 1, none⟩ = some (.slice aR nR cR) := by rw [hwA]; simp
  have b0 : wA.cell? ⟨w.heap.size + 1, 0, none⟩ = some (.string nm) := by rw [hwA]; simp
  have b1 : wA.cell? ⟨w.heap.size + 1, 1, none⟩ = some (.int .i64 room) := by rw [hwA]; simp
  have b2 : wA.cell? ⟨w.heap.size + 1, 2, none⟩ = some (.slice la ln lc) := by rw [hwA]; simp
  have hLA := hL.later hbA
  have hRA := hR.later hbA
  have hIA := hI.later hbA
  have HW := hide hwA
  clear hwA
  go_enter Tryd.func3, Tryd.ntmps3
  go_wp2_with fail
  rw [← unhide HW]
  refine (heavy_any aL nL cL lL aR nR cR lR wA hLA hRA hsL hsR hmL hmR).mono ?_
  rintro e w1 ⟨hv, rfl, hfl, hb1⟩
  have hb1w : Below w.heap.size w w1 := hbA.trans (hb1.mono hbA.size)
  have c0 := (hb1.cell (p := ⟨w.heap.size, 0, none⟩) (World.block_lt_of_cell? wA _ a0)).trans a0
  have c1 := (hb1.cell (p := ⟨w.heap.size, 1, none⟩) (World.block_lt_of_cell? wA _ a1)).trans a1
  have d0 := (hb1.cell (p := ⟨w.heap.size + 1, 0, none⟩) (World.block_lt_of_cell? wA _ b0)).trans b0
  have d1 := (hb1.cell (p := ⟨w.heap.size + 1, 1, none⟩) (World.block_lt_of_cell? wA _ b1)).trans b1
  have d2 := (hb1.cell (p := ⟨w.heap.size + 1, 2, none⟩) (World.block_lt_of_cell? wA _ b2)).trans b2
  cases hv with
  | true =>
    go_wp2
    go_ret
    exact ⟨rfl, hb1w⟩
  | false =>
  obtain ⟨hfL, hfR⟩ := hfl rfl
  by_cases hbig : 100 < ln
  · go_wp2
    go_ret
    exact ⟨rfl, hb1w⟩
  have hlL : ∀ g ∈ lL, g.likes.length ≤ 500 := fun g hg => by have := (hL.2.2.2.1 g hg).1.1; have := hfL g hg; omega
  have hlR : ∀ g ∈ lR, g.likes.length ≤ 500 := fun g hg => by have := (hR.2.2.2.1 g hg).1.1; have := hfR g hg; omega
  go_wp2_with fail
  refine (print_any aL nL cL lL aR nR cR lR w1 (hL.later hb1w) (hR.later hb1w) hlL hlR).mono ?_
  rintro e w2 ⟨rfl, hb2⟩
  have hb2w : Below w.heap.size w w2 := hb1w.trans (hb2.mono hb1w.size)
  have e0 := (hb2.cell (p := ⟨w.heap.size, 0, none⟩) (World.block_lt_of_cell? w1 _ c0)).trans c0
  have e1 := (hb2.cell (p := ⟨w.heap.size, 1, none⟩) (World.block_lt_of_cell? w1 _ c1)).trans c1
  have f0 := (hb2.cell (p := ⟨w.heap.size + 1, 0, none⟩) (World.block_lt_of_cell? w1 _ d0)).trans d0
  have f1 := (hb2.cell (p := ⟨w.heap.size + 1, 1, none⟩) (World.block_lt_of_cell? w1 _ d1)).trans d1
  have f2 := (hb2.cell (p := ⟨w.heap.size + 1, 2, none⟩) (World.block_lt_of_cell? w1 _ d2)).trans d2
  clear a0 a1 b0 b1 b2 c0 c1 d0 d1 d2
  go_wp2_with fail
  refine (ranksPrint_any aL nL cL lL aR nR cR lR w2 (hL.later hb2w) (hR.later hb2w) hlL hlR).mono ?_
  rintro e w3 ⟨rfl, hb3⟩
  have hb3w : Below w.heap.size w w3 := hb2w.trans (hb3.mono hb2w.size)
  have a0 := (hb3.cell (p := ⟨w.heap.size, 0, none⟩) (World.block_lt_of_cell? w2 _ e0)).trans e0
  have a1 := (hb3.cell (p := ⟨w.heap.size, 1, none⟩) (World.block_lt_of_cell? w2 _ e1)).trans e1
  have b0 := (hb3.cell (p := ⟨w.heap.size + 1, 0, none⟩) (World.block_lt_of_cell? w2 _ f0)).trans f0
  have b1 := (hb3.cell (p := ⟨w.heap.size + 1, 1, none⟩) (World.block_lt_of_cell? w2 _ f1)).trans f1
  have b2 := (hb3.cell (p := ⟨w.heap.size + 1, 2, none⟩) (World.block_lt_of_cell? w2 _ f2)).trans f2
  clear e0 e1 f0 f1 f2
  have hcl : ∀ w', Below w3.heap.size w3 w' → (Below w3.heap.size w3 w' ∧ w'.cell? ⟨w.heap.size, 0, none⟩ = some (.slice aL nL cL) ∧ w'.cell? ⟨w.heap.size, 1, none⟩ = some (.slice aR nR cR) ∧ w'.cell? ⟨w.heap.size + 1, 0, none⟩ = some (.string nm) ∧ w'.cell? ⟨w.heap.size + 1, 1, none⟩ = some (.int .i64 room) ∧ w'.cell? ⟨w.heap.size + 1, 2, none⟩ = some (.slice la ln lc)) := by
    intro w' hb
    exact ⟨hb, (hb.cell (p := ⟨w.heap.size, 0, none⟩) (World.block_lt_of_cell? w3 _ a0)).trans a0, (hb.cell (p := ⟨w.heap.size, 1, none⟩) (World.block_lt_of_cell? w3 _ a1)).trans a1,
      (hb.cell (p := ⟨w.heap.size + 1, 0, none⟩) (World.block_lt_of_cell? w3 _ b0)).trans b0, (hb.cell (p := ⟨w.heap.size + 1, 1, none⟩) (World.block_lt_of_cell? w3 _ b1)).trans b1, (hb.cell (p := ⟨w.heap.size + 1, 2, none⟩) (World.block_lt_of_cell? w3 _ b2)).trans b2⟩
  have HCL := hide hcl
  clear hcl
  have KP : Hid (∀ W W' : World, (Below w3.heap.size w3 W ∧ W.cell? ⟨w.heap.size, 0, none⟩ = some (.slice aL nL cL) ∧ W.cell? ⟨w.heap.size, 1, none⟩ = some (.slice aR nR cR) ∧ W.cell? ⟨w.heap.size + 1, 0, none⟩ = some (.string nm) ∧ W.cell? ⟨w.heap.size + 1, 1, none⟩ = some (.int .i64 room) ∧ W.cell? ⟨w.heap.size + 1, 2, none⟩ = some (.slice la ln lc)) → Below W.heap.size W W' → (Below w3.heap.size w3 W' ∧ W'.cell? ⟨w.heap.size, 0, none⟩ = some (.slice aL nL cL) ∧ W'.cell? ⟨w.heap.size, 1, none⟩ = some (.slice aR nR cR) ∧ W'.cell? ⟨w.heap.size + 1, 0, none⟩ = some (.string nm) ∧ W'.cell? ⟨w.heap.size + 1, 1, none⟩ = some (.int .i64 room) ∧ W'.cell? ⟨w.heap.size + 1, 2, none⟩ = some (.slice la ln lc))) := fun W W' h hb => unhide HCL _ (h.1.trans (hb.mono h.1.size))
  have LW : Hid (∀ W : World, (Below w3.heap.size w3 W ∧ W.cell? ⟨w.heap.size, 0, none⟩ = some (.slice aL nL cL) ∧ W.cell? ⟨w.heap.size, 1, none⟩ = some (.slice aR nR cR) ∧ W.cell? ⟨w.heap.size + 1, 0, none⟩ = some (.string nm) ∧ W.cell? ⟨w.heap.size + 1, 1, none⟩ = some (.int .i64 room) ∧ W.cell? ⟨w.heap.size + 1, 2, none⟩ = some (.slice la ln lc)) → Ags W aL nL cL lL) := fun W h => hL.later (hb3w.trans (h.1.mono hb3w.size))
  have RW : Hid (∀ W : World, (Below w3.heap.size w3 W ∧ W.cell? ⟨w.heap.size, 0, none⟩ = some (.slice aL nL cL) ∧ W.cell? ⟨w.heap.size, 1, none⟩ = some (.slice aR nR cR) ∧ W.cell? ⟨w.heap.size + 1, 0, none⟩ = some (.string nm) ∧ W.cell? ⟨w.heap.size + 1, 1, none⟩ = some (.int .i64 room) ∧ W.cell? ⟨w.heap.size + 1, 2, none⟩ = some (.slice la ln lc)) → Ags W aR nR cR lR) := fun W h => hR.later (hb3w.trans (h.1.mono hb3w.size))
  have IW : Hid (∀ W : World, (Below w3.heap.size w3 W ∧ W.cell? ⟨w.heap.size, 0, none⟩ = some (.slice aL nL cL) ∧ W.cell? ⟨w.heap.size, 1, none⟩ = some (.slice aR nR cR) ∧ W.cell? ⟨w.heap.size + 1, 0, none⟩ = some (.string nm) ∧ W.cell? ⟨w.heap.size + 1, 1, none⟩ = some (.int .i64 room) ∧ W.cell? ⟨w.heap.size + 1, 2, none⟩ = some (.slice la ln lc)) → Ints W la ln lc likes) := fun W h => hI.later (hb3w.trans (h.1.mono hb3w.size))
  go_wp2_with fail
  go_region_held3 (fun W => (Below w3.heap.size w3 W ∧ W.cell? ⟨w.heap.size, 0, none⟩ = some (.slice aL nL cL) ∧ W.cell? ⟨w.heap.size, 1, none⟩ = some (.slice aR nR cR) ∧ W.cell? ⟨w.heap.size + 1, 0, none⟩ = some (.string nm) ∧ W.cell? ⟨w.heap.size + 1, 1, none⟩ = some (.int .i64 room) ∧ W.cell? ⟨w.heap.size + 1, 2, none⟩ = some (.slice la ln lc)))
    (first | exact unhide HCL _ (Below.refl _ _).drew | assumption | exact unhide KP _ _ (by assumption) hbn)
    (first
      | (go_at_call 9; refine (may_any aL nL cL lL aR nR cR lR _ (by exact unhide LW _ (by assumption)) (by exact unhide RW _ (by assumption))).mono ?_; rintro e wn ⟨rfl, hbn⟩)
      | (go_at_call 10; refine (ranksMay_any aL nL cL lL aR nR cR lR _ (by exact unhide LW _ (by assumption)) (by exact unhide RW _ (by assumption))).mono ?_; rintro e wn ⟨rfl, hbn⟩)
      | (go_at_call 11; refine (rank_any nm room la ln lc likes x _ (by exact unhide IW _ (by assumption))).mono ?_; rintro e wn ⟨rfl, hbn⟩)
      | (go_at_call 12; refine (place_any la ln lc likes x _ (by exact unhide IW _ (by assumption))).mono ?_; rintro e wn ⟨rfl, rfl⟩))
  all_goals
    go_wp2
    go_ret
    exact ⟨rfl, hb3w.trans (‹Below w3.heap.size w3 _ ∧ _›.1.mono hb3w.size)⟩
end Go.Proofs.YtajdijjecojdhaaDoor
