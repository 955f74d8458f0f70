import Derived.Test.YtajdijjecojdhaaDoorWR
namespace Go.Proofs.YtajdijjecojdhaaDoor
open Go.RowKit
/-- No machine holds more. -/
def Small (l : List Ag) : Prop := ∀ g ∈ l, g.ln ≤ 140737488351232 ∧ g.name.size ≤ 140737488351232
theorem Small.at {l : List Ag} (h : Small l) {k : Nat} (hk : k < l.length) : (agAt l k).ln ≤ 140737488351232 ∧ (agAt l k).name.size ≤ 140737488351232 := by
  refine h _ ?_
  unfold agAt
  rw [List.getElem?_eq_getElem hk]
  simp
theorem all_at {l : List Ag} (h : ∀ j, j < l.length → (agAt l j).ln ≤ 500) : ∀ g ∈ l, g.ln ≤ 500 := by
  intro g hg
  obtain ⟨i, hi, rfl⟩ := List.getElem_of_mem hg
  have h1 := h i hi
  unfold agAt at h1
  rw [List.getElem?_eq_getElem hi] at h1
  exact h1
set_option maxRecDepth 100000 in
set_option maxHeartbeats 4000000 in
theorem heavy_any (aL : Option Addr) (nL cL : Nat) (lL : List Ag) (aR : Option Addr) (nR cR : Nat) (lR : List Ag) (w : World) (hL : Ags w aL nL cL lL) (hR : Ags w aR nR cR lR)
    (hsL : Small lL) (hsR : Small lR) (hmL : nL ≤ 140737488351232) (hmR : nR ≤ 140737488351232) :
    Calls Tryd.prog 6 #[.agg #[.slice aL nL cL, .slice aR nR cR]] w fun e w' => ∃ hv : Bool, e = .returned (.bool hv) ∧ (hv = false → (∀ g ∈ lL, g.ln ≤ 500) ∧ (∀ g ∈ lR, g.ln ≤ 500)) ∧ Below w.heap.size w w' := by
  have hLn := hide hL.1
  have hRn := hide hR.1
  have hLc := hL.2.1
  have hRc := hR.2.1
  have hLm := hL.2.2.1
  have hRm := hR.2.2.1
  unfold maxLen at hLm hRm
  obtain ⟨wA, hwA⟩ : ∃ x, x = w.alloc (.cells #[.slice aL nL cL, .slice aR nR cR] 24) := ⟨_, rfl⟩
  have hbA : Below w.heap.size w wA := by rw [hwA]; go_grown
  have a0 : wA.cell? ⟨w.heap.size, 0, none⟩ = some (.slice aL nL cL) := by rw [hwA]; simp
  have a1 : wA.cell? ⟨w.heap.size, 1, none⟩ = some (.slice aR nR cR) := by rw [hwA]; simp
  have hLA := hL.later hbA
  have hRA := hR.later hbA
  have HW := hide hwA
  clear hwA
  go_enter Tryd.func6, Tryd.ntmps6
  go_wp2_with fail
  go_loopw [3, 4] (fun nv iv wr => Below wA.heap.size wA wr ∧ ∃ (z : Int) (k : Nat), nv = .int .i64 z ∧ iv = .int .i64 k ∧ k ≤ nL ∧ 0 ≤ z ∧ z ≤ 1000000000000000 ∧ (z ≤ 500 → ∀ j, j < k → (agAt lL j).ln ≤ 500)) (fun _ iv _ => nL - (intOf iv).toNat)
  case atStart => exact ⟨by rw [unhide HW]; exact Below.refl _ _, _, 0, rfl, rfl, Nat.zero_le _, by omega, by omega, fun _ j hj => by omega⟩
  case round =>
    obtain ⟨hbr, z, k, rfl, rfl, hk, hz0, hz1, hz2⟩ := hrel
    have s0 := (hbr.cell (p := ⟨w.heap.size, 0, none⟩) (World.block_lt_of_cell? wA _ a0)).trans a0
    have s1 := (hbr.cell (p := ⟨w.heap.size, 1, none⟩) (World.block_lt_of_cell? wA _ a1)).trans a1
    have HZ2 := hide hz2
    clear hz2
    by_cases hgo : k < nL ∧ z ≤ 500
    · obtain ⟨hlt, hz5⟩ := hgo
      have hsm := hsL.at (show k < lL.length by have := unhide hLn; omega)
      obtain ⟨bS, oS, hbS, r1, r3⟩ : ∃ bS oS, aL = some ⟨bS, oS, none⟩ ∧ wr.cell? ⟨bS, oS + k * 3, none⟩ = some (.string (agAt lL k).name) ∧ wr.cell? ⟨bS, oS + k * 3 + 2, none⟩ = some (.slice (agAt lL k).la (agAt lL k).ln (agAt lL k).lc) := by
        rcases hLA.2.2.2.2 with h0 | ⟨bS, oS, h1, h2, h3⟩
        · omega
        · exact ⟨bS, oS, h1, (hbr.cell (p := ⟨bS, oS + k * 3, none⟩) h2).trans (h3 k hlt).1, (hbr.cell (p := ⟨bS, oS + k * 3 + 2, none⟩) h2).trans (h3 k hlt).2.2⟩
      subst hbS
      obtain ⟨hs1, hs2⟩ := hsm
      have HG : Hid ((agAt lL k).ln ≤ 500 ∨ 500 < (agAt lL k).ln) := by unfold Hid; omega
      have HST : Hid (z + ((agAt lL k).ln : Int) + ((agAt lL k).name.size : Int) ≤ 500 → ∀ j, j < k + 1 → (agAt lL j).ln ≤ 500) := by
        intro h j hj
        by_cases e : j = k
        · rw [e]; omega
        · exact unhide HZ2 hz5 j (by omega)
      generalize agAt lL k = G at *
      have hlk : (k : Int) < (nL : Int) := by omega
      go_wp2_with fail
      go_quiet (fail)
      go_wp2
      go_roundw
      case rel => exact ⟨hbr.trans (below_drewN _ _ _), _, k+1, rfl, by go_num, by omega, by omega, by omega, unhide HST⟩
      case measure => simp [intOf]; omega
    · have HE : Hid (z ≤ 500 → ∀ g ∈ lL, g.ln ≤ 500) := fun h => all_at (fun j hj => unhide HZ2 h j (by have := unhide hLn; omega))
      have hx : nL ≤ k ∨ (k < nL ∧ 500 < z) := by omega
      have hsw : w.heap.size < wr.heap.size := World.block_lt_of_cell? wr _ s0
      have hRr := hRA.later hbr
      have hbw : Below w.heap.size w wr := hbA.trans (hbr.mono hbA.size)
      clear hgo HZ2
      rcases hx with hx | ⟨hx, hx2⟩
      all_goals
        go_wp2_with fail
        go_loopw [3, 5] (fun nv iv wz => Below wr.heap.size wr wz ∧ ∃ (z : Int) (k : Nat), nv = .int .i64 z ∧ iv = .int .i64 k ∧ k ≤ nR ∧ 0 ≤ z ∧ z ≤ 2000000000000000 ∧ (z ≤ 500 → (∀ g ∈ lL, g.ln ≤ 500) ∧ ∀ j, j < k → (agAt lR j).ln ≤ 500)) (fun _ iv _ => nR - (intOf iv).toNat)
        case atStart => exact ⟨Below.refl _ _, _, 0, rfl, rfl, Nat.zero_le _, by omega, by omega, fun h => ⟨unhide HE h, fun j hj => by omega⟩⟩
        case round =>
          rename World => wq
          obtain ⟨hbq, y, j, rfl, rfl, hj, hy0, hy1, hy2⟩ := hrel
          have t0 := (hbq.cell (p := ⟨w.heap.size, 0, none⟩) hsw).trans s0
          have t1 := (hbq.cell (p := ⟨w.heap.size, 1, none⟩) hsw).trans s1
          have HY2 := hide hy2
          clear hy2
          by_cases hgo : j < nR ∧ y ≤ 500
          · obtain ⟨hlt, hy5⟩ := hgo
            have hsm := hsR.at (show j < lR.length by have := unhide hRn; omega)
            obtain ⟨bS, oS, hbS, r1, r3⟩ : ∃ bS oS, aR = some ⟨bS, oS, none⟩ ∧ wq.cell? ⟨bS, oS + j * 3, none⟩ = some (.string (agAt lR j).name) ∧ wq.cell? ⟨bS, oS + j * 3 + 2, none⟩ = some (.slice (agAt lR j).la (agAt lR j).ln (agAt lR j).lc) := by
              rcases hRr.2.2.2.2 with h0 | ⟨bS, oS, h1, h2, h3⟩
              · omega
              · exact ⟨bS, oS, h1, (hbq.cell (p := ⟨bS, oS + j * 3, none⟩) h2).trans (h3 j hlt).1, (hbq.cell (p := ⟨bS, oS + j * 3 + 2, none⟩) h2).trans (h3 j hlt).2.2⟩
            subst hbS
            obtain ⟨hs1, hs2⟩ := hsm
            have HST : Hid (y + ((agAt lR j).ln : Int) + ((agAt lR j).name.size : Int) ≤ 500 → (∀ g ∈ lL, g.ln ≤ 500) ∧ ∀ i, i < j + 1 → (agAt lR i).ln ≤ 500) := by
              intro h
              refine ⟨(unhide HY2 hy5).1, fun i hi => ?_⟩
              by_cases e : i = j
              · rw [e]; omega
              · exact (unhide HY2 hy5).2 i (by omega)
            generalize agAt lR j = G at *
            have hlk : (j : Int) < (nR : Int) := by omega
            go_wp2_with fail
            go_quiet (fail)
            go_wp2
            go_roundw
            case rel => exact ⟨hbq.trans (below_drewN _ _ _), _, j+1, rfl, by go_num, by omega, by omega, by omega, unhide HST⟩
            case measure => simp [intOf]; omega
          · have HE2 : Hid (y ≤ 500 → (∀ g ∈ lL, g.ln ≤ 500) ∧ ∀ g ∈ lR, g.ln ≤ 500) := fun h => ⟨(unhide HY2 h).1, all_at (fun i hi => (unhide HY2 h).2 i (by have := unhide hRn; omega))⟩
            have hx3 : nR ≤ j ∨ (j < nR ∧ 500 < y) := by omega
            clear hgo HY2
            rcases hx3 with hx3 | ⟨hx3, hx4⟩
            all_goals
              go_wp2
              go_ret
              refine ⟨_, rfl, fun h => unhide HE2 (by first | exact absurd h (by decide) | (simp at h; omega)), hbw.trans (hbq.mono hbw.size)⟩
end Go.Proofs.YtajdijjecojdhaaDoor
