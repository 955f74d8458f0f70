import Derived.Test.YtkeanlpgnnikjaaX
import Derived.Laws.EntriesVeiled
namespace Go.Proofs.Ytkeanlpgnnikjaa
open Go.RowKit Go.Shelf
set_option maxHeartbeats 400000 in
theorem ways_any (G n : Nat) (w : World) : Calls Try.prog 28 #[.int .i64 G, .int .i64 n] w fun e w' => e = .returned (.func (.func 40) #[] #[.pointer (some ⟨w.heap.size, 0, none⟩), .pointer (some ⟨w.heap.size + 1, 0, none⟩)]) ∧ w' = (w.alloc (.cells #[.int .i64 G] 3)).alloc (.cells #[.int .i64 n] 3) := by
  go_enter Try.func28, Try.ntmps28
  go_wp2
  go_ret
  exact ⟨rfl, rfl⟩
set_option maxRecDepth 100000 in
set_option maxHeartbeats 2000000 in
theorem ways1_any {J : List (List Int) → (Nat → Prop) → World → Prop} {l n G Bn Bu : Nat} (JI : Inv J) (hY : Rounds Try.prog l (Wy n G) J) (hn4 : n ≤ 4) (hn6 : G ≤ 8) (S : Nat → Prop) (W : World) (hJ : J [] S W) (hB : Bn < W.heap.size) (hB2 : Bu < W.heap.size) (hS : ¬ S Bn) (hS2 : ¬ S Bu) (hc : W.cell? ⟨Bn, 0, none⟩ = some (.int .i64 G)) (hc2 : W.cell? ⟨Bu, 0, none⟩ = some (.int .i64 n)) :
    Calls Try.prog 40 #[.func (.yield l) #[] #[], .pointer (some ⟨Bn, 0, none⟩), .pointer (some ⟨Bu, 0, none⟩)] W fun e W' => (∃ v, e = .returned v) ∧ ∃ S', J (wL n G []) S' W' := by
  obtain ⟨GV, hGV⟩ : ∃ y, y = Value.func (.func 41) #[] #[.pointer (some ⟨Bn, 0, none⟩), .pointer (some ⟨W.heap.size, 0, none⟩), .pointer (some ⟨Bu, 0, none⟩), .pointer (some ⟨W.heap.size + 1, 0, none⟩)] := ⟨_, rfl⟩
  obtain ⟨X, hX⟩ : ∃ y, y = (W.alloc (.cells #[.func (.yield l) #[] #[]] 60)).alloc (.cells #[GV] 60) := ⟨_, rfl⟩
  have hbX : Below W.heap.size W X := by rw [hX]; exact ((Below.refl _ W).alloc (Nat.le_refl _) _).alloc (by simp) _
  have hsX : X.heap.size = W.heap.size + 2 := by rw [hX]; simp
  have hlt := JI.lt hJ
  have B4 : Bx4 X Bn W.heap.size Bu (W.heap.size + 1) n G l := by
    refine ⟨by omega, by omega, by omega, by omega, (hbX.cell (p := ⟨Bn, 0, none⟩) hB).trans hc, ?_, (hbX.cell (p := ⟨Bu, 0, none⟩) hB2).trans hc2, ?_⟩
    · rw [hX]; simp
    · rw [← hGV, hX]; simp
  have CG := grow_in JI hY hn4 hn6 G 0 [] (by omega) (fun x hx => by cases hx) (.slice none 0 0) [] S X (JI.frame hJ (Keep.of_below hbX hlt)) B4 hS (fun h => by have := hlt _ h; omega) hS2 (fun h => by have := hlt _ h; omega) (World.ownsRow_nil _ _ _ _) (fun b hb => by cases hb)
  rw [hX, hGV] at CG
  have CG := hide CG
  clear hc hc2
  go_enter Try.func40, Try.ntmps40
  go_wp2_with fail
  refine (unhide CG).mono ?_
  rintro e w3 ⟨rfl, S', j1, _⟩
  go_wp2_with fail
  go_end0
  exact ⟨⟨_, rfl⟩, S', by simpa using j1⟩
end Go.Proofs.Ytkeanlpgnnikjaa
