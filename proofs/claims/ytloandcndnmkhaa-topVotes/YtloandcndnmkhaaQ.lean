import Derived.Test.YtloandcndnmkhaaP
import Derived.Laws.EntriesVeiled
namespace Go.Proofs.Ytloandcndnmkhaa
open Go.RowKit Go.Shelf
set_option maxHeartbeats 400000 in
theorem all_any (n : Nat) (w : World) : Calls Try.prog 51 #[.int .i64 n] w fun e w' => e = .returned (.func (.func 70) #[] #[.pointer (some ⟨w.heap.size, 0, none⟩)]) ∧ w' = w.alloc (.cells #[.int .i64 n] 3) := by
  go_enter Try.func51, Try.ntmps51
  go_wp2
  go_ret
  exact ⟨rfl, rfl⟩
set_option maxRecDepth 100000 in
set_option maxHeartbeats 2000000 in
theorem all1_any {J : List (List Int) → (Nat → Prop) → World → Prop} {l n Bn : Nat} (JI : Inv J) (hY : Rounds Try.prog l n J) (hn0 : 0 < n) (hn6 : n ≤ 6) (S : Nat → Prop) (W : World) (hJ : J [] S W) (hB : Bn < W.heap.size) (hS : ¬ S Bn) (hc : W.cell? ⟨Bn, 0, none⟩ = some (.int .i64 n)) :
    Calls Try.prog 70 #[.func (.yield l) #[] #[], .pointer (some ⟨Bn, 0, none⟩)] W fun e W' => (∃ v, e = .returned v) ∧ ∃ S', J (grL n n []) S' W' := by
  obtain ⟨GV, hGV⟩ : ∃ y, y = Value.func (.func 71) #[] #[.pointer (some ⟨Bn, 0, none⟩), .pointer (some ⟨W.heap.size, 0, none⟩), .pointer (some ⟨W.heap.size + 1, 0, none⟩)] := ⟨_, rfl⟩
  obtain ⟨X, hX⟩ : ∃ y, y = (W.alloc (.cells #[.func (.yield l) #[] #[]] 79)).alloc (.cells #[GV] 79) := ⟨_, rfl⟩
  have hbX : Below W.heap.size W X := by rw [hX]; exact ((Below.refl _ W).alloc (Nat.le_refl _) _).alloc (by simp) _
  have hsX : X.heap.size = W.heap.size + 2 := by rw [hX]; simp
  have hlt := JI.lt hJ
  have B3 : Bx3 X Bn W.heap.size (W.heap.size + 1) n l := by
    refine ⟨by omega, by omega, by omega, (hbX.cell (p := ⟨Bn, 0, none⟩) hB).trans hc, ?_, ?_⟩
    · rw [hX]; simp
    · rw [← hGV, hX]; simp
  have CG := grow_in JI hY hn0 hn6 n 0 [] (by omega) List.nodup_nil (fun x hx => by cases hx) (.slice none 0 0) [] S X (JI.frame hJ (Keep.of_below hbX hlt)) B3 hS (fun h => by have := hlt _ h; omega) (fun h => by have := hlt _ h; omega) (World.ownsRow_nil _ _ _ _) (fun b hb => by cases hb)
  rw [hX, hGV] at CG
  have CG := hide CG
  clear hc
  go_enter Try.func70, Try.ntmps70
  go_wp2_with fail
  refine (unhide CG).mono ?_
  rintro e w3 ⟨rfl, S', j1, _⟩
  go_wp2_with fail
  go_end0
  exact ⟨⟨_, rfl⟩, S', by simpa using j1⟩
end Go.Proofs.Ytloandcndnmkhaa
