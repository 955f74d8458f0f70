import Derived.Test.YtloandcndnmkhaaPP
import Derived.Test.YtloandcndnmkhaaS
import Derived.Test.YtloandcndnmkhaaHH
namespace Go.Proofs.Ytloandcndnmkhaa
open Go.RowKit
theorem Vec.ints {w W : World} {G n : Nat} {f : Nat → Int} (h : Vec w W G n f) (hn : n ≤ 6) : Ints W (some ⟨G, 0, none⟩) n n ((List.range n).map f) := by
  refine ⟨by simp, Nat.le_refl _, by unfold maxLen; omega, .inr ⟨G, 0, rfl, h.2.1, fun j hj => ?_⟩⟩
  rw [Nat.zero_add, (h.2.2 j hj).1]
  simp [hj]
theorem grL_perms (n : Nat) (h0 : 0 < n) (h5 : n ≤ 5) : grL n n [] = permsL (upL n) := by
  rcases (by omega : n = 1 ∨ n = 2 ∨ n = 3 ∨ n = 4 ∨ n = 5) with rfl | rfl | rfl | rfl | rfl <;> decide +kernel
end Go.Proofs.Ytloandcndnmkhaa
