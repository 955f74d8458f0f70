import Derived.Test.YtcannknicfnkdaaA
import Derived.ProofKit
import Derived.OpenShut
import Derived.Deep.Slices
import Derived.SizedLaws
namespace Go.Proofs.Ytcannknicfnkdaa
open Go.ChangeShapes Go.WideShapes Go.ChangeAt Go.RowKit Go.Deep
theorem cells3' : Try.prog.cellsOf 3 = 1 := by kernel_rfl
theorem bytes3' : Try.prog.bytesOf 3 = 8 := by kernel_rfl
section
variable {H : Type} {enc : TypeId × Value → H} {W : World} {fuel : Nat}
theorem add_none' (b off i : Nat) : (⟨b, off, none⟩ : Addr).add i = ⟨b, off + i, none⟩ := by unfold Addr.add; split <;> simp_all
/-- A slice of ints that came in: how it lies, what it holds, how long it can be. -/
theorem ints_in {v : Value} {y : DataW H × List MemPlace} (h : DataW.trod enc Try.prog W 0 (fun _ => true) true fuel 25 [v] = some y) :
    ∃ la ln lc likes, v = .slice la ln lc ∧ Ints W la ln lc likes ∧ (∀ x ∈ likes, InR x) ∧ ((∀ n ∈ y.1.weights Try.prog 25, n ≤ reachBytes) → ln ≤ 140737488351232) := by
  rcases open_ints Try.underlying25 Try.underlying3 cells3' h with ⟨hcs, _⟩ | ⟨a, len, cap, zs, hcs, _, hl, hm, hz, hx, hcell, hwf⟩
  · simp at hcs
    exact ⟨none, 0, 0, [], hcs, ⟨rfl, Nat.le_refl _, by unfold maxLen; omega, .inl rfl⟩, fun x hx => (by cases hx), fun _ => by omega⟩
  · simp at hcs
    simp at hz
    refine ⟨some a, len, cap, zs.take len, hcs, ⟨by simp; omega, hl, hm, ?_⟩, fun x hx => bounds_i64 (hwf x (List.mem_of_mem_take hx)), fun hw => ?_⟩
    · by_cases h0 : len = 0
      · exact .inl h0
      · obtain ⟨b, off, spot⟩ := a
        have h1 := hcell 0 (by omega)
        have hs : spot = none := by simpa [Addr.add] using World.cell?_spot h1
        subst hs
        refine .inr ⟨b, off, rfl, ?_, fun j hj => ?_⟩
        · have := World.block_lt_of_cell? W _ h1
          simpa [add_none'] using this
        · have h2 := hcell j (by omega)
          rw [add_none'] at h2
          rw [h2, List.getElem?_take, if_pos hj, List.getD_eq_getElem?_getD]
    · have h1 := hw ((len + (cap - len)) * 8) (by
        rw [hx]
        simp [DataW.weights, Try.underlying25, bytes3', lits, hz]
        left
        omega)
      have : reachBytes = 140737488351232 := rfl
      omega
/-- An int that came in. -/
theorem int_in {v : Value} {y : DataW H × List MemPlace} (h : DataW.trod enc Try.prog W 0 (fun _ => true) true fuel 3 [v] = some y) : ∃ n, v = .int .i64 n ∧ InR n := by
  obtain ⟨r, e1, _, hr⟩ := DataW.trod_int Try.underlying3 h
  simp at e1
  exact ⟨r, e1, bounds_i64 hr⟩
end
end Go.Proofs.Ytcannknicfnkdaa
