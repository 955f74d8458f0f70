import Derived.Test.YtcannknicfnkdaaA
import Derived.ProofKit
import Derived.OpenShut
import Derived.Deep.Slices
import Derived.SizedLaws
namespace Go.Proofs.Ytcannknicfnkdaa
open Go.ChangeShapes Go.WideShapes Go.ChangeAt Go.RowKit Go.Deep
theorem cells3 : Try.prog.cellsOf 3 = 1 := by kernel_rfl
theorem cells22 : Try.prog.cellsOf 22 = 1 := by kernel_rfl
theorem cells25 : Try.prog.cellsOf 25 = 1 := by kernel_rfl
theorem bytes3 : Try.prog.bytesOf 3 = 8 := by kernel_rfl
theorem bytes25 : Try.prog.bytesOf 25 = 24 := by kernel_rfl
theorem weightsAll_at {H : Type} {e : TypeId} {l : List (DataW H)} (d : DataW H) (hd : d ∈ l) (n : Nat) (hn : n ∈ d.weights Try.prog e) : n ∈ DataW.weightsAll Try.prog e l := by
  induction l with
  | nil => cases hd
  | cons x l ih =>
    simp only [DataW.weightsAll, List.mem_append]
    rcases List.mem_cons.1 hd with rfl | h
    · exact Or.inl hn
    · exact Or.inr (ih h)
section
variable {H : Type} {enc : TypeId × Value → H} {W : World} {fuel : Nat}
theorem add_none (b off i : Nat) : (⟨b, off, none⟩ : Addr).add i = ⟨b, off + i, none⟩ := by unfold Addr.add; split <;> simp_all
/-- A slice of ints that came in. -/
theorem ints_of {v : Value} {y : DataW H × List MemPlace} (h : DataW.trod enc Try.prog W 0 (fun _ => true) true fuel 25 [v] = some y) :
    ∃ la ln lc likes, v = .slice la ln lc ∧ Ints W la ln lc likes ∧ ((∀ n ∈ y.1.weights Try.prog 25, n ≤ reachBytes) → ln ≤ 140737488351232) := by
  rcases open_ints Try.underlying25 Try.underlying3 cells3 h with ⟨hcs, _⟩ | ⟨a, len, cap, zs, hcs, _, hl, hm, hz, hx, hcell, _⟩
  · simp at hcs
    exact ⟨none, 0, 0, [], hcs, ⟨rfl, Nat.le_refl _, by unfold maxLen; omega, .inl rfl⟩, fun _ => by omega⟩
  · simp at hcs
    simp at hz
    refine ⟨some a, len, cap, zs.take len, hcs, ⟨by simp; omega, hl, hm, ?_⟩, fun hw => ?_⟩
    · by_cases h0 : len = 0
      · exact .inl h0
      · obtain ⟨b, off, spot⟩ := a
        have h1 := hcell 0 (by omega)
        have hs : spot = none := by simpa [Addr.add] using World.cell?_spot h1
        subst hs
        refine .inr ⟨b, off, rfl, ?_, fun j hj => ?_⟩
        · have := World.block_lt_of_cell? W _ h1
          simpa [add_none] using this
        · have h2 := hcell j (by omega)
          rw [add_none] at h2
          rw [h2, List.getElem?_take, if_pos hj, List.getD_eq_getElem?_getD]
    · have h1 := hw ((len + (cap - len)) * 8) (by
        rw [hx]
        simp [DataW.weights, Try.underlying25, bytes3, lits, hz]
        left
        omega)
      have : reachBytes = 140737488351232 := rfl
      omega
/-- A slice of slices of ints that came in. -/
theorem lists_of {v : Value} {y : DataW H × List MemPlace} (h : DataW.trod enc Try.prog W 0 (fun _ => true) true fuel 22 [v] = some y) (hw : ∀ n ∈ y.1.weights Try.prog 22, n ≤ reachBytes) :
    ∃ a n c l, v = .slice a n c ∧ Lsts W a n c l ∧ (∀ s ∈ l, s.ln ≤ 140737488351232) ∧ n ≤ 140737488351232 := by
  have er : reachBytes = 140737488351232 := rfl
  rcases open_slice Try.underlying22 h with ⟨hcs, _⟩ | ⟨a, len, cap, m, q, D, Pl, hcs, _, hl, hm, hmm, hx, heach⟩
  · simp at hcs
    exact ⟨none, 0, 0, [], hcs, ⟨rfl, Nat.le_refl _, by unfold maxLen; omega, (fun g hg => by cases hg), .inl rfl⟩, (fun g hg => by cases hg), by omega⟩
  · simp at hcs hmm
    subst hmm
    rw [cells25] at heach
    have hwe : ∀ i, i < len → ∀ n ∈ (D i).weights Try.prog 25, n ≤ reachBytes := by
      intro i hi n hn
      refine hw n ?_
      rw [hx]
      simp only [DataW.weights, Try.underlying22, List.mem_cons, List.mem_append]
      refine Or.inr (Or.inl ?_)
      exact weightsAll_at (D i) (List.mem_map.2 ⟨i, List.mem_range.2 hi, rfl⟩) n hn
    have hag : ∀ i, i < len → ∃ g : Sl, W.cells? 0 (a.add (i * 1)) 1 = some [.slice g.la g.ln g.lc] ∧ Ints W g.la g.ln g.lc g.ints ∧ g.ln ≤ 140737488351232 := by
      intro i hi
      obtain ⟨cs', h1, h2⟩ := heach i (by omega)
      obtain ⟨c0, rfl⟩ : ∃ c0, cs' = [c0] := by
        have := (World.cells?_some h1).2.1
        rcases cs' with _ | ⟨c0, _ | ⟨c1, t⟩⟩
        · simp at this
        · exact ⟨_, rfl⟩
        · simp at this
      obtain ⟨la, ln, lc, likes, rfl, hI, hww⟩ := ints_of h2
      exact ⟨⟨la, ln, lc, likes⟩, h1, hI, hww (hwe i hi)⟩
    obtain ⟨G, hG⟩ : ∃ G : Nat → Sl, ∀ i, i < len → (W.cells? 0 (a.add (i * 1)) 1 = some [.slice (G i).la (G i).ln (G i).lc] ∧ Ints W (G i).la (G i).ln (G i).lc (G i).ints ∧ (G i).ln ≤ 140737488351232) := by
      refine ⟨fun i => if hi : i < len then Classical.choose (hag i hi) else slNone, fun i hi => ?_⟩
      simp only [dif_pos hi]
      exact Classical.choose_spec (hag i hi)
    have hat : ∀ j, j < len → slAt ((List.range len).map G) j = G j := by
      intro j hj
      unfold slAt
      rw [List.getElem?_map, List.getElem?_range hj]
      rfl
    refine ⟨some a, len, m, (List.range len).map G, hcs, ⟨by simp, hl, hm, fun g hg => ?_, ?_⟩, fun g hg => ?_, ?_⟩
    · obtain ⟨i, hi, rfl⟩ := List.mem_map.1 hg
      exact (hG i (List.mem_range.1 hi)).2.1
    · by_cases h0 : len = 0
      · exact .inl h0
      · obtain ⟨b, off, spot⟩ := a
        have h1 := (World.cells?_some (hG 0 (by omega)).1).2.2
        have h1a := h1 0 (by omega)
        have e : ((⟨b, off, spot⟩ : Addr).add (0 * 1)).add 0 = ⟨b, off, spot⟩ := by simp [Addr.add]
        rw [e] at h1a
        have h1b : W.cell? ⟨b, off, spot⟩ = some (.slice (G 0).la (G 0).ln (G 0).lc) := h1a
        have hs : spot = none := World.cell?_spot h1b
        subst hs
        refine .inr ⟨b, off, rfl, World.block_lt_of_cell? W _ h1b, fun j hj => ?_⟩
        have h2 := (World.cells?_some (hG j hj).1).2.2
        rw [hat j hj]
        have k0 := h2 0 (by omega)
        simp only [add_none] at k0
        simpa using k0
    · obtain ⟨i, hi, rfl⟩ := List.mem_map.1 hg
      exact (hG i (List.mem_range.1 hi)).2.2
    · have h1 := hw ((len + (m - len)) * 24) (by
        rw [hx]
        simp [DataW.weights, Try.underlying22, bytes25])
      omega
end
end Go.Proofs.Ytcannknicfnkdaa
