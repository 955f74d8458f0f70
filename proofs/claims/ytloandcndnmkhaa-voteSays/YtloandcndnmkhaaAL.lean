import Derived.Test.YtloandcndnmkhaaAK
import Derived.ProofKit
import Derived.OpenShut
import Derived.ChangeSame
import Derived.Deep.Slices
import Derived.Deep.Strs
import Derived.SizedLaws
namespace Go.Proofs.Ytloandcndnmkhaa
open Go.ChangeShapes Go.WideShapes Go.ChangeAt Go.RowKit Go.Deep
theorem cells3 : Try.prog.cellsOf 3 = 1 := by kernel_rfl
theorem cells23 : Try.prog.cellsOf 23 = 1 := by kernel_rfl
theorem cells44 : Try.prog.cellsOf 44 = 2 := by kernel_rfl
theorem bytes3 : Try.prog.bytesOf 3 = 8 := by kernel_rfl
theorem bytes44 : Try.prog.bytesOf 44 = 32 := by kernel_rfl
theorem weightsAll_at {H : Type} {e : TypeId} {l : List (DataW H)} (d : DataW H) (hd : d ∈ l) (n : Nat) (hn : n ∈ d.weights Try.prog e) : n ∈ DataW.weightsAll Try.prog e l := by
  induction l with
  | nil => cases hd
  | cons x l ih =>
    simp only [DataW.weightsAll, List.mem_append]
    rcases List.mem_cons.1 hd with rfl | h
    · exact Or.inl hn
    · exact Or.inr (ih h)
section
variable {H : Type} {enc : TypeId × Value → H} {W : World} {fuel : Nat}
theorem add_none (b off i : Nat) : (⟨b, off, none⟩ : Addr).add i = ⟨b, off + i, none⟩ := by unfold Addr.add; split <;> simp_all
/-- A slice of ints that came in. -/
theorem ints_of {v : Value} {y : DataW H × List MemPlace} (h : DataW.trod enc Try.prog W 0 (fun _ => true) true fuel 23 [v] = some y) :
    ∃ la ln lc likes, v = .slice la ln lc ∧ Ints W la ln lc likes ∧ ((∀ n ∈ y.1.weights Try.prog 23, n ≤ reachBytes) → ln ≤ 140737488351232) := by
  rcases open_ints Try.underlying23 Try.underlying3 cells3 h with ⟨hcs, _⟩ | ⟨a, len, cap, zs, hcs, _, hl, hm, hz, hx, hcell, _⟩
  · simp at hcs
    exact ⟨none, 0, 0, [], hcs, ⟨rfl, Nat.le_refl _, by unfold maxLen; omega, .inl rfl⟩, fun _ => by omega⟩
  · simp at hcs
    simp at hz
    refine ⟨some a, len, cap, zs.take len, hcs, ⟨by simp; omega, hl, hm, ?_⟩, fun hw => ?_⟩
    · by_cases h0 : len = 0
      · exact .inl h0
      · obtain ⟨b, off, spot⟩ := a
        have h1 := hcell 0 (by omega)
        have hs : spot = none := by simpa [Addr.add] using World.cell?_spot h1
        subst hs
        refine .inr ⟨b, off, rfl, ?_, fun j hj => ?_⟩
        · have := World.block_lt_of_cell? W _ h1
          simpa [add_none] using this
        · have h2 := hcell j (by omega)
          rw [add_none] at h2
          rw [h2, List.getElem?_take, if_pos hj, List.getD_eq_getElem?_getD]
    · have h1 := hw ((len + (cap - len)) * 8) (by
        rw [hx]
        simp [DataW.weights, Try.underlying23, bytes3, lits, hz]
        left
        omega)
      have : reachBytes = 140737488351232 := rfl
      omega
/-- A ballot that came in. -/
theorem ballot_of {cs : List Value} {y : DataW H × List MemPlace} (h : DataW.trod enc Try.prog W 0 (fun _ => true) true fuel 44 cs = some y) :
    ∃ g : Bal, cs = [.int .i64 g.count, .slice g.oa g.on g.oc] ∧ Ints W g.oa g.on g.oc g.order ∧ ((∀ n ∈ y.1.weights Try.prog 44, n ≤ reachBytes) → g.on ≤ 140737488351232) := by
  obtain ⟨y0, y1, n, hx, hl, h0, h1⟩ := trod_struct2 Try.underlying44 h
  rw [cells44] at hl
  obtain ⟨c0, c1, rfl⟩ : ∃ c0 c1, cs = [c0, c1] := by
    rcases cs with _ | ⟨c0, _ | ⟨c1, _ | ⟨c2, t⟩⟩⟩
    · simp at hl
    · simp at hl
    · exact ⟨_, _, rfl⟩
    · simp at hl
  · simp only [cells3, cells23] at h0 h1
    obtain ⟨r, e1, x1, hr⟩ := DataW.trod_int Try.underlying3 h0
    simp at e1
    obtain ⟨la, ln, lc, likes, e2, hI, hw⟩ := ints_of h1
    subst e1 e2
    refine ⟨⟨r, la, ln, lc, likes⟩, rfl, hI, fun hall => ?_⟩
    rw [hx] at hall
    have hall' : ∀ n ∈ DataW.weightsEach Try.prog [3, 23] [y0.1, y1.1], n ≤ reachBytes := by
      intro n hn
      refine hall n ?_
      simp only [DataW.weights, Try.underlying44]
      exact hn
    exact hw fun n hn => hall' n (DataW.weights_mem_each (j := 1) rfl rfl n hn)
/-- Ballots that came in. -/
theorem bals_of {v : Value} {y : DataW H × List MemPlace} (h : DataW.trod enc Try.prog W 0 (fun _ => true) true fuel 22 [v] = some y) (hw : ∀ n ∈ y.1.weights Try.prog 22, n ≤ reachBytes) :
    ∃ a n c l, v = .slice a n c ∧ Bals W a n c l ∧ Small l ∧ n ≤ 140737488351232 := by
  have er : reachBytes = 140737488351232 := rfl
  rcases open_slice Try.underlying22 h with ⟨hcs, _⟩ | ⟨a, len, cap, m, q, D, Pl, hcs, _, hl, hm, hmm, hx, heach⟩
  · simp at hcs
    exact ⟨none, 0, 0, [], hcs, ⟨rfl, Nat.le_refl _, by unfold maxLen; omega, (fun g hg => by cases hg), .inl rfl⟩, (fun g hg => by cases hg), by omega⟩
  · simp at hcs hmm
    subst hmm
    rw [cells44] at heach
    have hwe : ∀ i, i < len → ∀ n ∈ (D i).weights Try.prog 44, n ≤ reachBytes := by
      intro i hi n hn
      refine hw n ?_
      rw [hx]
      simp only [DataW.weights, Try.underlying22, List.mem_cons, List.mem_append]
      refine Or.inr (Or.inl ?_)
      exact weightsAll_at (D i) (List.mem_map.2 ⟨i, List.mem_range.2 hi, rfl⟩) n hn
    have hag : ∀ i, i < len → ∃ g : Bal, W.cells? 0 (a.add (i * 2)) 2 = some [.int .i64 g.count, .slice g.oa g.on g.oc] ∧ Ints W g.oa g.on g.oc g.order ∧ g.on ≤ 140737488351232 := by
      intro i hi
      obtain ⟨cs', h1, h2⟩ := heach i (by omega)
      obtain ⟨g, rfl, hI, hww⟩ := ballot_of h2
      exact ⟨g, h1, hI, hww (hwe i hi)⟩
    obtain ⟨G, hG⟩ : ∃ G : Nat → Bal, ∀ i, i < len → (W.cells? 0 (a.add (i * 2)) 2 = some [.int .i64 (G i).count, .slice (G i).oa (G i).on (G i).oc] ∧ Ints W (G i).oa (G i).on (G i).oc (G i).order ∧ (G i).on ≤ 140737488351232) := by
      refine ⟨fun i => if hi : i < len then Classical.choose (hag i hi) else balNone, fun i hi => ?_⟩
      simp only [dif_pos hi]
      exact Classical.choose_spec (hag i hi)
    have hat : ∀ j, j < len → balAt ((List.range len).map G) j = G j := by
      intro j hj
      unfold balAt
      rw [List.getElem?_map, List.getElem?_range hj]
      rfl
    refine ⟨some a, len, m, (List.range len).map G, hcs, ⟨by simp, hl, hm, fun g hg => ?_, ?_⟩, fun g hg => ?_, ?_⟩
    · obtain ⟨i, hi, rfl⟩ := List.mem_map.1 hg
      exact (hG i (List.mem_range.1 hi)).2.1
    · by_cases h0 : len = 0
      · exact .inl h0
      · obtain ⟨b, off, spot⟩ := a
        have h1 := (World.cells?_some (hG 0 (by omega)).1).2.2
        have h1a := h1 0 (by omega)
        have e : ((⟨b, off, spot⟩ : Addr).add (0 * 2)).add 0 = ⟨b, off, spot⟩ := by simp [Addr.add]
        rw [e] at h1a
        have h1b : W.cell? ⟨b, off, spot⟩ = some (.int .i64 (G 0).count) := h1a
        have hs : spot = none := World.cell?_spot h1b
        subst hs
        refine .inr ⟨b, off, rfl, World.block_lt_of_cell? W _ h1b, fun j hj => ?_⟩
        · have h2 := (World.cells?_some (hG j hj).1).2.2
          rw [hat j hj]
          have k0 := h2 0 (by omega)
          have k1 := h2 1 (by omega)
          simp only [add_none] at k0 k1
          exact ⟨by simpa using k0, by simpa using k1⟩
    · obtain ⟨i, hi, rfl⟩ := List.mem_map.1 hg
      exact (hG i (List.mem_range.1 hi)).2.2
    · have h1 := hw ((len + (m - len)) * 32) (by
        rw [hx]
        simp [DataW.weights, Try.underlying22, bytes44]
      )
      omega
end
end Go.Proofs.Ytloandcndnmkhaa
