import Derived.Test.YtbcchbhchfdbiaaWA
import Derived.ProofKit
import Derived.OpenShut
import Derived.Deep.Slices
import Derived.SizedLaws
import Derived.Test.YtbcchbhchfdbiaaWG1
import Derived.Deep.Strs
namespace Go.Proofs.Ytbcchbhchfdbiaa
open Go.ChangeShapes Go.WideShapes Go.ChangeAt Go.RowKit Go.Deep
theorem cells3' : Try.prog.cellsOf 3 = 1 := by kernel_rfl
theorem bytes3' : Try.prog.bytesOf 3 = 8 := by kernel_rfl
section
variable {H : Type} {enc : TypeId × Value → H} {W : World} {fuel : Nat}
theorem add_none' (b off i : Nat) : (⟨b, off, none⟩ : Addr).add i = ⟨b, off + i, none⟩ := by unfold Addr.add; split <;> simp_all
/-- A slice of ints that came in: how it lies, what it holds, how long it can be. -/
theorem ints_in {v : Value} {y : DataW H × List MemPlace} (h : DataW.trod enc Try.prog W 0 (fun _ => true) true fuel 25 [v] = some y) :
    ∃ la ln lc likes, v = .slice la ln lc ∧ Ints W la ln lc likes ∧ (∀ x ∈ likes, InR x) ∧ ((∀ n ∈ y.1.weights Try.prog 25, n ≤ reachBytes) → ln ≤ 140737488351232) := by
  rcases open_ints Try.underlying25 Try.underlying3 cells3' h with ⟨hcs, _⟩ | ⟨a, len, cap, zs, hcs, _, hl, hm, hz, hx, hcell, hwf⟩
  · simp at hcs
    exact ⟨none, 0, 0, [], hcs, ⟨rfl, Nat.le_refl _, by unfold maxLen; omega, .inl rfl⟩, fun x hx => (by cases hx), fun _ => by omega⟩
  · simp at hcs
    simp at hz
    refine ⟨some a, len, cap, zs.take len, hcs, ⟨by simp; omega, hl, hm, ?_⟩, fun x hx => bounds_i64 (hwf x (List.mem_of_mem_take hx)), fun hw => ?_⟩
    · by_cases h0 : len = 0
      · exact .inl h0
      · obtain ⟨b, off, spot⟩ := a
        have h1 := hcell 0 (by omega)
        have hs : spot = none := by simpa [Addr.add] using World.cell?_spot h1
        subst hs
        refine .inr ⟨b, off, rfl, ?_, fun j hj => ?_⟩
        · have := World.block_lt_of_cell? W _ h1
          simpa [add_none'] using this
        · have h2 := hcell j (by omega)
          rw [add_none'] at h2
          rw [h2, List.getElem?_take, if_pos hj, List.getD_eq_getElem?_getD]
    · have h1 := hw ((len + (cap - len)) * 8) (by
        rw [hx]
        simp [DataW.weights, Try.underlying25, bytes3', lits, hz]
        left
        omega)
      have : reachBytes = 140737488351232 := rfl
      omega
/-- An int that came in. -/
theorem int_in {v : Value} {y : DataW H × List MemPlace} (h : DataW.trod enc Try.prog W 0 (fun _ => true) true fuel 3 [v] = some y) : ∃ n, v = .int .i64 n ∧ InR n := by
  obtain ⟨r, e1, _, hr⟩ := DataW.trod_int Try.underlying3 h
  simp at e1
  exact ⟨r, e1, bounds_i64 hr⟩
end
end Go.Proofs.Ytbcchbhchfdbiaa
namespace Go.Proofs.Ytbcchbhchfdbiaa
open Go.ChangeShapes Go.WideShapes Go.ChangeAt Go.RowKit Go.Deep
theorem cells24 : Try.prog.cellsOf 24 = 2 := by kernel_rfl
theorem cells22 : Try.prog.cellsOf 22 = 1 := by kernel_rfl
theorem cells25' : Try.prog.cellsOf 25 = 1 := by kernel_rfl
theorem cells51 : Try.prog.cellsOf 51 = 3 := by kernel_rfl
theorem bytes51 : Try.prog.bytesOf 51 = 56 := by kernel_rfl
theorem weightsAll_at {H : Type} {e : TypeId} {l : List (DataW H)} (d : DataW H) (hd : d ∈ l) (n : Nat) (hn : n ∈ d.weights Try.prog e) : n ∈ DataW.weightsAll Try.prog e l := by
  induction l with
  | nil => cases hd
  | cons x l ih =>
    simp only [DataW.weightsAll, List.mem_append]
    rcases List.mem_cons.1 hd with rfl | h
    · exact Or.inl hn
    · exact Or.inr (ih h)
section
variable {H : Type} {enc : TypeId × Value → H} {W : World} {fuel : Nat}
/-- A node that came in. -/
theorem node_of {cs : List Value} {y : DataW H × List MemPlace} (h : DataW.trod enc Try.prog W 0 (fun _ => true) true fuel 51 cs = some y) :
    ∃ g : Nd, cs = [.int .i64 g.pl, .slice g.k.la g.k.ln g.k.lc, .slice g.p.la g.p.ln g.p.lc] ∧ SlIn W g.k ∧ SlIn W g.p ∧ ((∀ n ∈ y.1.weights Try.prog 51, n ≤ reachBytes) → g.k.ln ≤ 140737488351232 ∧ g.p.ln ≤ 140737488351232) := by
  obtain ⟨y0, y1, y2, n, hx, hl, h0, h1, h2⟩ := trod_struct3 Try.underlying51 h
  rw [cells51] at hl
  obtain ⟨c0, c1, c2, rfl⟩ : ∃ c0 c1 c2, cs = [c0, c1, c2] := by
    rcases cs with _ | ⟨c0, _ | ⟨c1, _ | ⟨c2, _ | ⟨c3, t⟩⟩⟩⟩
    · simp at hl
    · simp at hl
    · simp at hl
    · exact ⟨_, _, _, rfl⟩
    · simp at hl
  · simp only [cells3', cells25'] at h0 h1 h2
    obtain ⟨r, e0, x0, hr⟩ := DataW.trod_int Try.underlying3 h0
    simp at e0
    obtain ⟨ka, kn, kc, kids, e1, hI1, _, hw1⟩ := ints_in h1
    obtain ⟨pa, pn, pc, pays, e2, hI2, _, hw2⟩ := ints_in h2
    subst e0 e1 e2
    refine ⟨⟨r, ⟨ka, kn, kc, kids⟩, ⟨pa, pn, pc, pays⟩⟩, rfl, hI1, hI2, fun hall => ?_⟩
    rw [hx] at hall
    have hall' : ∀ n ∈ DataW.weightsEach Try.prog [3, 25, 25] [y0.1, y1.1, y2.1], n ≤ reachBytes := by
      intro n hn
      refine hall n ?_
      simp only [DataW.weights, Try.underlying51]
      exact hn
    exact ⟨hw1 fun n hn => hall' n (DataW.weights_mem_each (j := 1) rfl rfl n hn), hw2 fun n hn => hall' n (DataW.weights_mem_each (j := 2) rfl rfl n hn)⟩
/-- A tree's nodes that came in. -/
theorem nodes_of {v : Value} {y : DataW H × List MemPlace} (h : DataW.trod enc Try.prog W 0 (fun _ => true) true fuel 22 [v] = some y) (hw : ∀ n ∈ y.1.weights Try.prog 22, n ≤ reachBytes) :
    ∃ a n c l, v = .slice a n c ∧ Nodes W a n c l ∧ n ≤ 140737488351232 ∧ ∀ d ∈ l, d.k.ln ≤ 140737488351232 ∧ d.p.ln ≤ 140737488351232 := by
  have er : reachBytes = 140737488351232 := rfl
  rcases open_slice Try.underlying22 h with ⟨hcs, _⟩ | ⟨a, len, cap, m, q, D, Pl, hcs, _, hl, hm, hmm, hx, heach⟩
  · simp at hcs
    exact ⟨none, 0, 0, [], hcs, ⟨rfl, Nat.le_refl _, by unfold maxLen; omega, (fun g hg => by cases hg), .inl rfl⟩, by omega, (fun g hg => by cases hg)⟩
  · simp at hcs hmm
    subst hmm
    rw [cells51] at heach
    have hwe : ∀ i, i < len → ∀ n ∈ (D i).weights Try.prog 51, n ≤ reachBytes := by
      intro i hi n hn
      refine hw n ?_
      rw [hx]
      simp only [DataW.weights, Try.underlying22, List.mem_cons, List.mem_append]
      refine Or.inr (Or.inl ?_)
      exact weightsAll_at (D i) (List.mem_map.2 ⟨i, List.mem_range.2 hi, rfl⟩) n hn
    have hag : ∀ i, i < len → ∃ g : Nd, W.cells? 0 (a.add (i * 3)) 3 = some [.int .i64 g.pl, .slice g.k.la g.k.ln g.k.lc, .slice g.p.la g.p.ln g.p.lc] ∧ (SlIn W g.k ∧ SlIn W g.p) ∧ g.k.ln ≤ 140737488351232 ∧ g.p.ln ≤ 140737488351232 := by
      intro i hi
      obtain ⟨cs', h1, h2⟩ := heach i (by omega)
      obtain ⟨g, rfl, hI, hs, hww⟩ := node_of h2
      exact ⟨g, h1, ⟨hI, hs⟩, hww (hwe i hi)⟩
    obtain ⟨G, hG⟩ : ∃ G : Nat → Nd, ∀ i, i < len → (W.cells? 0 (a.add (i * 3)) 3 = some [.int .i64 (G i).pl, .slice (G i).k.la (G i).k.ln (G i).k.lc, .slice (G i).p.la (G i).p.ln (G i).p.lc] ∧ (SlIn W (G i).k ∧ SlIn W (G i).p) ∧ (G i).k.ln ≤ 140737488351232 ∧ (G i).p.ln ≤ 140737488351232) := by
      refine ⟨fun i => if hi : i < len then Classical.choose (hag i hi) else ndNone, fun i hi => ?_⟩
      simp only [dif_pos hi]
      exact Classical.choose_spec (hag i hi)
    have hat : ∀ j, j < len → ndAt ((List.range len).map G) j = G j := by
      intro j hj
      unfold ndAt
      rw [List.getElem?_map, List.getElem?_range hj]
      rfl
    refine ⟨some a, len, m, (List.range len).map G, hcs, ⟨by simp, hl, hm, fun g hg => ?_, ?_⟩, ?_, fun g hg => ?_⟩
    · obtain ⟨i, hi, rfl⟩ := List.mem_map.1 hg
      exact (hG i (List.mem_range.1 hi)).2.1
    · by_cases h0 : len = 0
      · exact .inl h0
      · obtain ⟨b, off, spot⟩ := a
        have h1 := (World.cells?_some (hG 0 (by omega)).1).2.2
        have h1a := h1 0 (by omega)
        have e : ((⟨b, off, spot⟩ : Addr).add (0 * 3)).add 0 = ⟨b, off, spot⟩ := by simp [Addr.add]
        rw [e] at h1a
        have h1b : W.cell? ⟨b, off, spot⟩ = some (.int .i64 (G 0).pl) := h1a
        have hs : spot = none := World.cell?_spot h1b
        subst hs
        refine .inr ⟨b, off, rfl, World.block_lt_of_cell? W _ h1b, fun j hj => ?_⟩
        · have h2 := (World.cells?_some (hG j hj).1).2.2
          rw [hat j hj]
          have k0 := h2 0 (by omega)
          have k1 := h2 1 (by omega)
          have k2 := h2 2 (by omega)
          simp only [add_none'] at k0 k1 k2
          exact ⟨by simpa using k0, by simpa using k1, by simpa using k2⟩
    · have h1 := hw ((len + (m - len)) * 56) (by
        rw [hx]
        simp [DataW.weights, Try.underlying22, bytes51])
      omega
    · obtain ⟨i, hi, rfl⟩ := List.mem_map.1 hg
      exact (hG i (List.mem_range.1 hi)).2.2
end
end Go.Proofs.Ytbcchbhchfdbiaa
