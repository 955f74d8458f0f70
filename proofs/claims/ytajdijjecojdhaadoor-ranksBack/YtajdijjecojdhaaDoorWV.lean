import Derived.Test.YtajdijjecojdhaaDoorWU
import Derived.ProofKit
import Derived.OpenShut
import Derived.Deep.Slices
import Derived.Deep.Strs
import Derived.SizedLaws
namespace Go.Proofs.YtajdijjecojdhaaDoor
open Go.ChangeShapes Go.WideShapes Go.ChangeAt Go.RowKit Go.Deep
theorem cells3 : Tryd.prog.cellsOf 3 = 1 := by kernel_rfl
theorem cells9 : Tryd.prog.cellsOf 9 = 1 := by kernel_rfl
theorem cells22 : Tryd.prog.cellsOf 22 = 1 := by kernel_rfl
theorem cells25 : Tryd.prog.cellsOf 25 = 1 := by kernel_rfl
theorem cells27 : Tryd.prog.cellsOf 27 = 3 := by kernel_rfl
theorem bytes3 : Tryd.prog.bytesOf 3 = 8 := by kernel_rfl
theorem bytes27 : Tryd.prog.bytesOf 27 = 48 := by kernel_rfl
theorem weightsAll_at {H : Type} {e : TypeId} {l : List (DataW H)} (d : DataW H) (hd : d ∈ l) (n : Nat) (hn : n ∈ d.weights Tryd.prog e) : n ∈ DataW.weightsAll Tryd.prog e l := by
  induction l with
  | nil => cases hd
  | cons x l ih =>
    simp only [DataW.weightsAll, List.mem_append]
    rcases List.mem_cons.1 hd with rfl | h
    · exact Or.inl hn
    · exact Or.inr (ih h)
section
variable {H : Type} {enc : TypeId × Value → H} {W : World} {fuel : Nat}
theorem add_none (b off i : Nat) : (⟨b, off, none⟩ : Addr).add i = ⟨b, off + i, none⟩ := by unfold Addr.add; split <;> simp_all
/-- A slice of ints that came in. -/
theorem ints_of {v : Value} {y : DataW H × List MemPlace} (h : DataW.trod enc Tryd.prog W 0 (fun _ => true) true fuel 25 [v] = some y) :
    ∃ la ln lc likes, v = .slice la ln lc ∧ Ints W la ln lc likes ∧ ((∀ n ∈ y.1.weights Tryd.prog 25, n ≤ reachBytes) → ln ≤ 140737488351232) := by
  rcases open_ints Tryd.underlying25 Tryd.underlying3 cells3 h with ⟨hcs, _⟩ | ⟨a, len, cap, zs, hcs, _, hl, hm, hz, hx, hcell, _⟩
  · simp at hcs
    exact ⟨none, 0, 0, [], hcs, ⟨rfl, Nat.le_refl _, by unfold maxLen; omega, .inl rfl⟩, fun _ => by omega⟩
  · simp at hcs
    simp at hz
    refine ⟨some a, len, cap, zs.take len, hcs, ⟨by simp; omega, hl, hm, ?_⟩, fun hw => ?_⟩
    · by_cases h0 : len = 0
      · exact .inl h0
      · obtain ⟨b, off, spot⟩ := a
        have h1 := hcell 0 (by omega)
        have hs : spot = none := by simpa [Addr.add] using World.cell?_spot h1
        subst hs
        refine .inr ⟨b, off, rfl, ?_, fun j hj => ?_⟩
        · have := World.block_lt_of_cell? W _ h1
          simpa [add_none] using this
        · have h2 := hcell j (by omega)
          rw [add_none] at h2
          rw [h2, List.getElem?_take, if_pos hj, List.getD_eq_getElem?_getD]
    · have h1 := hw ((len + (cap - len)) * 8) (by
        rw [hx]
        simp [DataW.weights, Tryd.underlying25, bytes3, lits, hz]
        left
        omega)
      have : reachBytes = 140737488351232 := rfl
      omega
/-- One of a side that came in. -/
theorem agent_of {cs : List Value} {y : DataW H × List MemPlace} (h : DataW.trod enc Tryd.prog W 0 (fun _ => true) true fuel 27 cs = some y) :
    ∃ g : Ag, cs = [.string g.name, .int .i64 g.room, .slice g.la g.ln g.lc] ∧ Ints W g.la g.ln g.lc g.likes ∧ g.name.size ≤ maxLen ∧ ((∀ n ∈ y.1.weights Tryd.prog 27, n ≤ reachBytes) → g.ln ≤ 140737488351232 ∧ g.name.size ≤ 140737488351232) := by
  obtain ⟨y0, y1, y2, n, hx, hl, h0, h1, h2⟩ := trod_struct3 Tryd.underlying27 h
  rw [cells27] at hl
  obtain ⟨c0, c1, c2, rfl⟩ : ∃ c0 c1 c2, cs = [c0, c1, c2] := by
    rcases cs with _ | ⟨c0, _ | ⟨c1, _ | ⟨c2, _ | ⟨c3, t⟩⟩⟩⟩
    · simp at hl
    · simp at hl
    · simp at hl
    · exact ⟨_, _, _, rfl⟩
    · simp at hl
  · simp only [cells9, cells3, cells25] at h0 h1 h2
    obtain ⟨s, e0, x0, hs⟩ := DataW.trod_string Tryd.underlying9 h0
    obtain ⟨r, e1, x1, hr⟩ := DataW.trod_int Tryd.underlying3 h1
    simp at e0 e1
    obtain ⟨la, ln, lc, likes, e2, hI, hw⟩ := ints_of h2
    subst e0 e1 e2
    refine ⟨⟨s, r, la, ln, lc, likes⟩, rfl, hI, hs, fun hall => ?_⟩
    rw [hx] at hall
    have hall' : ∀ n ∈ DataW.weightsEach Tryd.prog [9, 3, 25] [y0.1, y1.1, y2.1], n ≤ reachBytes := by
      intro n hn
      refine hall n ?_
      simp only [DataW.weights, Tryd.underlying27]
      exact hn
    have e : reachBytes = 140737488351232 := rfl
    refine ⟨hw fun n hn => hall' n ?_, ?_⟩
    · exact DataW.weights_mem_each (j := 2) rfl rfl n hn
    · have := hall' s.data.toList.length (DataW.weights_mem_each (j := 0) (t := 9) (d := y0.1) rfl rfl _ (by rw [x0]; simp [DataW.weights]))
      rw [data_len] at this
      show s.size ≤ _
      omega
/-- A side that came in. -/
theorem ags_of {v : Value} {y : DataW H × List MemPlace} (h : DataW.trod enc Tryd.prog W 0 (fun _ => true) true fuel 22 [v] = some y) (hw : ∀ n ∈ y.1.weights Tryd.prog 22, n ≤ reachBytes) :
    ∃ a n c l, v = .slice a n c ∧ Ags W a n c l ∧ Small l ∧ n ≤ 140737488351232 := by
  have er : reachBytes = 140737488351232 := rfl
  rcases open_slice Tryd.underlying22 h with ⟨hcs, _⟩ | ⟨a, len, cap, m, q, D, Pl, hcs, _, hl, hm, hmm, hx, heach⟩
  · simp at hcs
    exact ⟨none, 0, 0, [], hcs, ⟨rfl, Nat.le_refl _, by unfold maxLen; omega, (fun g hg => by cases hg), .inl rfl⟩, (fun g hg => by cases hg), by omega⟩
  · simp at hcs hmm
    subst hmm
    rw [cells27] at heach
    have hwe : ∀ i, i < len → ∀ n ∈ (D i).weights Tryd.prog 27, n ≤ reachBytes := by
      intro i hi n hn
      refine hw n ?_
      rw [hx]
      simp only [DataW.weights, Tryd.underlying22, List.mem_cons, List.mem_append]
      refine Or.inr (Or.inl ?_)
      exact weightsAll_at (D i) (List.mem_map.2 ⟨i, List.mem_range.2 hi, rfl⟩) n hn
    have hag : ∀ i, i < len → ∃ g : Ag, W.cells? 0 (a.add (i * 3)) 3 = some [.string g.name, .int .i64 g.room, .slice g.la g.ln g.lc] ∧ Ints W g.la g.ln g.lc g.likes ∧ g.name.size ≤ maxLen ∧ g.ln ≤ 140737488351232 ∧ g.name.size ≤ 140737488351232 := by
      intro i hi
      obtain ⟨cs', h1, h2⟩ := heach i (by omega)
      obtain ⟨g, rfl, hI, hs, hww⟩ := agent_of h2
      exact ⟨g, h1, hI, hs, (hww (hwe i hi)).1, (hww (hwe i hi)).2⟩
    obtain ⟨G, hG⟩ : ∃ G : Nat → Ag, ∀ i, i < len → (W.cells? 0 (a.add (i * 3)) 3 = some [.string (G i).name, .int .i64 (G i).room, .slice (G i).la (G i).ln (G i).lc] ∧ Ints W (G i).la (G i).ln (G i).lc (G i).likes ∧ (G i).name.size ≤ maxLen ∧ (G i).ln ≤ 140737488351232 ∧ (G i).name.size ≤ 140737488351232) := by
      refine ⟨fun i => if hi : i < len then Classical.choose (hag i hi) else agNone, fun i hi => ?_⟩
      simp only [dif_pos hi]
      exact Classical.choose_spec (hag i hi)
    have hat : ∀ j, j < len → agAt ((List.range len).map G) j = G j := by
      intro j hj
      unfold agAt
      rw [List.getElem?_map, List.getElem?_range hj]
      rfl
    refine ⟨some a, len, m, (List.range len).map G, hcs, ⟨by simp, hl, hm, fun g hg => ?_, ?_⟩, fun g hg => ?_, ?_⟩
    · obtain ⟨i, hi, rfl⟩ := List.mem_map.1 hg
      have := hG i (List.mem_range.1 hi)
      exact ⟨this.2.1, this.2.2.1⟩
    · by_cases h0 : len = 0
      · exact .inl h0
      · obtain ⟨b, off, spot⟩ := a
        have h1 := (World.cells?_some (hG 0 (by omega)).1).2.2
        have h1a := h1 0 (by omega)
        have e : ((⟨b, off, spot⟩ : Addr).add (0 * 3)).add 0 = ⟨b, off, spot⟩ := by simp [Addr.add]
        rw [e] at h1a
        have h1b : W.cell? ⟨b, off, spot⟩ = some (.string (G 0).name) := h1a
        have hs : spot = none := World.cell?_spot h1b
        subst hs
        refine .inr ⟨b, off, rfl, World.block_lt_of_cell? W _ h1b, fun j hj => ?_⟩
        · have h2 := (World.cells?_some (hG j hj).1).2.2
          rw [hat j hj]
          have k0 := h2 0 (by omega)
          have k1 := h2 1 (by omega)
          have k2 := h2 2 (by omega)
          simp only [add_none] at k0 k1 k2
          exact ⟨by simpa using k0, by simpa using k1, by simpa using k2⟩
    · obtain ⟨i, hi, rfl⟩ := List.mem_map.1 hg
      have := hG i (List.mem_range.1 hi)
      exact ⟨this.2.2.2.1, this.2.2.2.2⟩
    · have h1 := hw ((len + (m - len)) * 48) (by
        rw [hx]
        simp [DataW.weights, Tryd.underlying22, bytes27]
      )
      omega
end
end Go.Proofs.YtajdijjecojdhaaDoor
