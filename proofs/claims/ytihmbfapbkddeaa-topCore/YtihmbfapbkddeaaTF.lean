import Derived.Test.YtihmbfapbkddeaaTE
namespace Go.Proofs.Ytihmbfapbkddeaa
/-- Is of the set. -/
def inS (set n i : Nat) : Prop := i < n ∧ set.testBit i = true
theorem mem_who {set n i : Nat} : i ∈ whoL set n ↔ inS set n i := by
  unfold whoL inS
  rw [List.mem_filter, List.mem_range]
theorem who_nodup (set n : Nat) : (whoL set n).Nodup := List.nodup_range.sublist (List.filter_sublist)
section
variable {wi : Nat → List Int} {gt : List Int} {n : Nat}
/-- Those of a set can do better: they can share out their own things so. -/
theorem deal_block (hnd : ∀ i, i < n → (wi i).Nodup) (hr : ∀ i, ∀ x ∈ wi i, 0 ≤ x ∧ x < n) (hfull : ∀ i, i < n → ∀ k, k < n → (k : Int) ∈ wi i) (hg : ∀ k, k < n → gt[k]?.getD 0 ∈ wi k) (set : Nat) :
    dealL wi gt (whoL set n) set false = true ↔ ∃ p : Nat → Nat, (∀ i, inS set n i → inS set n (p i)) ∧ (∀ i j, inS set n i → inS set n j → p i = p j → i = j) ∧ (∀ i, inS set n i → idxFrom (wi i) (p i : Int) 0 ≤ idxFrom (wi i) (gt[i]?.getD 0) 0) ∧ ∃ i, inS set n i ∧ idxFrom (wi i) (p i : Int) 0 < idxFrom (wi i) (gt[i]?.getD 0) 0 := by
  rw [deal_iff hnd hr hfull hg _ _ _ (fun k hk => (mem_who.1 hk).1)]
  have hws := who_nodup set n
  have hmem : ∀ i, i ∈ whoL set n ↔ inS set n i := fun i => mem_who
  generalize whoL set n = ws at *
  constructor
  · rintro ⟨pl, l1, l2, l3, l4, l5⟩
    rw [fine_iff ws pl l1] at l4
    have l5 : moreL wi gt ws pl = true := by rcases l5 with h | h; · cases h
                                             · exact h
    rw [more_iff ws pl l1] at l5
    have hat : ∀ k, (hk : k < ws.length) → ws[k]?.getD 0 = ws[k] := fun k hk => by rw [List.getElem?_eq_getElem hk]; rfl
    have hpt : ∀ k, (hk : k < ws.length) → pl[k]?.getD 0 = pl[k]'(by omega) := fun k hk => by rw [List.getElem?_eq_getElem (by omega)]; rfl
    have hix : ∀ i, inS set n i → ∃ k, ∃ hk : k < ws.length, ws[k] = i ∧ List.idxOf i ws = k := fun i hi => by
      have h1 := List.idxOf_lt_length_of_mem ((hmem i).2 hi)
      exact ⟨_, h1, List.getElem_idxOf h1, rfl⟩
    have hb : ∀ k, (hk : k < ws.length) → 0 ≤ pl[k]'(by omega) ∧ inS set n (pl[k]'(by omega)).toNat := fun k hk => by
      have := l3 _ (List.getElem_mem (show k < pl.length by omega))
      exact ⟨this.1, by omega, this.2.2⟩
    refine ⟨fun i => (pl[List.idxOf i ws]?.getD 0).toNat, fun i hi => ?_, fun i j hi hj e => ?_, fun i hi => ?_, ?_⟩
    · obtain ⟨k, hk, e1, e2⟩ := hix i hi
      show inS set n (pl[List.idxOf i ws]?.getD 0).toNat
      rw [e2, hpt k hk]
      exact (hb k hk).2
    · obtain ⟨k, hk, e1, e2⟩ := hix i hi
      obtain ⟨k2, hk2, d1, d2⟩ := hix j hj
      have e' : (pl[List.idxOf i ws]?.getD 0).toNat = (pl[List.idxOf j ws]?.getD 0).toNat := e
      rw [e2, d2, hpt k hk, hpt k2 hk2] at e'
      have h1 := (hb k hk).1
      have h2 := (hb k2 hk2).1
      have h3 : pl[k]'(by omega) = pl[k2]'(by omega) := by omega
      have h4 := (List.getElem_inj l2).1 h3
      subst h4
      rw [← e1, ← d1]
    · obtain ⟨k, hk, e1, e2⟩ := hix i hi
      have h1 := l4 k hk
      rw [hat k hk, e1, hpt k hk] at h1
      show idxFrom (wi i) (((pl[List.idxOf i ws]?.getD 0).toNat : Nat) : Int) 0 ≤ _
      rw [e2, hpt k hk, Int.toNat_of_nonneg (hb k hk).1]
      exact h1
    · obtain ⟨k, hk, h1⟩ := l5
      rw [hat k hk, hpt k hk] at h1
      have hi : inS set n ws[k] := (hmem _).1 (List.getElem_mem hk)
      refine ⟨ws[k], hi, ?_⟩
      obtain ⟨k2, hk2, e1, e2⟩ := hix _ hi
      have h4 := (List.getElem_inj hws).1 e1
      subst h4
      show idxFrom (wi _) (((pl[List.idxOf ws[k2] ws]?.getD 0).toNat : Nat) : Int) 0 < _
      rw [e2, hpt k2 hk2, Int.toNat_of_nonneg (hb k2 hk2).1]
      exact h1
  · rintro ⟨p, p1, p2, p3, i, hi, p4⟩
    have hl : (ws.map fun i => (p i : Int)).length = ws.length := by simp
    have hat : ∀ k, (hk : k < ws.length) → ws[k]?.getD 0 = ws[k] := fun k hk => by rw [List.getElem?_eq_getElem hk]; rfl
    have hpt : ∀ k, (hk : k < ws.length) → (ws.map fun i => (p i : Int))[k]?.getD 0 = (p ws[k] : Int) := fun k hk => by rw [List.getElem?_map, List.getElem?_eq_getElem hk]; rfl
    refine ⟨ws.map fun i => (p i : Int), hl, ?_, fun x hx => ?_, ?_, .inr ?_⟩
    · show List.Pairwise _ _
      rw [List.pairwise_map]
      refine List.Pairwise.imp_of_mem ?_ hws
      intro a b ha hb hab e
      exact hab (p2 a b ((hmem a).1 ha) ((hmem b).1 hb) (by omega))
    · obtain ⟨j, hj, rfl⟩ := List.mem_map.1 hx
      have := p1 j ((hmem j).1 hj)
      exact ⟨by omega, by have := this.1; omega, by rw [Int.toNat_natCast]; exact this.2⟩
    · rw [fine_iff ws _ hl]
      intro k hk
      rw [hat k hk, hpt k hk]
      exact p3 _ ((hmem _).1 (List.getElem_mem hk))
    · rw [more_iff ws _ hl]
      obtain ⟨k, hk, e⟩ := List.getElem_of_mem ((hmem i).2 hi)
      refine ⟨k, hk, ?_⟩
      rw [hat k hk, hpt k hk, e]
      exact p4
end
end Go.Proofs.Ytihmbfapbkddeaa
