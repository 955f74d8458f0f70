import Derived.Test.YtloandcndnmkhaaTT
namespace Go.Proofs.Ytloandcndnmkhaa
open Go.RowKit
theorem sm_pc0 : ∀ n : Nat, n < 7 → ∀ t : Nat, t < 64 → t < 2 ^ n → (smL t n).length = pc t := by decide +kernel
theorem pc_sub : ∀ s : Nat, s < 64 → ∀ t : Nat, t < 64 → (∀ j, j < 6 → s.testBit j = true → t.testBit j = true) → pc t ≤ pc s → s = t := by decide +kernel
/-- Those that beat all others lie within one another: there is one fewest. -/
theorem least_uniq {p : Nat → Nat → Int} {n L L' : Nat} (hn : n ≤ 6) (h : LeastP p n L) (h' : LeastP p n L') : L = L' := by
  obtain ⟨d, a0, a1, a2⟩ := h
  obtain ⟨d', b0, b1, b2⟩ := h'
  have h64 : 2 ^ n ≤ 64 := (pow_small n hn).2.1
  have e1 := a2 L' b0 b1 d'
  have e2 := b2 L a0 a1 d
  have out : ∀ {t j : Nat}, t < 2 ^ n → n ≤ j → t.testBit j = false := fun {t j} ht hj => Nat.testBit_lt_two_pow (Nat.lt_of_lt_of_le ht (Nat.pow_le_pow_right (by omega) hj))
  by_cases hs : ∀ j, j < 6 → L.testBit j = true → L'.testBit j = true
  · exact pc_sub L (by omega) L' (by omega) hs e2
  · refine (pc_sub L' (by omega) L (by omega) (fun y _ hby => ?_) e1).symm
    cases hly : L.testBit y with
    | true => rfl
    | false =>
      exfalso
      apply hs
      intro x _ hbx
      cases hlx : L'.testBit x with
      | true => rfl
      | false =>
        have hxn : x < n := by
          by_cases c : x < n
          · exact c
          · rw [out a1 (by omega)] at hbx; cases hbx
        have hyn : y < n := by
          by_cases c : y < n
          · exact c
          · rw [out b1 (by omega)] at hby; cases hby
        have q1 := d x y hxn hyn hbx hly
        have q2 := d' y x hyn hxn hby hlx
        omega
/-- The list of a set, as its things in turn. -/
def smN (t n i : Nat) : Nat := ((smL t n)[i]?.getD 0).toNat
theorem smN_mem {t n i : Nat} (hi : i < (smL t n).length) : smN t n i < n ∧ t.testBit (smN t n i) = true ∧ (smL t n)[i]?.getD 0 = (smN t n i : Int) := by
  have e : (smL t n)[i]?.getD 0 = (smL t n)[i] := by rw [List.getElem?_eq_getElem hi]; rfl
  obtain ⟨j, j1, j2, j3⟩ := (smL_mem n).1 (List.getElem_mem hi)
  have e2 : smN t n i = j := by unfold smN; rw [e, j2]; simp
  rw [e2, e, j2]
  exact ⟨j1, j3, rfl⟩
theorem smL_map (t n : Nat) : smL t n = (List.range (smL t n).length).map fun i => (smN t n i : Int) := by
  apply List.ext_getElem
  · simp
  · intro i h1 h2
    have := (smN_mem h1).2.2
    rw [List.getElem?_eq_getElem h1] at this
    simpa using this
theorem rul_dom (p : Nat → Nat → Int) (n t : Nat) : Rul p n (smN t n) (smL t n).length (fun y => decide (0 ≤ idxFrom (smL t n) (y : Int) 0)) ↔ Dom p n t := by
  have hin : ∀ y, y < n → ((decide (0 ≤ idxFrom (smL t n) (y : Int) 0)) = t.testBit y) := fun y hy => by
    rw [idx_mem]
    cases hb : t.testBit y with
    | true => exact decide_eq_true ((smL_mem n).2 ⟨y, hy, rfl, hb⟩)
    | false =>
      refine decide_eq_false fun hh => ?_
      obtain ⟨j, _, j2, j3⟩ := (smL_mem n).1 hh
      have : y = j := by omega
      rw [this, j3] at hb; cases hb
  refine ⟨fun h x y hx hy hbx hby => ?_, fun h i hi y hy hny => ?_⟩
  · obtain ⟨i, hi, he⟩ := List.mem_iff_getElem.1 ((smL_mem n).2 ⟨x, hx, rfl, hbx⟩)
    have e := (smN_mem hi).2.2
    rw [List.getElem?_eq_getElem hi] at e
    have e3 : smN t n i = x := by
      simp only [Option.getD_some] at e
      omega
    have := h i hi y hy (by show decide _ = false; rw [hin y hy]; exact hby)
    rw [e3] at this
    exact this
  · obtain ⟨a1, a2, _⟩ := smN_mem hi
    refine h _ y a1 hy a2 ?_
    rw [← hin y hy]; exact hny
end Go.Proofs.Ytloandcndnmkhaa
