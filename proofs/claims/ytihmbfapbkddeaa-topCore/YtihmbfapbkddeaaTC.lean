import Derived.Test.YtihmbfapbkddeaaT
namespace Go.Proofs.Ytihmbfapbkddeaa
open Classical in
/-- What maps a set of traders one to one into itself leaves nobody out. -/
theorem onto {n : Nat} {P : Nat → Prop} {g : Nat → Nat} (hP : ∀ i, i < n → P i → g i < n ∧ P (g i)) (inj : ∀ i j, i < n → j < n → P i → P j → g i = g j → i = j) {y : Nat} (hy : y < n) (hPy : P y) : ∃ x, x < n ∧ P x ∧ g x = y := by
  by_cases h : ∃ x, x < n ∧ P x ∧ g x = y
  · exact h
  exfalso
  let A := (List.range n).filter fun i => decide (P i)
  have hA : ∀ i, i ∈ A ↔ i < n ∧ P i := fun i => by simp [A]
  have hAn : A.Nodup := List.nodup_range.sublist (List.filter_sublist)
  have hm : (A.map g).Nodup := by
    show List.Pairwise _ _
    rw [List.pairwise_map]
    refine List.Pairwise.imp_of_mem ?_ hAn
    intro a b ha hb hab e
    have h1 := (hA a).1 ha
    have h2 := (hA b).1 hb
    exact hab (inj a b h1.1 h2.1 h1.2 h2.2 e)
  have hn : (y :: A.map g).Nodup := by
    refine List.nodup_cons.2 ⟨fun hmem => ?_, hm⟩
    obtain ⟨x, hx, e⟩ := List.mem_map.1 hmem
    have h1 := (hA x).1 hx
    exact h ⟨x, h1.1, h1.2, e⟩
  have := sub_len (y :: A.map g) A hn (fun x hx => by
    rcases List.mem_cons.1 hx with rfl | hx
    · exact (hA _).2 ⟨hy, hPy⟩
    · obtain ⟨z, hz, rfl⟩ := List.mem_map.1 hx
      have h1 := (hA z).1 hz
      exact (hA _).2 (hP z h1.1 h1.2))
  simp at this
  omega
/-- Rings one after another: who gets whose thing, and in which round. -/
structure Rank (n : Nat) (idx : Nat → Nat → Int) (g r : Nat → Nat) : Prop where
  lt : ∀ i, i < n → g i < n
  inj : ∀ i j, i < n → j < n → g i = g j → i = j
  same : ∀ i, i < n → r (g i) = r i
  best : ∀ i x, i < n → x < n → idx i x < idx i (g i) → r x < r i
section
variable {n : Nat} {idx : Nat → Nat → Int} {g r : Nat → Nat}
/-- All things of a round go to those of the round. -/
theorem Rank.who (R : Rank n idx g r) {y : Nat} (hy : y < n) : ∃ x, x < n ∧ r x = r y ∧ g x = y :=
  onto (P := fun x => r x = r y) (fun i hi h => ⟨R.lt i hi, by rw [R.same i hi]; exact h⟩) (fun i j hi hj _ _ e => R.inj i j hi hj e) hy rfl
/-- Nobody can do better among themselves. -/
theorem Rank.core (R : Rank n idx g r) (hidx : ∀ i x y, i < n → x < n → y < n → idx i x = idx i y → x = y) {A : Nat → Prop} {p : Nat → Nat} (hA : ∀ i, A i → i < n) (hp : ∀ i, A i → A (p i)) (pinj : ∀ i j, A i → A j → p i = p j → i = j) (fine : ∀ i, A i → idx i (p i) ≤ idx i (g i)) :
    ∀ m i, A i → r i = m → p i = g i := by
  intro m
  induction m using Nat.strongRecOn with
  | _ m ih =>
    intro i hi hm
    by_cases hne : p i = g i
    · exact hne
    exfalso
    have h1 := fine i hi
    have h2 : idx i (p i) ≠ idx i (g i) := fun e => hne (hidx i _ _ (hA i hi) (hA _ (hp i hi)) (R.lt i (hA i hi)) e)
    have h3 := R.best i (p i) (hA i hi) (hA _ (hp i hi)) (by omega)
    obtain ⟨x, hx, hx2, hx3⟩ := onto (P := fun j => A j ∧ r j = r (p i)) (g := g) (n := n) (fun j hj ⟨a1, a2⟩ => ⟨R.lt j hj, by
      have := ih (r j) (by omega) j a1 rfl
      exact ⟨by rw [← this]; exact hp j a1, by rw [R.same j hj]; exact a2⟩⟩) (fun a b ha hb _ _ e => R.inj a b ha hb e) (hA _ (hp i hi)) ⟨hp i hi, rfl⟩
    have h4 := ih (r x) (by omega) x hx2.1 rfl
    have h5 := pinj x i hx2.1 hi (by rw [h4, hx3])
    subst h5
    omega
/-- Whoever can do no better among themselves got it by the rings. -/
theorem Rank.only (R : Rank n idx g r) (hidx : ∀ i x y, i < n → x < n → y < n → idx i x = idx i y → x = y) {q : Nat → Nat} (qlt : ∀ i, i < n → q i < n) (qinj : ∀ i j, i < n → j < n → q i = q j → i = j)
    (hcore : ∀ (A : Nat → Prop) (p : Nat → Nat), (∀ i, A i → i < n) → (∀ i, A i → A (p i)) → (∀ i j, A i → A j → p i = p j → i = j) → (∀ i, A i → idx i (p i) ≤ idx i (q i)) → ∀ i, A i → idx i (p i) < idx i (q i) → False) :
    ∀ m i, i < n → r i = m → q i = g i := by
  intro m
  induction m using Nat.strongRecOn with
  | _ m ih =>
    intro i hi hm
    by_cases hne : q i = g i
    · exact hne
    exfalso
    have hf : ∀ j, j < n → r j = m → idx j (g j) ≤ idx j (q j) := fun j hj hjm => by
      by_cases c : idx j (q j) < idx j (g j)
      · exfalso
        have h3 := R.best j (q j) hj (qlt j hj) c
        obtain ⟨x, hx, hx2, hx3⟩ := R.who (qlt j hj)
        have h4 := ih (r x) (by omega) x hx rfl
        have h5 := qinj x j hx hj (by rw [h4, hx3])
        subst h5
        omega
      · omega
    refine hcore (fun j => j < n ∧ r j = m) g (fun j h => h.1) (fun j h => ⟨R.lt j h.1, by rw [R.same j h.1]; exact h.2⟩) (fun a b ha hb e => R.inj a b ha.1 hb.1 e) (fun j h => hf j h.1 h.2) i ⟨hi, hm⟩ ?_
    have h1 := hf i hi hm
    have h2 : idx i (g i) ≠ idx i (q i) := fun e => hne (hidx i _ _ hi (R.lt i hi) (qlt i hi) e).symm
    omega
/-- It pays to be honest. -/
theorem Rank.before (R : Rank n idx g r) (hidx : ∀ i x y, i < n → x < n → y < n → idx i x = idx i y → x = y) {idx' : Nat → Nat → Int} {g' r' : Nat → Nat} (R' : Rank n idx' g' r') {i0 : Nat} (hsame : ∀ j, j ≠ i0 → idx' j = idx j) :
    ∀ m, m < r i0 → ∀ j, j < n → r j = m → g' j = g j := by
  intro m
  induction m using Nat.strongRecOn with
  | _ m ih =>
    intro hm0
    have hf : ∀ j, j < n → r j = m → idx j (g j) ≤ idx j (g' j) := fun j hj hjm => by
      by_cases c : idx j (g' j) < idx j (g j)
      · exfalso
        have h3 := R.best j (g' j) hj (R'.lt j hj) c
        obtain ⟨x, hx, hx2, hx3⟩ := R.who (R'.lt j hj)
        have h4 := ih (r x) (by omega) (by omega) x hx rfl
        have h5 := R'.inj x j hx hj (by rw [h4, hx3])
        subst h5
        omega
      · omega
    have hin : ∀ t j, j < n → r j = m → r' j = t → g' j = g j := by
      intro t
      induction t using Nat.strongRecOn with
      | _ t ih2 =>
        intro j hj hjm hjt
        have hj0 : j ≠ i0 := fun e => by subst e; omega
        by_cases c : r' (g j) < r' j
        · exfalso
          obtain ⟨x, hx, hx2, hx3⟩ := onto (P := fun x => r x = m ∧ r' x = r' (g j)) (g := g) (n := n) (fun x hx ⟨a1, a2⟩ => ⟨R.lt x hx, by
            have h1 := ih2 (r' x) (by omega) x hx a1 rfl
            refine ⟨by rw [R.same x hx]; exact a1, ?_⟩
            rw [← h1, R'.same x hx]
            exact a2⟩) (fun a b ha hb _ _ e => R.inj a b ha hb e) (R.lt j hj) ⟨by rw [R.same j hj]; exact hjm, rfl⟩
          have h5 := R.inj x j hx hj hx3
          subst h5
          omega
        · have h1 := hf j hj hjm
          have h2 : ¬ idx' j (g j) < idx' j (g' j) := fun h => c (R'.best j (g j) hj (R.lt j hj) h)
          rw [hsame j hj0] at h2
          exact hidx j _ _ hj (R'.lt j hj) (R.lt j hj) (by omega)
    exact fun j hj hjm => hin _ j hj hjm rfl
theorem Rank.honest (R : Rank n idx g r) (hidx : ∀ i x y, i < n → x < n → y < n → idx i x = idx i y → x = y) {idx' : Nat → Nat → Int} {g' r' : Nat → Nat} (R' : Rank n idx' g' r') {i0 : Nat} (h0 : i0 < n) (hsame : ∀ j, j ≠ i0 → idx' j = idx j) : idx i0 (g i0) ≤ idx i0 (g' i0) := by
  by_cases c : idx i0 (g' i0) < idx i0 (g i0)
  · exfalso
    have h3 := R.best i0 (g' i0) h0 (R'.lt i0 h0) c
    obtain ⟨x, hx, hx2, hx3⟩ := R.who (R'.lt i0 h0)
    have h4 := R.before hidx R' hsame (r x) (by omega) x hx rfl
    have h5 := R'.inj x i0 hx h0 (by rw [h4, hx3])
    subst h5
    omega
  · omega
end
end Go.Proofs.Ytihmbfapbkddeaa
