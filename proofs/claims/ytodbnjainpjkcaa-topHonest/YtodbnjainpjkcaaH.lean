import Derived.Test.YtodbnjainpjkcaaF
namespace Go.Proofs.Ytodbnjainpjkcaa
open Go.RowKit
/-- The first one from k on, below n, of which P is true. -/
def firstFuel (P : Nat → Bool) : Nat → Nat → Option Nat
  | 0, _ => none
  | f + 1, k => if P k = true then some k else firstFuel P f (k + 1)
def firstFrom (P : Nat → Bool) (n k : Nat) : Option Nat := firstFuel P (n - k) k
theorem firstFrom_yes {P : Nat → Bool} {n k : Nat} (h : k < n) (e : P k = true) : firstFrom P n k = some k := by
  unfold firstFrom
  rw [show n - k = (n - (k + 1)) + 1 by omega, firstFuel, if_pos e]
theorem firstFrom_no {P : Nat → Bool} {n k : Nat} (h : k < n) (e : P k = false) : firstFrom P n k = firstFrom P n (k + 1) := by
  unfold firstFrom
  rw [show n - k = (n - (k + 1)) + 1 by omega, firstFuel, if_neg (by rw [e]; decide)]
theorem firstFrom_end {P : Nat → Bool} {n k : Nat} (h : ¬ k < n) : firstFrom P n k = none := by
  unfold firstFrom
  rw [show n - k = 0 by omega, firstFuel]
theorem firstFuel_ext {P Q : Nat → Bool} : ∀ f k, (∀ i, k ≤ i → i < k + f → P i = Q i) → firstFuel P f k = firstFuel Q f k := by
  intro f
  induction f with
  | zero => intro k _; rfl
  | succ f ih =>
    intro k h
    rw [firstFuel, firstFuel, h k (Nat.le_refl _) (by omega), ih (k + 1) (fun i h1 h2 => h i (by omega) (by omega))]
theorem firstFrom_ext {P Q : Nat → Bool} {n : Nat} (h : ∀ i, i < n → P i = Q i) : firstFrom P n 0 = firstFrom Q n 0 :=
  firstFuel_ext _ _ (fun i _ h2 => h i (by omega))
theorem firstFrom_spec (P : Nat → Bool) (n : Nat) : ∀ d k, n - k = d → (firstFrom P n k = none ∧ ∀ i, k ≤ i → i < n → P i = false) ∨ (∃ m : Nat, k ≤ m ∧ m < n ∧ P m = true ∧ firstFrom P n k = some m ∧ ∀ i, k ≤ i → i < m → P i = false) := by
  intro d
  induction d with
  | zero => intro k hk; exact Or.inl ⟨firstFrom_end (by omega), fun i h1 h2 => by omega⟩
  | succ d ih =>
    intro k hk
    cases he : P k with
    | true => exact Or.inr ⟨k, Nat.le_refl _, by omega, he, firstFrom_yes (by omega) he, fun i h1 h2 => by omega⟩
    | false =>
      rw [firstFrom_no (by omega) he]
      rcases ih (k + 1) (by omega) with ⟨h1, h2⟩ | ⟨m, h1, h2, h3, h4, h5⟩
      · refine Or.inl ⟨h1, fun i hi hl => ?_⟩
        by_cases e : i = k
        · rw [e]; exact he
        · exact h2 i (by omega) hl
      · refine Or.inr ⟨m, by omega, h2, h3, h4, fun i hi hl => ?_⟩
        by_cases e : i = k
        · rw [e]; exact he
        · exact h5 i (by omega) hl
theorem firstFrom_none {P : Nat → Bool} {n : Nat} (h : firstFrom P n 0 = none) {i : Nat} (hi : i < n) : P i = false := by
  rcases firstFrom_spec P n _ 0 rfl with ⟨_, h2⟩ | ⟨m, _, _, _, h4, _⟩
  · exact h2 i (Nat.zero_le _) hi
  · rw [h] at h4; cases h4
def at0 (l : List Int) (k : Nat) : Int := l[k]?.getD 0
/-- How many there are of one kind. -/
def cnt (l : List Int) (r : Int) (k : Nat) : Nat := (l.take k).count r
theorem cnt_zero (l : List Int) (r : Int) : cnt l r 0 = 0 := by simp [cnt]
theorem take_snoc (l : List Int) {k : Nat} (h : k < l.length) : l.take (k + 1) = l.take k ++ [l[k]?.getD 0] := by
  rw [List.take_succ_eq_append_getElem h, List.getElem?_eq_getElem h]
  rfl
theorem cnt_yes {l : List Int} {r : Int} {k : Nat} (h : k < l.length) (e : l[k]?.getD 0 = r) : cnt l r (k + 1) = cnt l r k + 1 := by
  unfold cnt
  rw [take_snoc l h, List.count_append, e]
  simp
theorem cnt_no {l : List Int} {r : Int} {k : Nat} (h : k < l.length) (e : ¬ l[k]?.getD 0 = r) : cnt l r (k + 1) = cnt l r k := by
  unfold cnt
  rw [take_snoc l h, List.count_append, List.count_singleton]
  simp [e]
theorem cnt_le (l : List Int) (r : Int) (k : Nat) : cnt l r k ≤ k := by
  unfold cnt
  exact Nat.le_trans List.count_le_length (by simp; omega)
theorem cnt_len (l : List Int) (r : Int) : cnt l r l.length = l.count r := by simp [cnt]
/-- The grief of the one who likes `likes` at k. -/
def griefI (likes : List Int) (k : Int) : Int := if k = -1 then likes.length else if 0 ≤ idxFrom likes k 0 then idxFrom likes k 0 else likes.length + 1
def levelI (likes : List Int) (k : Int) : Int := if k < 0 then likes.length else if idxFrom likes k 0 < 0 then likes.length + 1 else idxFrom likes k 0
theorem level_grief (likes : List Int) (k : Int) (h : -1 ≤ k) : levelI likes k = griefI likes k := by
  unfold levelI griefI
  by_cases h1 : k = -1
  · subst h1; rfl
  · rw [if_neg h1, if_neg (by omega)]
    by_cases h2 : 0 ≤ idxFrom likes k 0
    · rw [if_pos h2, if_neg (by omega)]
    · rw [if_neg h2, if_pos (by omega)]
theorem idx_bounds (l : List Int) (x : Int) : -1 ≤ idxFrom l x 0 ∧ idxFrom l x 0 < l.length := by
  rcases idxFrom_spec l x _ 0 rfl with ⟨h1, _⟩ | ⟨m, _, h2, _, h4, _⟩
  · rw [h1]; omega
  · rw [h4]; omega
theorem idx_inj (l : List Int) (x y : Int) (hx : 0 ≤ idxFrom l x 0) (h : idxFrom l x 0 = idxFrom l y 0) : x = y := by
  rcases idxFrom_spec l x _ 0 rfl with ⟨h1, _⟩ | ⟨m, _, h2, h3, h4, _⟩
  · omega
  rcases idxFrom_spec l y _ 0 rfl with ⟨g1, _⟩ | ⟨q, _, g2, g3, g4, _⟩
  · omega
  have : m = q := by omega
  subst this
  rw [← h3, ← g3]
def ratherB (likes : List Int) (x y : Int) : Bool := decide (griefI likes x < griefI likes y)
def likeB (lL lR : List Ag) (l : Nat) (r : Nat) : Bool := decide (0 ≤ idxFrom (agAt lL l).likes r 0) && decide (0 ≤ idxFrom (agAt lR r).likes l 0)
def worstStep (likes w : List Int) (r : Int) (k : Nat) (v : Int) : Int := if w[k]?.getD 0 = r ∧ (v = -1 ∨ idxFrom likes v 0 < idxFrom likes k 0) then (k : Int) else v
def worstTo (likes w : List Int) (r : Int) : Nat → Int
  | 0 => -1
  | k + 1 => worstStep likes w r k (worstTo likes w r k)
def wantsB (likes : List Int) (room : Int) (w : List Int) (l r : Int) : Bool := decide ((w.count r : Int) < room) || ratherB likes l (worstTo likes w r w.length)
def badB (lL lR : List Ag) (w : List Int) (l r : Nat) : Bool := likeB lL lR l r && (ratherB (agAt lL l).likes r (w[l]?.getD 0) && wantsB (agAt lR r).likes (agAt lR r).room w l r)
/-- Those of the left that go with r. -/
def goesTo (w : List Int) (r : Int) : Nat → List Int
  | 0 => []
  | k + 1 => goesTo w r k ++ (if w[k]?.getD 0 = r then [(k : Int)] else [])
theorem goes_yes {w : List Int} {r : Int} {k : Nat} (e : w[k]?.getD 0 = r) : goesTo w r (k + 1) = goesTo w r k ++ [(k : Int)] := by rw [goesTo, if_pos e]
theorem goes_no {w : List Int} {r : Int} {k : Nat} (e : ¬ w[k]?.getD 0 = r) : goesTo w r (k + 1) = goesTo w r k := by rw [goesTo, if_neg e, List.append_nil]
theorem goes_len (w : List Int) (r : Int) : ∀ k, k ≤ w.length → (goesTo w r k).length = cnt w r k := by
  intro k
  induction k with
  | zero => intro _; rw [cnt_zero]; rfl
  | succ k ih =>
    intro h
    by_cases e : w[k]?.getD 0 = r
    · rw [goes_yes e, cnt_yes (by omega) e, List.length_append, ih (by omega)]; rfl
    · rw [goes_no e, cnt_no (by omega) e, ih (by omega)]
theorem goes_mem (w : List Int) (r : Int) : ∀ k (x : Int), x ∈ goesTo w r k ↔ ∃ j : Nat, j < k ∧ x = j ∧ w[j]?.getD 0 = r := by
  intro k
  induction k with
  | zero => intro x; simp [goesTo]
  | succ k ih =>
    intro x
    by_cases e : w[k]?.getD 0 = r
    · rw [goes_yes e, List.mem_append, ih x, List.mem_singleton]
      constructor
      · rintro (⟨j, h1, h2, h3⟩ | h)
        · exact ⟨j, by omega, h2, h3⟩
        · exact ⟨k, by omega, h, e⟩
      · rintro ⟨j, h1, h2, h3⟩
        by_cases hj : j = k
        · subst hj; exact Or.inr h2
        · exact Or.inl ⟨j, by omega, h2, h3⟩
    · rw [goes_no e, ih x]
      constructor
      · rintro ⟨j, h1, h2, h3⟩; exact ⟨j, by omega, h2, h3⟩
      · rintro ⟨j, h1, h2, h3⟩
        have : j ≠ k := by intro hj; subst hj; exact e h3
        exact ⟨j, by omega, h2, h3⟩
/-- Would they rather go with each other? -/
def wouldB (lL lR : List Ag) (w : List Int) (l r : Nat) : Bool :=
  if likeB lL lR l r = false ∨ w[l]?.getD 0 = r then false
  else if 0 ≤ w[l]?.getD 0 ∧ idxFrom (agAt lL l).likes (w[l]?.getD 0) 0 < idxFrom (agAt lL l).likes r 0 then false
  else if ((goesTo w r w.length).length : Int) < (agAt lR r).room then true
  else (firstFrom (fun i => decide (idxFrom (agAt lR r).likes l 0 < idxFrom (agAt lR r).likes ((goesTo w r w.length)[i]?.getD 0) 0)) (goesTo w r w.length).length 0).isSome
/-- The worst of those that r has: one of them, and none of them is worse. -/
theorem worst_spec (likes w : List Int) (r : Int) : ∀ k, (worstTo likes w r k = -1 ∧ ∀ j, j < k → ¬ w[j]?.getD 0 = r) ∨ (∃ m : Nat, m < k ∧ worstTo likes w r k = m ∧ w[m]?.getD 0 = r ∧ ∀ j, j < k → w[j]?.getD 0 = r → idxFrom likes j 0 ≤ idxFrom likes m 0) := by
  intro k
  induction k with
  | zero => exact Or.inl ⟨rfl, fun j h => by omega⟩
  | succ k ih =>
    rw [worstTo, worstStep]
    rcases ih with ⟨h1, h2⟩ | ⟨m, h1, h2, h3, h4⟩
    · rw [h1]
      by_cases e : w[k]?.getD 0 = r
      · rw [if_pos ⟨e, Or.inl rfl⟩]
        refine Or.inr ⟨k, by omega, rfl, e, fun j hj hr => ?_⟩
        by_cases hjk : j = k
        · subst hjk; omega
        · exact absurd hr (h2 j (by omega))
      · rw [if_neg (fun h => e h.1)]
        refine Or.inl ⟨rfl, fun j hj => ?_⟩
        by_cases hjk : j = k
        · subst hjk; exact e
        · exact h2 j (by omega)
    · rw [h2]
      by_cases e : w[k]?.getD 0 = r ∧ ((m : Int) = -1 ∨ idxFrom likes m 0 < idxFrom likes k 0)
      · rw [if_pos e]
        refine Or.inr ⟨k, by omega, rfl, e.1, fun j hj hr => ?_⟩
        have e2 : idxFrom likes m 0 < idxFrom likes k 0 := by
          rcases e.2 with h | h
          · omega
          · exact h
        by_cases hjk : j = k
        · subst hjk; omega
        · have := h4 j (by omega) hr; omega
      · rw [if_neg e]
        refine Or.inr ⟨m, by omega, rfl, h3, fun j hj hr => ?_⟩
        by_cases hjk : j = k
        · subst hjk
          by_cases e2 : idxFrom likes m 0 < idxFrom likes j 0
          · exact absurd ⟨hr, Or.inr e2⟩ e
          · omega
        · exact h4 j (by omega) hr
theorem grief_in {likes : List Int} {k : Int} (h : k ≠ -1) (h2 : 0 ≤ idxFrom likes k 0) : griefI likes k = idxFrom likes k 0 := by
  unfold griefI
  rw [if_neg h, if_pos h2]
/-- WHERE ALL THAT GO WITH EACH OTHER LIKE EACH OTHER, AND ALL HAVE ROOM, BOTH SAY THE SAME. -/
theorem bad_would (lL lR : List Ag) (w : List Int) (l r : Nat) (hl : l < w.length) (hroom : 1 ≤ (agAt lR r).room)
    (hin : ∀ k, k < w.length → -1 ≤ w[k]?.getD 0)
    (hlike : ∀ k, k < w.length → w[k]?.getD 0 ≠ -1 → likeB lL lR k (w[k]?.getD 0).toNat = true) :
    badB lL lR w l r = wouldB lL lR w l r := by
  unfold badB wouldB
  cases hb : likeB lL lR l r with
  | false => rw [if_pos (Or.inl rfl), Bool.false_and]
  | true =>
    rw [Bool.true_and]
    have hb' := hb
    unfold likeB at hb'
    rw [Bool.and_eq_true] at hb'
    have p1 := of_decide_eq_true hb'.1
    have p2 := of_decide_eq_true hb'.2
    have gr : griefI (agAt lL l).likes r = idxFrom (agAt lL l).likes r 0 := grief_in (by omega) p1
    have gl : griefI (agAt lR r).likes l = idxFrom (agAt lR r).likes l 0 := grief_in (by omega) p2
    by_cases h1 : w[l]?.getD 0 = r
    · rw [if_pos (Or.inr h1), h1]
      unfold ratherB
      simp
    rw [if_neg (by rintro (h | h); cases h; exact h1 h)]
    have hil := hin l hl
    have hra : ratherB (agAt lL l).likes r (w[l]?.getD 0) = !decide (0 ≤ w[l]?.getD 0 ∧ idxFrom (agAt lL l).likes (w[l]?.getD 0) 0 < idxFrom (agAt lL l).likes r 0) := by
      unfold ratherB
      rw [gr]
      by_cases h2 : w[l]?.getD 0 = -1
      · have e : griefI (agAt lL l).likes (w[l]?.getD 0) = (agAt lL l).likes.length := by unfold griefI; rw [if_pos h2]
        rw [e, decide_eq_true (idx_bounds _ _).2, decide_eq_false (by omega)]
        rfl
      · have hk := hlike l hl h2
        unfold likeB at hk
        rw [Bool.and_eq_true] at hk
        have q1 := of_decide_eq_true hk.1
        rw [Int.toNat_of_nonneg (by omega)] at q1
        rw [grief_in h2 q1]
        have hne : idxFrom (agAt lL l).likes (w[l]?.getD 0) 0 ≠ idxFrom (agAt lL l).likes r 0 := fun h => h1 (idx_inj _ _ _ q1 h)
        by_cases h3 : idxFrom (agAt lL l).likes r 0 < idxFrom (agAt lL l).likes (w[l]?.getD 0) 0
        · rw [decide_eq_true h3, decide_eq_false (by omega)]; rfl
        · rw [decide_eq_false h3, decide_eq_true (by omega)]; rfl
    rw [hra]
    by_cases h4 : 0 ≤ w[l]?.getD 0 ∧ idxFrom (agAt lL l).likes (w[l]?.getD 0) 0 < idxFrom (agAt lL l).likes r 0
    · rw [if_pos h4, decide_eq_true h4]; rfl
    rw [if_neg h4, decide_eq_false h4, Bool.not_false, Bool.true_and]
    unfold wantsB
    rw [goes_len w r w.length (Nat.le_refl _), cnt_len]
    by_cases h5 : (w.count (r : Int) : Int) < (agAt lR r).room
    · rw [if_pos h5, decide_eq_true h5, Bool.true_or]
    rw [if_neg h5, decide_eq_false h5, Bool.false_or]
    unfold ratherB
    rw [gl]
    have hlen : (goesTo w r w.length).length = w.count (r : Int) := by rw [goes_len w r w.length (Nat.le_refl _), cnt_len]
    rcases worst_spec (agAt lR r).likes w r w.length with ⟨_, g2⟩ | ⟨m, g1, g2, g3, g4⟩
    · exfalso
      have hz : goesTo w r w.length = [] := by
        cases hg : goesTo w r w.length with
        | nil => rfl
        | cons x t =>
          obtain ⟨j, j1, _, j3⟩ := (goes_mem w r w.length x).1 (by rw [hg]; simp)
          exact absurd j3 (g2 j j1)
      rw [hz] at hlen
      simp at hlen
      omega
    · rw [g2]
      have hlk : ∀ j : Nat, j < w.length → w[j]?.getD 0 = r → 0 ≤ idxFrom (agAt lR r).likes j 0 := by
        intro j hj hr
        have := hlike j hj (by omega)
        unfold likeB at this
        rw [Bool.and_eq_true, hr] at this
        have t := of_decide_eq_true this.2
        simpa using t
      rw [grief_in (by omega) (hlk m g1 g3)]
      by_cases h6 : idxFrom (agAt lR r).likes l 0 < idxFrom (agAt lR r).likes m 0
      · rw [decide_eq_true h6]
        rcases firstFrom_spec (fun i => decide (idxFrom (agAt lR r).likes l 0 < idxFrom (agAt lR r).likes ((goesTo w r w.length)[i]?.getD 0) 0)) (w.count (r : Int)) _ 0 rfl with ⟨_, f2⟩ | ⟨q, _, _, _, f4, _⟩
        · exfalso
          obtain ⟨i, hi, hx⟩ := List.getElem_of_mem ((goes_mem w r w.length (m : Int)).2 ⟨m, g1, rfl, g3⟩)
          have f3 := of_decide_eq_false (f2 i (Nat.zero_le _) (by omega))
          rw [List.getElem?_eq_getElem hi, Option.getD_some, hx] at f3
          exact f3 h6
        · rw [f4]; rfl
      · rw [decide_eq_false h6]
        rcases firstFrom_spec (fun i => decide (idxFrom (agAt lR r).likes l 0 < idxFrom (agAt lR r).likes ((goesTo w r w.length)[i]?.getD 0) 0)) (w.count (r : Int)) _ 0 rfl with ⟨f1, _⟩ | ⟨q, _, f2, f3, _, _⟩
        · rw [f1]; rfl
        · exfalso
          have hq : q < (goesTo w r w.length).length := by omega
          have f5 := of_decide_eq_true f3
          rw [List.getElem?_eq_getElem hq, Option.getD_some] at f5
          obtain ⟨j, j1, j2, j3⟩ := (goes_mem w r w.length _).1 (List.getElem_mem hq)
          rw [j2] at f5
          have := g4 j j1 j3
          omega
end Go.Proofs.Ytodbnjainpjkcaa
