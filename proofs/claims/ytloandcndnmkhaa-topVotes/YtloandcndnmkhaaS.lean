import Derived.Test.YtloandcndnmkhaaQ
import Derived.Test.YtloandcndnmkhaaR
namespace Go.Proofs.Ytloandcndnmkhaa
open Go.RowKit Go.Shelf
attribute [local go_sem] Oper.semAt_some
theorem grL_ord (n : Nat) : ∀ f (o : List Int), o.length + f = n → o.Nodup → (∀ x ∈ o, 0 ≤ x ∧ x < n) → ∀ q ∈ grL n f o, ordE q n = 0 := by
  intro f
  induction f with
  | zero =>
    intro o hl hnd hr q hq
    have : q = o := by simpa [grL] using hq
    subst this
    exact ord_zero (by omega) hr hnd
  | succ f ih =>
    intro o hl hnd hr q hq
    unfold grL at hq
    rw [List.mem_flatMap] at hq
    obtain ⟨k, hk, hq⟩ := hq
    by_cases c : (k : Int) ∈ o
    · rw [if_pos c] at hq; cases hq
    · rw [if_neg c] at hq
      have hk := List.mem_range.1 hk
      refine ih (o ++ [(k : Int)]) (by simp; omega) ?_ ?_ q hq
      · rw [List.nodup_append]
        exact ⟨hnd, by simp, fun a ha b hb e => by rw [List.mem_singleton] at hb; rw [hb] at e; exact c (e ▸ ha)⟩
      · intro x hx
        rcases List.mem_append.1 hx with h | h
        · exact hr x h
        · rw [List.mem_singleton] at h; subst h; omega
/-- The first of the best, as far as they came. -/
def bestF (s : List Int → Int) (pre : List (List Int)) : Option (List Int) := pre.foldl (fun b o => match b with | none => some o | some q => if s o < s q then some o else some q) none
theorem bestF_snoc (s : List Int → Int) (pre : List (List Int)) (o : List Int) : bestF s (pre ++ [o]) = match bestF s pre with | none => some o | some q => if s o < s q then some o else some q := by
  unfold bestF; rw [List.foldl_append]; rfl
theorem fold_some (s : List Int → Int) : ∀ (l : List (List Int)) r, ∃ q, l.foldl (fun b o => match b with | none => some o | some q => if s o < s q then some o else some q) (some r) = some q ∧ (q = r ∨ q ∈ l) ∧ s q ≤ s r ∧ ∀ o ∈ l, s q ≤ s o := by
  intro l
  induction l with
  | nil => intro r; exact ⟨r, rfl, .inl rfl, Int.le_refl _, fun o ho => by cases ho⟩
  | cons x xs ih =>
    intro r
    rw [List.foldl_cons]
    by_cases c : s x < s r
    · obtain ⟨q, h1, h2, h3, h4⟩ := ih x
      refine ⟨q, by simp only [c, if_true]; exact h1, ?_, by omega, fun o ho => ?_⟩
      · rcases h2 with h | h
        · exact .inr (by rw [h]; simp)
        · exact .inr (by simp [h])
      · rcases List.mem_cons.1 ho with h | h
        · rw [h]; exact h3
        · exact h4 o h
    · obtain ⟨q, h1, h2, h3, h4⟩ := ih r
      refine ⟨q, by simp only [c, if_false]; exact h1, ?_, h3, fun o ho => ?_⟩
      · rcases h2 with h | h
        · exact .inl h
        · exact .inr (by simp [h])
      · rcases List.mem_cons.1 ho with h | h
        · rw [h]; omega
        · exact h4 o h
theorem bestF_mem (s : List Int → Int) (pre : List (List Int)) (h0 : pre ≠ []) : ∃ q, bestF s pre = some q ∧ q ∈ pre ∧ ∀ o ∈ pre, s q ≤ s o := by
  cases pre with
  | nil => exact absurd rfl h0
  | cons x xs =>
    obtain ⟨q, h1, h2, h3, h4⟩ := fold_some s xs x
    refine ⟨q, h1, ?_, fun o ho => ?_⟩
    · rcases h2 with h | h
      · rw [h]; simp
      · simp [h]
    · rcases List.mem_cons.1 ho with h | h
      · rw [h]; exact h3
      · exact h4 o h
theorem bestF_none (s : List Int → Int) (pre : List (List Int)) : bestF s pre = none ↔ pre = [] := by
  refine ⟨fun h => ?_, fun h => by rw [h]; rfl⟩
  by_cases c : pre = []
  · exact c
  · obtain ⟨q, h1, _⟩ := bestF_mem s pre c
    rw [h] at h1; cases h1
end Go.Proofs.Ytloandcndnmkhaa
