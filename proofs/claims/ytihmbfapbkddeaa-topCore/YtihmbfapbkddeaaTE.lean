import Derived.Test.YtihmbfapbkddeaaTD
namespace Go.Proofs.Ytihmbfapbkddeaa
section
variable {wi : Nat → List Int} {gt : List Int}
theorem fine_iff : ∀ (ws : List Nat) (pl : List Int), pl.length = ws.length → (fineL wi gt ws pl = true ↔ ∀ k, k < ws.length → place wi (ws[k]?.getD 0) (pl[k]?.getD 0) ≤ place wi (ws[k]?.getD 0) (gt[ws[k]?.getD 0]?.getD 0)) := by
  intro ws
  induction ws with
  | nil => intro pl h; cases pl <;> simp [fineL]
  | cons x r ih =>
    intro pl h
    cases pl with
    | nil => simp at h
    | cons c p =>
      rw [fineL, Bool.and_eq_true, decide_eq_true_iff, ih p (by simpa using h)]
      constructor
      · rintro ⟨h1, h2⟩ k hk
        cases k with
        | zero => simpa using h1
        | succ k => simpa using h2 k (by simpa using hk)
      · intro h1
        refine ⟨by simpa using h1 0 (by simp), fun k hk => ?_⟩
        simpa using h1 (k + 1) (by simp; omega)
theorem more_iff : ∀ (ws : List Nat) (pl : List Int), pl.length = ws.length → (moreL wi gt ws pl = true ↔ ∃ k, k < ws.length ∧ place wi (ws[k]?.getD 0) (pl[k]?.getD 0) < place wi (ws[k]?.getD 0) (gt[ws[k]?.getD 0]?.getD 0)) := by
  intro ws
  induction ws with
  | nil => intro pl h; cases pl <;> simp [moreL]
  | cons x r ih =>
    intro pl h
    cases pl with
    | nil => simp at h
    | cons c p =>
      rw [moreL, Bool.or_eq_true, decide_eq_true_iff, ih p (by simpa using h)]
      constructor
      · rintro (h1 | ⟨k, hk, h2⟩)
        · exact ⟨0, by simp, by simpa using h1⟩
        · exact ⟨k + 1, by simp; omega, by simpa using h2⟩
      · rintro ⟨k, hk, h1⟩
        cases k with
        | zero => exact .inl (by simpa using h1)
        | succ k => exact .inr ⟨k, by simpa using hk, by simpa using h1⟩
end
end Go.Proofs.Ytihmbfapbkddeaa
