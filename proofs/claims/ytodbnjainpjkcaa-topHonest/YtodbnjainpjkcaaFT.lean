import Derived.Test.YtodbnjainpjkcaaKK
namespace Go.Proofs.Ytodbnjainpjkcaa
open Go.RowKit
/-- Some of o, none twice. -/
def Likes (l : List Int) (o : Int) : Prop := (∀ i, i < l.length → 0 ≤ atL l i ∧ atL l i < o) ∧ ∀ i j, i < j → j < l.length → atL l i ≠ atL l j
theorem Likes.zero {l : List Int} {o : Int} (h : Likes l o) : ∀ d k, l.length - k = d → likesFrom l o k = 0 := by
  intro d
  induction d with
  | zero => intro k hk; exact likesFrom_end (by omega)
  | succ d ih =>
    intro k hk
    have hlt : k < l.length := by omega
    have h1 := h.1 k hlt
    unfold atL at h1
    rw [likesFrom_on hlt (by omega) ?_]
    · exact ih (k + 1) (by omega)
    · intro hx
      rcases idxFrom_spec (l.take k) (l[k]?.getD 0) _ 0 rfl with ⟨e, _⟩ | ⟨m, _, hm, he, _, _⟩
      · rw [e] at hx; omega
      · have hmk : m < k := by simp at hm; omega
        rw [take_at l hmk] at he
        exact h.2 m k hmk hlt he
theorem Likes.take {l : List Int} {o : Int} (h : Likes l o) (n : Nat) : Likes (l.take n) o := by
  have e : ∀ i, i < (l.take n).length → atL (l.take n) i = atL l i ∧ i < l.length := fun i hi => by
    have h2 : i < n ∧ i < l.length := by rw [List.length_take] at hi; omega
    exact ⟨take_at l h2.1, h2.2⟩
  refine ⟨fun i hi => ?_, fun i j hij hj => ?_⟩
  · rw [(e i hi).1]; exact h.1 i (e i hi).2
  · rw [(e i (by omega)).1, (e j hj).1]; exact h.2 i j hij (e j hj).2
/-- Two sides that may be, told plainly. -/
structure Fit (lL lR : List Ag) : Prop where
  nl : lL.length ≤ 6
  nr : lR.length ≤ 6
  name : ∀ k, k < (lL ++ lR).length → nameB (agAt (lL ++ lR) k).name = true
  apart : ∀ i j, i < j → j < (lL ++ lR).length → ¬ (agAt (lL ++ lR) i).name.toList = (agAt (lL ++ lR) j).name.toList
  room : ∀ k, k < (lL ++ lR).length → 1 ≤ (agAt (lL ++ lR) k).room ∧ (agAt (lL ++ lR) k).room ≤ 4
  likes : ∀ k, k < (lL ++ lR).length → Likes (agAt (lL ++ lR) k).likes (if k < lL.length then (lR.length : Int) else lL.length)
theorem aidx_none {l : List Ag} {x : ByteArray} : ∀ d k, l.length - k = d → (∀ i, k ≤ i → i < l.length → ¬ (agAt l i).name.toList = x.toList) → aidxFrom l x k = -1 := by
  intro d
  induction d with
  | zero => intro k hk _; exact aidxFrom_end (by omega)
  | succ d ih =>
    intro k hk h
    rw [aidxFrom_no (by omega) (h k (Nat.le_refl _) (by omega))]
    exact ih (k + 1) (by omega) fun i hi hl => h i (by omega) hl
theorem agAt_take (l : List Ag) {i k : Nat} (h : i < k) : agAt (l.take k) i = agAt l i := by
  unfold agAt; rw [List.getElem?_take, if_pos h]
theorem Fit.may {lL lR : List Ag} (h : Fit lL lR) : mayE lL lR = 0 := by
  have go : ∀ d k, (lL ++ lR).length - k = d → mayFrom (lL ++ lR) lL.length lR.length k = 0 := by
    intro d
    induction d with
    | zero => intro k hk; exact mayFrom_end (by omega)
    | succ d ih =>
      intro k hk
      have hlt : k < (lL ++ lR).length := by omega
      have h0 : agE (agAt (lL ++ lR) k) ((lL ++ lR).take k) (if k < lL.length then (lR.length : Int) else lL.length) = 0 := by
        unfold agE
        rw [if_neg (by rw [h.name k hlt]; simp), if_neg ?_, if_neg (by have := h.room k hlt; omega)]
        · exact (h.likes k hlt).zero _ 0 rfl
        · rw [aidx_none _ 0 rfl fun i _ hi => ?_]
          · omega
          · have hik : i < k := by simp at hi; omega
            rw [agAt_take _ hik]
            exact h.apart i k hik hlt
      rw [mayFrom_step hlt, if_pos h0]
      exact ih (k + 1) (by omega)
  unfold mayE
  rw [if_neg (by have := h.nl; have := h.nr; omega)]
  exact go _ 0 rfl
end Go.Proofs.Ytodbnjainpjkcaa
