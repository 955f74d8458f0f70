import Derived.Test.YtaaikaeknealkaaE
namespace Go.Proofs.Ytaaikaeknealkaa
open Go.RowKit
/-- A set without another one. -/
def anN (a b : Nat) : Nat := a - (a &&& b)
theorem andNot_all : ∀ a : Nat, a < 16 → ∀ b : Nat, b < 16 → bits BinOp.andNot IntKind.i64 (a : Int) (b : Int) = ((anN a b : Nat) : Int) := by decide +kernel
theorem anN_le (a b : Nat) : anN a b ≤ a := Nat.sub_le _ _
/-- The best of the first k sets for one, the rest for others. -/
def bstF (w : Nat → Int) (B : Nat → Int × List Int) (free : Nat) : Nat → Int × List Int
  | 0 => (-1, [])
  | k + 1 => if anN k free = 0 ∧ (bstF w B free k).1 < (B (anN free k)).1 + w k then ((B (anN free k)).1 + w k, (k : Int) :: (B (anN free k)).2) else bstF w B free k
theorem bstF_yes {w : Nat → Int} {B : Nat → Int × List Int} {free k : Nat} (h : anN k free = 0) (h2 : (bstF w B free k).1 < (B (anN free k)).1 + w k) : bstF w B free (k + 1) = ((B (anN free k)).1 + w k, (k : Int) :: (B (anN free k)).2) := by rw [bstF, if_pos ⟨h, h2⟩]
theorem bstF_no {w : Nat → Int} {B : Nat → Int × List Int} {free k : Nat} (h : ¬ (anN k free = 0 ∧ (bstF w B free k).1 < (B (anN free k)).1 + w k)) : bstF w B free (k + 1) = bstF w B free k := by rw [bstF, if_neg h]
def bst : List (Nat → Int) → Nat → Int × List Int
  | [], _ => (0, [])
  | w :: ws, free => bstF w (bst ws) free (free + 1)
/-- Worths that may be: of sets below m. -/
def Wok (m : Nat) (ws : List (Nat → Int)) : Prop := ∀ w ∈ ws, ∀ s, s < m → 0 ≤ w s ∧ w s ≤ 1000
theorem anN_zero (f : Nat) : anN 0 f = 0 := by unfold anN; simp
theorem bstF_le {w : Nat → Int} {B : Nat → Int × List Int} {free m : Nat} {M : Int} (hB : ∀ f, f < m → 0 ≤ (B f).1 ∧ (B f).1 ≤ M) (hM : 0 ≤ M) (hw : ∀ s, s < m → 0 ≤ w s ∧ w s ≤ 1000) (hf : free < m) :
    ∀ k, k ≤ free + 1 → -1 ≤ (bstF w B free k).1 ∧ (bstF w B free k).1 ≤ M + 1000 ∧ (0 < k → 0 ≤ (bstF w B free k).1) := by
  intro k
  induction k with
  | zero => intro _; exact ⟨Int.le_refl _, by show (-1 : Int) ≤ M + 1000; omega, fun h => by omega⟩
  | succ k ih =>
    intro hk
    obtain ⟨h1, h2, h3⟩ := ih (by omega)
    have hb := hB (anN free k) (Nat.lt_of_le_of_lt (anN_le _ _) hf)
    have hv := hw k (by omega)
    by_cases c : anN k free = 0 ∧ (bstF w B free k).1 < (B (anN free k)).1 + w k
    · rw [bstF_yes c.1 c.2]
      refine ⟨?_, ?_, fun _ => ?_⟩
      · show -1 ≤ (B (anN free k)).1 + w k; omega
      · show (B (anN free k)).1 + w k ≤ M + 1000; omega
      · show 0 ≤ (B (anN free k)).1 + w k; omega
    · rw [bstF_no c]
      refine ⟨h1, h2, fun _ => ?_⟩
      by_cases k0 : k = 0
      · subst k0
        have : ¬ (bstF w B free 0).1 < (B (anN free 0)).1 + w 0 := fun h => c ⟨anN_zero _, h⟩
        have e : (bstF w B free 0).1 = -1 := rfl
        rw [e] at this
        omega
      · exact h3 (by omega)
theorem bst_le {m : Nat} : ∀ (ws : List (Nat → Int)), Wok m ws → ∀ free, free < m → 0 ≤ (bst ws free).1 ∧ (bst ws free).1 ≤ 1000 * ws.length := by
  intro ws
  induction ws with
  | nil => intro _ free _; exact ⟨Int.le_refl _, by show (0 : Int) ≤ _; simp⟩
  | cons w ws ih =>
    intro h free hf
    have hi := ih (fun v hv => h v (List.mem_cons_of_mem _ hv))
    have := bstF_le (w := w) (B := bst ws) (free := free) (m := m) (M := 1000 * ws.length) hi (by omega) (h w List.mem_cons_self) hf (free + 1) (Nat.le_refl _)
    refine ⟨this.2.2 (by omega), ?_⟩
    show (bstF w (bst ws) free (free + 1)).1 ≤ _
    rw [List.length_cons]
    omega
theorem bstF_len {w : Nat → Int} {B : Nat → Int × List Int} {free l : Nat} (hB : ∀ f, (B f).2.length = l) : ∀ k, (bstF w B free k).2 = [] ∨ (bstF w B free k).2.length = l + 1 := by
  intro k
  induction k with
  | zero => exact .inl rfl
  | succ k ih =>
    by_cases c : anN k free = 0 ∧ (bstF w B free k).1 < (B (anN free k)).1 + w k
    · rw [bstF_yes c.1 c.2]
      exact .inr (by rw [List.length_cons, hB])
    · rw [bstF_no c]; exact ih
theorem bstF_some {w : Nat → Int} {B : Nat → Int × List Int} {free : Nat} : ∀ k, 0 ≤ (bstF w B free k).1 → (bstF w B free k).2 ≠ [] := by
  intro k
  induction k with
  | zero => intro h; exact absurd h (by show ¬ (0 : Int) ≤ -1; omega)
  | succ k ih =>
    intro h
    by_cases c : anN k free = 0 ∧ (bstF w B free k).1 < (B (anN free k)).1 + w k
    · rw [bstF_yes c.1 c.2]; exact List.cons_ne_nil _ _
    · rw [bstF_no c] at h ⊢; exact ih h
theorem bst_len {m : Nat} : ∀ (ws : List (Nat → Int)), Wok m ws → ∀ free, free < m → (bst ws free).2.length = ws.length := by
  intro ws
  induction ws with
  | nil => intro _ free _; rfl
  | cons w ws ih =>
    intro h free hf
    have hws : Wok m ws := fun v hv => h v (List.mem_cons_of_mem _ hv)
    have h0 := (bst_le (w :: ws) h free hf).1
    have hs := bstF_some (w := w) (B := bst ws) (free := free) (free + 1) h0
    have : ∀ k, k ≤ free + 1 → (bstF w (bst ws) free k).2 = [] ∨ (bstF w (bst ws) free k).2.length = ws.length + 1 := by
      intro k
      induction k with
      | zero => intro _; exact .inl rfl
      | succ k ihk =>
        intro hk
        by_cases c : anN k free = 0 ∧ (bstF w (bst ws) free k).1 < (bst ws (anN free k)).1 + w k
        · rw [bstF_yes c.1 c.2]
          exact .inr (by rw [List.length_cons, ih hws _ (Nat.lt_of_le_of_lt (anN_le _ _) hf)])
        · rw [bstF_no c]; exact ihk (by omega)
    rcases this (free + 1) (Nat.le_refl _) with e | e
    · exact absurd e hs
    · rw [List.length_cons]; exact e
def fs (L : List Sl) : List (Nat → Int) := L.map (fun s => nth s.ints)
theorem Lsts.tail {w : World} {b off m c : Nat} {s : Sl} {L : List Sl} (h : Lsts w (some ⟨b, off, none⟩) (m + 1) c (s :: L)) : Lsts w (some ⟨b, off + 1, none⟩) m (c - 1) L := by
  obtain ⟨h1, h2, h3, h4, h5⟩ := h
  rw [List.length_cons] at h1
  refine ⟨by omega, by omega, by omega, fun t ht => h4 t (List.mem_cons_of_mem _ ht), ?_⟩
  by_cases hm : m = 0
  · exact .inl hm
  · rcases h5 with h5 | ⟨b', o', e, hb, hc⟩
    · omega
    · cases e
      refine .inr ⟨b, off + 1, rfl, hb, fun j hj => ?_⟩
      have := hc (j + 1) (by omega)
      rw [show off + 1 + j = off + (j + 1) by omega, this]
      rfl
theorem cons_nth (x : Int) (l : List Int) : cons x (nth l) = nth (x :: l) := by
  funext j
  cases j with
  | zero => rfl
  | succ j => unfold cons nth; simp
end Go.Proofs.Ytaaikaeknealkaa
