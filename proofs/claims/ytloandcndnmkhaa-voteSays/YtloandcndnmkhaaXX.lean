import Derived.Test.YtloandcndnmkhaaWW
namespace Go.Proofs.Ytloandcndnmkhaa
open Go.RowKit
/-- No more than the strongest way out of x. -/
def Snd (p : Nat → Nat → Int) (n x : Nat) (r : Nat → Int) : Prop := ∀ y, y < n → y ≠ x → r y ≤ fw p n x y
/-- What going on from a way w (that ends in a, s strong) makes of a row. -/
def SPost (p : Nat → Nat → Int) (n x : Nat) (w : List Nat) (s : Int) (a : Nat) (r r' : Nat → Int) : Prop :=
  (∀ y, r y ≤ r' y) ∧ (Snd p n x r → Snd p n x r') ∧ (1 < w.length → s ≤ r' a) ∧ ∀ c, 0 < c → (w.length = 1 ∨ c ≤ s) → ∀ m y, 0 < m → SW p n c w m a y → c ≤ r' y
/-- The same, when the steps to things below t have been gone. -/
def SInv (p : Nat → Nat → Int) (n x : Nat) (w : List Nat) (s : Int) (a : Nat) (t : Nat) (r r' : Nat → Int) : Prop :=
  (∀ y, r y ≤ r' y) ∧ (Snd p n x r → Snd p n x r') ∧ (1 < w.length → s ≤ r' a) ∧ ∀ c, 0 < c → (w.length = 1 ∨ c ≤ s) → ∀ z, z < t → z ∉ w → c ≤ st0 p a z → ∀ m y, SW p n c (w ++ [z]) m z y → c ≤ r' y
/-- The row behind the first two lines. -/
def upS (r : Nat → Int) (a : Nat) (s : Int) : Nat → Int := fun y => if y = a ∧ r a < s then s else r y
theorem SInv.init {p : Nat → Nat → Int} {n x : Nat} {w : List Nat} {s : Int} {a : Nat} {r : Nat → Int} (h : a ≠ x → s ≤ fw p n x a) : SInv p n x w s a 0 r (upS r a s) := by
  refine ⟨fun y => ?_, fun hr y hy hyx => ?_, fun _ => ?_, fun c _ _ z hz => by omega⟩
  · unfold upS
    by_cases e : y = a ∧ r a < s
    · rw [if_pos e, e.1]; omega
    · rw [if_neg e]; omega
  · unfold upS
    by_cases e : y = a ∧ r a < s
    · rw [if_pos e, e.1]; exact h (e.1 ▸ hyx)
    · rw [if_neg e]; exact hr y hy hyx
  · unfold upS
    by_cases e : r a < s
    · rw [if_pos ⟨rfl, e⟩]; omega
    · rw [if_neg (fun hh => e hh.2)]; omega
theorem SInv.skip {p : Nat → Nat → Int} {n x : Nat} {w : List Nat} {s : Int} {a t : Nat} {r r' : Nat → Int} (h : SInv p n x w s a t r r') (hk : t ∈ w ∨ p a t ≤ p t a) : SInv p n x w s a (t + 1) r r' := by
  obtain ⟨h1, h2, h3, h4⟩ := h
  refine ⟨h1, h2, h3, fun c c0 c1 z hz hzw hst m y hsw => ?_⟩
  by_cases e : z = t
  · subst e
    rcases hk with hk | hk
    · exact absurd hk hzw
    · have := (st0_pos c0 hst).2.1
      omega
  · exact h4 c c0 c1 z (by omega) hzw hst m y hsw
theorem SInv.call {p : Nat → Nat → Int} {n x : Nat} {w : List Nat} {s : Int} {a t : Nat} {r r' r2 : Nat → Int} (h : SInv p n x w s a t r r') (hw : w ≠ []) (hp : SPost p n x (w ++ [t]) (stepS p w s a t) t r' r2) : SInv p n x w s a (t + 1) r r2 := by
  obtain ⟨h1, h2, h3, h4⟩ := h
  obtain ⟨q1, q2, q3, q4⟩ := hp
  have hl : 0 < w.length := List.length_pos_iff.2 hw
  refine ⟨fun y => Int.le_trans (h1 y) (q1 y), fun hr => q2 (h2 hr), fun hh => Int.le_trans (h3 hh) (q1 a), fun c c0 c1 z hz hzw hst m y hsw => ?_⟩
  by_cases e : z = t
  · subst e
    have hcp := (st0_pos c0 hst).2.2
    have hcs : c ≤ stepS p w s a z := by
      unfold stepS
      by_cases hh : 1 < w.length ∧ s < p a z
      · rw [if_pos hh]; omega
      · rw [if_neg hh]; exact hcp
    cases m with
    | zero =>
      have e : z = y := hsw
      subst e
      exact Int.le_trans hcs (q3 (by simp; omega))
    | succ m => exact q4 c c0 (.inr hcs) (m + 1) y (by omega) hsw
  · exact Int.le_trans (h4 c c0 c1 z (by omega) hzw hst m y hsw) (q1 y)
theorem SInv.done {p : Nat → Nat → Int} {n x : Nat} {w : List Nat} {s : Int} {a : Nat} {r r' : Nat → Int} (h : SInv p n x w s a n r r') : SPost p n x w s a r r' := by
  obtain ⟨h1, h2, h3, h4⟩ := h
  refine ⟨h1, h2, h3, fun c c0 c1 m y hm hsw => ?_⟩
  cases m with
  | zero => omega
  | succ m =>
    obtain ⟨z, z1, z2, z3, z4⟩ := hsw
    exact h4 c c0 c1 z z1 z2 z3 m y z4
/-- A row that began with nothing and went all ways out of x. -/
theorem SPost.fw {p : Nat → Nat → Int} {n x y : Nat} {r' : Nat → Int} (h0 : ∀ i j, 0 ≤ p i j) (h : SPost p n x [x] 0 x (fun _ => 0) r') (hy : y < n) (hxy : x ≠ y) : r' y = fw p n x y := by
  obtain ⟨h1, h2, _, h4⟩ := h
  exact fw_simple h0 hy hxy (h1 y) (h2 (fun z _ _ => fw_pos h0 n x z) y hy (Ne.symm hxy)) (fun s s0 m hm hsw => h4 s s0 (.inl rfl) m y hm hsw)
end Go.Proofs.Ytloandcndnmkhaa
