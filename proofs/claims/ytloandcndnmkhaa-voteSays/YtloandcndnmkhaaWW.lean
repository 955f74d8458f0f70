import Derived.Test.YtloandcndnmkhaaH
namespace Go.Proofs.Ytloandcndnmkhaa
open Go.RowKit
/-- A walk that keeps out of U behind its first thing. -/
def WU (p : Nat → Nat → Int) (n : Nat) (s : Int) (U : List Nat) : Nat → Nat → Nat → Prop
  | 0, x, y => x = y
  | m + 1, x, y => ∃ z, z < n ∧ z ∉ U ∧ s ≤ st0 p x z ∧ WU p n s U m z y
/-- A walk that goes nowhere twice. -/
def SW (p : Nat → Nat → Int) (n : Nat) (s : Int) : List Nat → Nat → Nat → Nat → Prop
  | _, 0, x, y => x = y
  | U, m + 1, x, y => ∃ z, z < n ∧ z ∉ U ∧ s ≤ st0 p x z ∧ SW p n s (U ++ [z]) m z y
theorem wu_out {p : Nat → Nat → Int} {n : Nat} {s : Int} {U : List Nat} (z y : Nat) : ∀ m a, WU p n s U m a y → WU p n s (U ++ [z]) m a y ∨ ∃ m', m' ≤ m ∧ WU p n s (U ++ [z]) m' z y := by
  intro m
  induction m with
  | zero => intro a h; exact .inl h
  | succ m ih =>
    intro a ⟨b, b1, b2, b3, b4⟩
    rcases ih b b4 with h | ⟨m', h1, h2⟩
    · by_cases e : b = z
      · subst e; exact .inr ⟨m, by omega, h⟩
      · exact .inl ⟨b, b1, by simp [b2, e], b3, h⟩
    · exact .inr ⟨m', by omega, h2⟩
theorem wu_last {p : Nat → Nat → Int} {n : Nat} {s : Int} {U : List Nat} {z y m : Nat} (h : WU p n s U m z y) : ∃ m', m' ≤ m ∧ WU p n s (U ++ [z]) m' z y := by
  rcases wu_out z y m z h with h | h
  · exact ⟨m, Nat.le_refl _, h⟩
  · exact h
theorem wu_sw {p : Nat → Nat → Int} {n : Nat} {s : Int} {y : Nat} : ∀ d m U x, m ≤ d → WU p n s U m x y → ∃ m', SW p n s U m' x y := by
  intro d
  induction d with
  | zero =>
    intro m U x hm h
    obtain rfl : m = 0 := by omega
    exact ⟨0, h⟩
  | succ d ih =>
    intro m U x hm h
    cases m with
    | zero => exact ⟨0, h⟩
    | succ m =>
      obtain ⟨z, z1, z2, z3, z4⟩ := h
      obtain ⟨m', h1, h2⟩ := wu_last z4
      obtain ⟨m2, h3⟩ := ih m' (U ++ [z]) z (by omega) h2
      exact ⟨m2 + 1, z, z1, z2, z3, h3⟩
theorem walk_wu {p : Nat → Nat → Int} {n : Nat} {s : Int} {y : Nat} : ∀ m x, Walk p n s m x y → WU p n s [] m x y := by
  intro m
  induction m with
  | zero => intro x h; exact h
  | succ m ih => intro x ⟨z, z1, z2, z3⟩; exact ⟨z, z1, by simp, z2, ih z z3⟩
theorem walk_sw {p : Nat → Nat → Int} {n : Nat} {s : Int} {x y m : Nat} (h : Walk p n s m x y) : ∃ m', SW p n s [x] m' x y := by
  obtain ⟨m', _, h2⟩ := wu_last (walk_wu m x h)
  exact wu_sw m' m' _ x (Nat.le_refl _) h2
/-- What a row holds of the strongest ways out of x, when all simple ways have been gone. -/
theorem fw_simple {p : Nat → Nat → Int} {n x y : Nat} (h0 : ∀ i j, 0 ≤ p i j) (hy : y < n) (hxy : x ≠ y) {r : Int} (hr0 : 0 ≤ r) (hs : r ≤ fw p n x y)
    (hc : ∀ s, 0 < s → ∀ m, 0 < m → SW p n s [x] m x y → s ≤ r) : r = fw p n x y := by
  have hp := fw_pos h0 n x y
  by_cases c : 0 < fw p n x y
  · obtain ⟨m, hm⟩ := fw_walk c n x y (Nat.le_refl _) hy (Int.le_refl _)
    obtain ⟨m', hm'⟩ := walk_sw hm
    have : 0 < m' := by
      cases m' with
      | zero => exact absurd hm' hxy
      | succ m' => omega
    have := hc _ c m' this hm'
    omega
  · omega
/-- How strong a way is behind one step more. -/
def stepS (p : Nat → Nat → Int) (w : List Nat) (s : Int) (a z : Nat) : Int := if 1 < w.length ∧ s < p a z then s else p a z
theorem stepS_le {p : Nat → Nat → Int} {n x a z : Nat} {w : List Nat} {s : Int} (h0 : ∀ i j, 0 ≤ p i j) (ha : a < n) (hxz : x ≠ z) (hw : w = [x] ∧ a = x ∨ 1 < w.length ∧ s ≤ fw p n x a) (hb : p z a < p a z) : stepS p w s a z ≤ fw p n x z := by
  have h1 : st0 p a z = p a z := by unfold st0; rw [if_pos hb]
  have h2 := fw_mono (p := p) n a z
  rw [h1] at h2
  rcases hw with ⟨e1, e2⟩ | ⟨e1, e2⟩
  · subst e1 e2
    unfold stepS
    rw [if_neg (by simp)]
    exact h2
  · have h3 := fw_tri h0 n a x z ha hxz
    unfold stepS
    by_cases c : s < p a z
    · rw [if_pos ⟨e1, c⟩]; omega
    · rw [if_neg (fun h => c h.2)]; omega
end Go.Proofs.Ytloandcndnmkhaa
