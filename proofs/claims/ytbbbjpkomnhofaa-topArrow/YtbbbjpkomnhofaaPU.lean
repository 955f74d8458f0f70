import Derived.WalkKit
namespace Go.Proofs.Ytbbbjpkomnhofaa
/-- The k-th order of three things. -/
def ordL (k : Nat) : List Nat := match k with | 0 => [0, 1, 2] | 1 => [0, 2, 1] | 2 => [1, 0, 2] | 3 => [1, 2, 0] | 4 => [2, 0, 1] | _ => [2, 1, 0]
def plc (l : List Nat) (x : Nat) : Nat := match l with | [] => 9 | y :: r => if y = x then 0 else plc r x + 1
/-- Does the k-th order rank x above y? -/
def ov (k x y : Nat) : Bool := decide (plc (ordL k) x < plc (ordL k) y)
def rep (x y : Nat) : Nat := match x, y with | 0, 1 => 6 * 0 + 2 | 0, 2 => 6 * 1 + 4 | 1, 0 => 6 * 2 + 0 | 1, 2 => 6 * 3 + 5 | 2, 0 => 6 * 4 + 1 | _, _ => 6 * 5 + 3
def bitD (a b c d e f : Bool) (x y : Nat) : Bool := match x, y with | 0, 1 => a | 0, 2 => b | 1, 0 => c | 1, 2 => d | 2, 0 => e | _, _ => f
def valD (a b c d e f : Bool) (i x y : Nat) : Bool :=
  match ov (i / 6) x y, ov (i % 6) x y with
  | true, true => true
  | false, false => false
  | true, false => bitD a b c d e f x y
  | false, true => !bitD a b c d e f y x
theorem ov_anti : ∀ k, k < 6 → ∀ x, x < 3 → ∀ y, y < 3 → x ≠ y → ov k y x = !ov k x y := by decide +kernel
theorem rep_ok : ∀ x, x < 3 → ∀ y, y < 3 → x ≠ y → rep x y < 36 ∧ ov (rep x y / 6) x y = true ∧ ov (rep x y % 6) x y = false := by decide +kernel
def pairs6 : List (Nat × Nat) := [(0, 1), (0, 2), (1, 0), (1, 2), (2, 0), (2, 1)]
def fitB (k : Nat) (a b c d e f : Bool) (i : Nat) : Bool := pairs6.all fun p => ov k p.1 p.2 == valD a b c d e f i p.1 p.2
theorem fitB_of {k : Nat} {a b c d e f : Bool} {i : Nat} (h : ∀ x, x < 3 → ∀ y, y < 3 → x ≠ y → ov k x y = valD a b c d e f i x y) : fitB k a b c d e f i = true := by
  unfold fitB
  rw [List.all_eq_true]
  intro p hp
  have : p.1 < 3 ∧ p.2 < 3 ∧ p.1 ≠ p.2 := by
    simp [pairs6] at hp
    rcases hp with rfl | rfl | rfl | rfl | rfl | rfl <;> decide
  rw [h p.1 this.1 p.2 this.2.1 this.2.2]
  simp
theorem only_two : ∀ a b c d e f : Bool, ((List.range 36).all fun i => (List.range 6).any fun k => fitB k a b c d e f i) = true → (a = true ∧ b = true ∧ c = true ∧ d = true ∧ e = true ∧ f = true) ∨ (a = false ∧ b = false ∧ c = false ∧ d = false ∧ e = false ∧ f = false) := by
  intro a b c d e f
  cases a <;> cases b <;> cases c <;> cases d <;> cases e <;> cases f <;> decide +kernel
theorem one_rules : ∀ i, i < 36 → ∀ k, k < 6 → fitB k true true true true true true i = true → k = i / 6 := by decide +kernel
theorem two_rules : ∀ i, i < 36 → ∀ k, k < 6 → fitB k false false false false false false i = true → k = i % 6 := by decide +kernel
theorem bitD_at (D : Nat → Nat → Bool) : ∀ x, x < 3 → ∀ y, y < 3 → x ≠ y → bitD (D 0 1) (D 0 2) (D 1 0) (D 1 2) (D 2 0) (D 2 1) x y = D x y := by
  intro x hx y hy hxy
  match x, y, hx, hy, hxy with
  | 0, 1, _, _, _ => rfl
  | 0, 2, _, _, _ => rfl
  | 1, 0, _, _, _ => rfl
  | 1, 2, _, _, _ => rfl
  | 2, 0, _, _, _ => rfl
  | 2, 1, _, _, _ => rfl
  | 0, 0, _, _, h => exact absurd rfl h
  | 1, 1, _, _, h => exact absurd rfl h
  | 2, 2, _, _, h => exact absurd rfl h
/-- ARROW: two voters, three things. -/
theorem arrow (r : Nat → Nat) (hr : ∀ i, i < 36 → r i < 6)
    (ag : ∀ i, i < 36 → ∀ x, x < 3 → ∀ y, y < 3 → x ≠ y → ov (i / 6) x y = true → ov (i % 6) x y = true → ov (r i) x y = true)
    (ap : ∀ x, x < 3 → ∀ y, y < 3 → x ≠ y → ∀ i, i < 36 → ∀ k, k < 36 → ov (i / 6) x y = ov (k / 6) x y → ov (i % 6) x y = ov (k % 6) x y → ov (r i) x y = ov (r k) x y) :
    (∀ i, i < 36 → r i = i / 6) ∨ (∀ i, i < 36 → r i = i % 6) := by
  have hD : ∀ i, i < 36 → ∀ x, x < 3 → ∀ y, y < 3 → x ≠ y → ov (r i) x y = valD (ov (r (rep 0 1)) 0 1) (ov (r (rep 0 2)) 0 2) (ov (r (rep 1 0)) 1 0) (ov (r (rep 1 2)) 1 2) (ov (r (rep 2 0)) 2 0) (ov (r (rep 2 1)) 2 1) i x y := by
    intro i hi x hx y hy hxy
    have h6 : i / 6 < 6 := by omega
    have h7 : i % 6 < 6 := by omega
    have ha := ov_anti (i / 6) h6 x hx y hy hxy
    have hb := ov_anti (i % 6) h7 x hx y hy hxy
    have hc := ov_anti (r i) (hr i hi) x hx y hy hxy
    unfold valD
    rw [bitD_at (fun x y => ov (r (rep x y)) x y) x hx y hy hxy, bitD_at (fun x y => ov (r (rep x y)) x y) y hy x hx (Ne.symm hxy)]
    cases h1 : ov (i / 6) x y <;> cases h2 : ov (i % 6) x y
    · rw [h1] at ha
      rw [h2] at hb
      have := ag i hi y hy x hx (Ne.symm hxy) (by rw [ha]; rfl) (by rw [hb]; rfl)
      rw [this] at hc
      show ov (r i) x y = false
      cases h : ov (r i) x y
      · rfl
      · rw [h] at hc; cases hc
    · obtain ⟨g1, g2, g3⟩ := rep_ok y hy x hx (Ne.symm hxy)
      have := ap y hy x hx (Ne.symm hxy) i hi (rep y x) g1 (by rw [ha, h1, g2]; rfl) (by rw [hb, h2, g3]; rfl)
      show ov (r i) x y = !ov (r (rep y x)) y x
      rw [← this, hc]
      cases ov (r i) x y <;> rfl
    · obtain ⟨g1, g2, g3⟩ := rep_ok x hx y hy hxy
      exact ap x hx y hy hxy i hi (rep x y) g1 (by rw [h1, g2]) (by rw [h2, g3])
    · exact ag i hi x hx y hy hxy h1 h2
  rcases only_two _ _ _ _ _ _ (by rw [List.all_eq_true]; intro i hi; rw [List.any_eq_true]; have hi := List.mem_range.1 hi; exact ⟨r i, List.mem_range.2 (hr i hi), fitB_of (hD i hi)⟩) with ⟨e1, e2, e3, e4, e5, e6⟩ | ⟨e1, e2, e3, e4, e5, e6⟩
  · rw [e1, e2, e3, e4, e5, e6] at hD
    exact .inl fun i hi => one_rules i hi (r i) (hr i hi) (fitB_of (hD i hi))
  · rw [e1, e2, e3, e4, e5, e6] at hD
    exact .inr fun i hi => two_rules i hi (r i) (hr i hi) (fitB_of (hD i hi))
/-- A place's new value against those that lie ahead of it: no lie paysN, of those between them. -/
def paysN (own got x : Nat) : Bool := ov own x got
def fitsAt (i v j w : Nat) : Bool :=
  (!(i / 6 == j / 6) || (!paysN (i % 6) v w && !paysN (j % 6) w v)) && (!(i % 6 == j % 6) || (!paysN (i / 6) v w && !paysN (j / 6) w v))
def fitsAll (t : List Nat) (v : Nat) : Bool := (List.range t.length).all fun j => fitsAt t.length v j (t[j]?.getD 0)
def first (k : Nat) : Nat := (ordL k).head?.getD 0
def endB (t : List Nat) : Bool := !([0, 1, 2].all fun x => t.contains x) || ((List.range 36).all fun i => t[i]?.getD 9 == first (i / 6)) || ((List.range 36).all fun i => t[i]?.getD 9 == first (i % 6))
def search : Nat → List Nat → Bool
  | 0, t => endB t
  | n + 1, t => [0, 1, 2].all fun v => !fitsAll t v || search n (t ++ [v])
theorem search_all : search 36 [] = true := by decide +kernel
theorem search_ok (r : Nat → Nat) (hr : ∀ i, i < 36 → r i < 3)
    (hh : ∀ i, i < 36 → ∀ j, j < 36 → (i / 6 = j / 6 → ov (i % 6) (r j) (r i) = false) ∧ (i % 6 = j % 6 → ov (i / 6) (r j) (r i) = false)) :
    ∀ n k, k + n = 36 → search n ((List.range k).map r) = true → endB ((List.range 36).map r) = true := by
  intro n
  induction n with
  | zero => intro k hk h; have : k = 36 := by omega
            subst this; exact h
  | succ n ih =>
    intro k hk h
    refine ih (k + 1) (by omega) ?_
    unfold search at h
    rw [List.all_eq_true] at h
    have hv : r k ∈ [0, 1, 2] := by have := hr k (by omega); simp; omega
    have h1 := h _ hv
    have hf : fitsAll ((List.range k).map r) (r k) = true := by
      unfold fitsAll
      rw [List.all_eq_true]
      intro j hj
      simp at hj
      have e : ((List.range k).map r)[j]?.getD 0 = r j := by simp [hj]
      rw [e]
      unfold fitsAt paysN
      have a1 := hh k (by omega) j (by omega)
      have a2 := hh j (by omega) k (by omega)
      simp only [List.length_map, List.length_range]
      by_cases c1 : k / 6 = j / 6 <;> by_cases c2 : k % 6 = j % 6
      · rw [a1.1 c1, a2.1 c1.symm, a1.2 c2, a2.2 c2.symm]; simp
      · rw [a1.1 c1, a2.1 c1.symm]; simp [c2]
      · rw [a1.2 c2, a2.2 c2.symm]; simp [c1]
      · simp [c1, c2]
    rw [hf] at h1
    rw [List.range_succ, List.map_append]
    simpa using h1
/-- GIBBARD AND SATTERTHWAITE: two voters, three things. -/
theorem chooser (r : Nat → Nat) (hr : ∀ i, i < 36 → r i < 3)
    (hh : ∀ i, i < 36 → ∀ j, j < 36 → (i / 6 = j / 6 → ov (i % 6) (r j) (r i) = false) ∧ (i % 6 = j % 6 → ov (i / 6) (r j) (r i) = false))
    (ho : ∀ x, x < 3 → ∃ i, i < 36 ∧ r i = x) :
    (∀ i, i < 36 → r i = first (i / 6)) ∨ (∀ i, i < 36 → r i = first (i % 6)) := by
  have h := search_ok r hr hh 36 0 rfl search_all
  unfold endB at h
  have hc : ([0, 1, 2].all fun x => ((List.range 36).map r).contains x) = true := by
    rw [List.all_eq_true]
    intro x hx
    obtain ⟨i, hi, e⟩ := ho x (by simp at hx; omega)
    rw [List.contains_iff_mem, List.mem_map]
    exact ⟨i, List.mem_range.2 hi, e⟩
  rw [hc] at h
  simp only [Bool.not_true, Bool.false_or, Bool.or_eq_true, List.all_eq_true] at h
  rcases h with h | h
  · refine .inl fun i hi => ?_
    have := h i (List.mem_range.2 hi)
    simpa [hi] using this
  · refine .inr fun i hi => ?_
    have := h i (List.mem_range.2 hi)
    simpa [hi] using this
end Go.Proofs.Ytbbbjpkomnhofaa
