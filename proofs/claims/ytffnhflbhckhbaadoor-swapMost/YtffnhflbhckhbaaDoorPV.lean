import Derived.Test.YtffnhflbhckhbaaDoorPU
namespace Go.Proofs.YtffnhflbhckhbaaDoor
variable {s : Sw}
/-- The chains that go on from c, who is used being told by bits. -/
def chL (s : Sw) : Nat → List Int → Nat → List (List Int)
  | 0, _, _ => []
  | f + 1, c, u => (if decide (1 < c.length) && mayL s c then [c] else []) ++ (s.F (lst c)).flatMap (fun k => if u.testBit k.toNat then [] else chL s f (c ++ [k]) (u ||| 2 ^ k.toNat))
theorem bit_or (u k j : Nat) : (u ||| 2 ^ k).testBit j = (u.testBit j || decide (k = j)) := by
  rw [Nat.testBit_or, Nat.testBit_two_pow]
theorem lst_snoc (c : List Int) (k : Int) : lst (c ++ [k]) = k := by simp [lst]
theorem hd_append (c e : List Int) (h : c ≠ []) : hd (c ++ e) = hd c := by
  unfold hd
  cases c with
  | nil => exact absurd rfl h
  | cons x c => simp
/-- A chain that may go on: each fits the next one, none twice, all of them used. -/
structure Beg (s : Sw) (c : List Int) (u : Nat) : Prop where
  ne : c ≠ []
  path : Path s c
  nd : c.Nodup
  rng : ∀ x ∈ c, 0 ≤ x ∧ x < s.n
  us : ∀ x ∈ c, u.testBit x.toNat = true
theorem path_snoc {c : List Int} {k : Int} (hne : c ≠ []) (h : Path s c) (hk : k ∈ s.F (lst c)) : Path s (c ++ [k]) := by
  have hl : 0 < c.length := List.length_pos_iff.2 hne
  intro i hi
  simp only [List.length_append, List.length_cons, List.length_nil] at hi
  by_cases h1 : i + 1 < c.length
  · rw [List.getElem?_append_left h1, List.getElem?_append_left (by omega)]
    exact h i h1
  · have hi2 : i = c.length - 1 := by omega
    have a1 : (c ++ [k])[i + 1]?.getD 0 = k := by
      rw [List.getElem?_append_right (by omega), show i + 1 - c.length = 0 by omega]
      rfl
    have a2 : (c ++ [k])[i]?.getD 0 = lst c := by
      rw [List.getElem?_append_left (by omega), hi2]
      rfl
    rw [a1, a2]
    exact hk
theorem path_pre {c e : List Int} (h : Path s (c ++ e)) : Path s c := fun i hi => by
  have := h i (by simp; omega)
  rwa [List.getElem?_append_left hi, List.getElem?_append_left (by omega)] at this
theorem Beg.snoc (hs : s.Ok) {c : List Int} {u : Nat} {k : Int} (h : Beg s c u) (hk : k ∈ s.F (lst c)) (hu : u.testBit k.toNat = false) : Beg s (c ++ [k]) (u ||| 2 ^ k.toNat) := by
  have hkr := hs.fits _ _ hk
  have hg := hs.gv0
  refine ⟨by simp, path_snoc h.ne h.path hk, ?_, fun x hx => ?_, fun x hx => ?_⟩
  · rw [List.nodup_append]
    refine ⟨h.nd, by simp, fun x hx y hy e => ?_⟩
    rw [List.mem_singleton] at hy
    subst hy
    subst e
    have := h.us x hx
    rw [hu] at this
    cases this
  · rcases List.mem_append.1 hx with q | q
    · exact h.rng x q
    · rw [List.mem_singleton] at q
      subst q
      exact ⟨by omega, hkr.2.1⟩
  · rw [bit_or]
    rcases List.mem_append.1 hx with q | q
    · rw [h.us x q]; rfl
    · rw [List.mem_singleton] at q
      subst q
      simp
/-- Every chain that is told may be. -/
theorem chL_sound (hs : s.Ok) : ∀ (f : Nat) (c : List Int) (u : Nat), Beg s c u → ∀ d ∈ chL s f c u, Line s d ∧ d.Nodup ∧ hd d = hd c ∧ ∀ x ∈ d, x ∈ c ∨ u.testBit x.toNat = false
  | 0, c, u, _, d, hd' => by cases hd'
  | f + 1, c, u, h, d, hd' => by
    rw [chL] at hd'
    rcases List.mem_append.1 hd' with q | q
    · by_cases hc : (decide (1 < c.length) && mayL s c) = true
      · rw [if_pos hc, List.mem_singleton] at q
        subst q
        rw [Bool.and_eq_true, decide_eq_true_eq] at hc
        exact ⟨⟨by omega, h.rng, h.path, hc.2⟩, h.nd, rfl, fun x hx => .inl hx⟩
      · rw [if_neg hc] at q; cases q
    · obtain ⟨k, hk, q⟩ := List.mem_flatMap.1 q
      cases hu : u.testBit k.toNat with
      | true => rw [hu] at q; simp at q
      | false =>
        rw [hu] at q
        simp only [Bool.false_eq_true, if_false] at q
        obtain ⟨i1, i2, i3, i4⟩ := chL_sound hs f _ _ (h.snoc hs hk hu) d q
        refine ⟨i1, i2, i3.trans (hd_append _ _ h.ne), fun x hx => ?_⟩
        rcases i4 x hx with r | r
        · rcases List.mem_append.1 r with r | r
          · exact .inl r
          · rw [List.mem_singleton] at r; subst r; exact .inr hu
        · rw [bit_or, Bool.or_eq_false_iff] at r
          exact .inr r.1
/-- Every chain that may be is told. -/
theorem chL_all (hs : s.Ok) : ∀ (e : List Int) (f : Nat) (c : List Int) (u : Nat), Beg s c u → e.length < f → Line s (c ++ e) → (c ++ e).Nodup → (∀ x ∈ e, u.testBit x.toNat = false) → c ++ e ∈ chL s f c u
  | [], 0, c, u, _, hf, _, _, _ => by simp at hf
  | [], f + 1, c, u, _, _, hl, _, _ => by
    rw [List.append_nil] at hl ⊢
    rw [chL]
    refine List.mem_append_left _ ?_
    rw [if_pos (by rw [Bool.and_eq_true, decide_eq_true_eq]; exact ⟨by have := hl.two; omega, hl.may⟩)]
    simp
  | k :: e, 0, c, u, _, hf, _, _, _ => by simp at hf
  | k :: e, f + 1, c, u, h, hf, hl, hn, hu => by
    rw [chL]
    refine List.mem_append_right _ (List.mem_flatMap.2 ⟨k, ?_, ?_⟩)
    · have h0 : 0 < c.length := List.length_pos_iff.2 h.ne
      have := hl.path (c.length - 1) (by simp; omega)
      rw [show c.length - 1 + 1 = c.length by omega, List.getElem?_append_right (Nat.le_refl _), Nat.sub_self, List.getElem?_append_left (by omega)] at this
      simpa [lst] using this
    · have hk := hu k (by simp)
      rw [hk]
      simp only [Bool.false_eq_true, if_false]
      have hkm : k ∈ s.F (lst c) := by
        have h0 : 0 < c.length := List.length_pos_iff.2 h.ne
        have := hl.path (c.length - 1) (by simp; omega)
        rw [show c.length - 1 + 1 = c.length by omega, List.getElem?_append_right (Nat.le_refl _), Nat.sub_self, List.getElem?_append_left (by omega)] at this
        simpa [lst] using this
      have e1 : c ++ k :: e = (c ++ [k]) ++ e := by simp
      rw [e1] at hl hn ⊢
      have hk0 : 0 ≤ k := by have := hs.fits _ _ hkm; have := hs.gv0; omega
      refine chL_all hs e f _ _ (h.snoc hs hkm hk) (by simpa using hf) hl hn (fun x hx => ?_)
      rw [bit_or, hu x (by simp [hx]), Bool.false_or, decide_eq_false_iff_not]
      intro q
      have hx0 := (hl.rng x (List.mem_append_right _ hx)).1
      rw [List.nodup_append] at hn
      exact hn.2.2 k (by simp) x hx (by omega)
end Go.Proofs.YtffnhflbhckhbaaDoor
