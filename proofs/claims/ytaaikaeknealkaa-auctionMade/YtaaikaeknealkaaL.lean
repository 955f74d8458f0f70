import Derived.Test.YtaaikaeknealkaaK
namespace Go.Proofs.Ytaaikaeknealkaa
open Go.RowKit
/-- A set by its bits. -/
def bs (p : Nat → Bool) : Nat → Nat
  | 0 => 0
  | k + 1 => bs p k + (if p k = true then 2 ^ k else 0)
theorem bs_congr {p q : Nat → Bool} : ∀ n, (∀ k, k < n → p k = q k) → bs p n = bs q n := by
  intro n
  induction n with
  | zero => intro _; rfl
  | succ n ih => intro h; rw [bs, bs, ih (fun k hk => h k (by omega)), h n (by omega)]
theorem bs_lt (p : Nat → Bool) : ∀ n, bs p n < 2 ^ n := by
  intro n
  induction n with
  | zero => exact Nat.one_pos
  | succ n ih =>
    rw [bs, Nat.pow_succ]
    by_cases h : p n = true
    · rw [if_pos h]; omega
    · rw [if_neg h]; omega
def b4 (a b c d : Bool) (k : Nat) : Bool := if k = 0 then a else if k = 1 then b else if k = 2 then c else if k = 3 then d else false
theorem b4_bit : ∀ it : Nat, it < 5 → ∀ k : Nat, k < 4 → ∀ a b c d : Bool, hs (bs (b4 a b c d) it) k = (decide (k < it) && b4 a b c d k) := by decide +kernel
theorem bs_bit {p : Nat → Bool} {it k : Nat} (hit : it ≤ 4) (hk : k < 4) : hs (bs p it) k = (decide (k < it) && p k) := by
  have e : ∀ j, j < 4 → p j = b4 (p 0) (p 1) (p 2) (p 3) j := fun j hj => by
    rcases (by omega : j = 0 ∨ j = 1 ∨ j = 2 ∨ j = 3) with rfl | rfl | rfl | rfl <;> rfl
  rw [bs_congr it (fun j hj => e j (by omega)), b4_bit it (by omega) k hk, e k hk]
theorem hs_ext : ∀ a : Nat, a < 16 → ∀ b : Nat, b < 16 → (hs a 0 = hs b 0 ∧ hs a 1 = hs b 1 ∧ hs a 2 = hs b 2 ∧ hs a 3 = hs b 3) → a = b := by decide +kernel
theorem hs_eq {a b : Nat} (ha : a < 16) (hb : b < 16) (h : ∀ k, k < 4 → hs a k = hs b k) : a = b := hs_ext a ha b hb ⟨h 0 (by omega), h 1 (by omega), h 2 (by omega), h 3 (by omega)⟩
theorem anN_bits : ∀ f : Nat, f < 16 → ∀ s : Nat, s < 16 → ∀ k : Nat, k < 4 → hs (anN f s) k = (hs f k && !hs s k) := by decide +kernel
theorem sub_bits : ∀ s : Nat, s < 16 → ∀ f : Nat, f < 16 → anN s f = 0 → ∀ k : Nat, k < 4 → hs s k = true → hs f k = true := by decide +kernel
theorem bits_sub0 : ∀ s : Nat, s < 16 → ∀ f : Nat, f < 16 → ((hs s 0 = true → hs f 0 = true) ∧ (hs s 1 = true → hs f 1 = true) ∧ (hs s 2 = true → hs f 2 = true) ∧ (hs s 3 = true → hs f 3 = true)) → anN s f = 0 := by decide +kernel
theorem bits_sub {s f : Nat} (hs' : s < 16) (hf : f < 16) (h : ∀ k, k < 4 → hs s k = true → hs f k = true) : anN s f = 0 := bits_sub0 s hs' f hf ⟨h 0 (by omega), h 1 (by omega), h 2 (by omega), h 3 (by omega)⟩
theorem bs_lt16 {p : Nat → Bool} {it : Nat} (h : it ≤ 4) : bs p it < 16 := Nat.lt_of_lt_of_le (bs_lt p it) (pow_le h)
theorem bs_all : ∀ it, bs (fun _ => true) it = 2 ^ it - 1 := by
  intro it
  induction it with
  | zero => rfl
  | succ n ih =>
    rw [bs, if_pos rfl, ih, Nat.pow_succ]
    have := Nat.two_pow_pos n
    omega
/-- Whose things make one's set. -/
def sB (o : Nat → Int) (i : Int) (it : Nat) : Nat := bs (fun k => decide (o k = i)) it
def setsL (o : Nat → Int) (n it : Nat) : List Int := (List.range n).map (fun i : Nat => ((sB o (i : Int) it : Nat) : Int))
/-- The sets of those from c on. -/
def setsC (o : Nat → Int) (it c : Nat) : Nat → List Int
  | 0 => []
  | n + 1 => ((sB o (c : Int) it : Nat) : Int) :: setsC o it (c + 1) n
theorem setsC_eq (o : Nat → Int) (it : Nat) : ∀ n c, setsC o it c n = (List.range n).map (fun i : Nat => ((sB o ((c + i : Nat) : Int) it : Nat) : Int)) := by
  intro n
  induction n with
  | zero => intro c; rfl
  | succ n ih =>
    intro c
    rw [setsC, ih (c + 1), List.range_succ_eq_map, List.map_cons, List.map_map]
    congr 1
    apply List.map_congr_left
    intro i _
    show ((sB o ((c + 1 + i : Nat) : Int) it : Nat) : Int) = ((sB o ((c + (i + 1) : Nat) : Int) it : Nat) : Int)
    rw [show c + 1 + i = c + (i + 1) by omega]
theorem setsL_eq (o : Nat → Int) (n it : Nat) : setsL o n it = setsC o it 0 n := by
  rw [setsC_eq]
  unfold setsL
  apply List.map_congr_left
  intro i _
  rw [Nat.zero_add]
/-- What is free for those from c on. -/
def frN (o : Nat → Int) (it c : Nat) : Nat := bs (fun k => !decide (0 ≤ o k ∧ o k < (c : Int))) it
theorem alc_of {o : Nat → Int} {it : Nat} (hit : it ≤ 4) : ∀ (ws : List (Nat → Int)) (c : Nat), Alc ws (frN o it c) (setsC o it c ws.length) := by
  intro ws
  induction ws with
  | nil => intro c; rfl
  | cons w ws ih =>
    intro c
    refine ⟨sB o (c : Int) it, setsC o it (c + 1) ws.length, rfl, ?_, ?_⟩
    · refine bits_sub (bs_lt16 hit) (bs_lt16 hit) (fun k hk h => ?_)
      unfold sB at h
      rw [bs_bit hit hk] at h
      unfold frN
      rw [bs_bit hit hk]
      simp only [Bool.and_eq_true, decide_eq_true_eq] at h
      obtain ⟨h1, h2⟩ := h
      rw [decide_eq_true h1, decide_eq_false (by omega)]
      rfl
    · have e : anN (frN o it c) (sB o (c : Int) it) = frN o it (c + 1) := by
        refine hs_eq (Nat.lt_of_le_of_lt (anN_le _ _) (bs_lt16 hit)) (bs_lt16 hit) (fun k hk => ?_)
        rw [anN_bits (frN o it c) (bs_lt16 hit) (sB o (c : Int) it) (bs_lt16 hit) k hk]
        unfold frN sB
        rw [bs_bit hit hk, bs_bit hit hk, bs_bit hit hk]
        by_cases h1 : k < it
        · rw [decide_eq_true h1]
          simp only [Bool.true_and]
          by_cases h2 : 0 ≤ o k ∧ o k < (c : Int)
          · rw [decide_eq_true h2, decide_eq_true (show 0 ≤ o k ∧ o k < ((c + 1 : Nat) : Int) by omega)]; rfl
          · by_cases h3 : o k = (c : Int)
            · rw [decide_eq_false h2, decide_eq_true h3, decide_eq_true (show 0 ≤ o k ∧ o k < ((c + 1 : Nat) : Int) by omega)]; rfl
            · rw [decide_eq_false h2, decide_eq_false h3, decide_eq_false (show ¬ (0 ≤ o k ∧ o k < ((c + 1 : Nat) : Int)) by omega)]; rfl
        · rw [decide_eq_false h1]; rfl
      rw [e]
      exact ih (c + 1)
theorem frN_zero (o : Nat → Int) (it : Nat) : frN o it 0 = 2 ^ it - 1 := by
  rw [← bs_all]
  exact bs_congr it (fun k _ => by rw [decide_eq_false (by omega)]; rfl)
/-- Every way to own things is a way to give sets. -/
theorem own_alc {o : Nat → Int} {it : Nat} (hit : it ≤ 4) (ws : List (Nat → Int)) : Alc ws (2 ^ it - 1) (setsL o ws.length it) := by
  rw [setsL_eq, ← frN_zero o it]
  exact alc_of hit ws 0
/-- Who owns a thing, as sets are given. -/
def ow : List Int → Nat → Int
  | [], _ => -1
  | s :: l, k => if hs s.toNat k = true then 0 else if ow l k < 0 then -1 else ow l k + 1
theorem ow_rng : ∀ (l : List Int) (k : Nat), -1 ≤ ow l k ∧ ow l k < l.length := by
  intro l k
  induction l with
  | nil => exact ⟨Int.le_refl _, by show (-1 : Int) < 0; omega⟩
  | cons s l ih =>
    rw [ow, List.length_cons]
    by_cases h : hs s.toNat k = true
    · rw [if_pos h]; omega
    · rw [if_neg h]
      by_cases h2 : ow l k < 0
      · rw [if_pos h2]; omega
      · rw [if_neg h2]; omega
theorem ow_free {ws : List (Nat → Int)} : ∀ {free : Nat} {l : List Int}, Alc ws free l → free < 16 → ∀ k, k < 4 → 0 ≤ ow l k → hs free k = true := by
  induction ws with
  | nil => intro free l h _ k _ h0; rw [show l = [] from h] at h0; exact absurd h0 (by show ¬ (0 : Int) ≤ -1; omega)
  | cons w ws ih =>
    intro free l h hf k hk h0
    obtain ⟨s, l', rfl, hz, hA⟩ := h
    have hs16 : s < 16 := by
      unfold anN at hz
      have h1 : s &&& free ≤ free := Nat.and_le_right
      omega
    rw [ow, Int.toNat_natCast] at h0
    by_cases h1 : hs s k = true
    · exact sub_bits s hs16 free hf hz k hk h1
    · rw [if_neg h1] at h0
      by_cases h2 : ow l' k < 0
      · rw [if_pos h2] at h0; omega
      · have := ih hA (Nat.lt_of_le_of_lt (anN_le _ _) hf) k hk (by omega)
        rw [anN_bits free hf s hs16 k hk] at this
        exact (Bool.and_eq_true _ _ ▸ this).1
/-- .. counted from c on. -/
def owc (l : List Int) (c : Nat) (k : Nat) : Int := if ow l k < 0 then -1 else ow l k + (c : Int)
theorem owc_neg {l : List Int} {c k : Nat} (h : ow l k < 0) : owc l c k = -1 := if_pos h
theorem owc_pos {l : List Int} {c k : Nat} (h : ¬ ow l k < 0) : owc l c k = ow l k + (c : Int) := if_neg h
/-- Every way to give sets is a way to own things. -/
theorem alc_own {it : Nat} (hit : it ≤ 4) {ws : List (Nat → Int)} : ∀ {free : Nat} {l : List Int} (c : Nat), Alc ws free l → free < 16 → (∀ k, k < 4 → hs free k = true → k < it) → l = setsC (owc l c) it c ws.length := by
  induction ws with
  | nil => intro free l c h _ _; rw [show l = [] from h]; rfl
  | cons w ws ih =>
    intro free l c h hf hb
    obtain ⟨s, l', rfl, hz, hA⟩ := h
    have hs16 : s < 16 := by
      unfold anN at hz
      have h1 : s &&& free ≤ free := Nat.and_le_right
      omega
    have hf' : anN free s < 16 := Nat.lt_of_le_of_lt (anN_le _ _) hf
    have hb' : ∀ k, k < 4 → hs (anN free s) k = true → k < it := fun k hk h => by
      rw [anN_bits free hf s hs16 k hk] at h
      exact hb k hk (Bool.and_eq_true _ _ ▸ h).1
    have i1 := ih (c + 1) hA hf' hb'
    rw [List.length_cons, setsC]
    congr 1
    · have e : s = sB (owc ((s : Int) :: l') c) (c : Int) it := by
        refine hs_eq hs16 (bs_lt16 hit) (fun k hk => ?_)
        unfold sB
        rw [bs_bit hit hk]
        have hr := ow_rng l' k
        by_cases h1 : hs s k = true
        · have hk2 := hb k hk (sub_bits s hs16 free hf hz k hk h1)
          have e0 : ow ((s : Int) :: l') k = 0 := by rw [ow, Int.toNat_natCast, if_pos h1]
          have e1 : owc ((s : Int) :: l') c k = (c : Int) := by rw [owc_pos (by omega), e0]; omega
          rw [h1, decide_eq_true hk2, e1, decide_eq_true rfl]; rfl
        · have e0 : ow ((s : Int) :: l') k ≠ 0 := by
            rw [ow, Int.toNat_natCast, if_neg h1]
            by_cases h2 : ow l' k < 0
            · rw [if_pos h2]; omega
            · rw [if_neg h2]; omega
          have h1' : hs s k = false := by simpa using h1
          have e1 : owc ((s : Int) :: l') c k ≠ (c : Int) := by
            by_cases h2 : ow ((s : Int) :: l') k < 0
            · rw [owc_neg h2]; omega
            · rw [owc_pos h2]; omega
          rw [h1', decide_eq_false e1, Bool.and_false]
      exact congrArg Int.ofNat e
    · refine i1.trans ?_
      rw [setsC_eq, setsC_eq]
      apply List.map_congr_left
      intro i _
      have e : sB (owc l' (c + 1)) ((c + 1 + i : Nat) : Int) it = sB (owc ((s : Int) :: l') c) ((c + 1 + i : Nat) : Int) it := by
        unfold sB
        refine bs_congr it (fun k hk => ?_)
        have hr := ow_rng l' k
        by_cases h2 : ow l' k < 0
        · rw [owc_neg h2]
          by_cases h1 : hs s k = true
          · have e0 : ow ((s : Int) :: l') k = 0 := by rw [ow, Int.toNat_natCast, if_pos h1]
            rw [owc_pos (l := (s : Int) :: l') (by omega), e0, decide_eq_false (by omega), decide_eq_false (by omega)]
          · have e0 : ow ((s : Int) :: l') k = -1 := by rw [ow, Int.toNat_natCast, if_neg h1, if_pos h2]
            rw [owc_neg (l := (s : Int) :: l') (by omega)]
        · have hk4 : k < 4 := by omega
          have h3 := ow_free hA hf' k hk4 (by omega)
          rw [anN_bits free hf s hs16 k hk4] at h3
          have h1 : hs s k = false := by
            have := (Bool.and_eq_true _ _ ▸ h3).2
            simpa using this
          have e0 : ow ((s : Int) :: l') k = ow l' k + 1 := by rw [ow, Int.toNat_natCast, if_neg (by simp [h1]), if_neg h2]
          have e1 : owc l' (c + 1) k = owc ((s : Int) :: l') c k := by
            rw [owc_pos h2, owc_pos (l := (s : Int) :: l') (by omega), e0]
            omega
          rw [e1]
      rw [e]
end Go.Proofs.Ytaaikaeknealkaa
