import Derived.Test.YtloandcndnmkhaaX
import Derived.Test.YtloandcndnmkhaaJ
import Derived.Test.YtloandcndnmkhaaT
namespace Go.Proofs.Ytloandcndnmkhaa
theorem dom_walk {p : Nat → Nat → Int} {n L : Nat} {s : Int} (hd : Dom p n L) (hs : 0 < s) : ∀ m u v, u < n → Walk p n s m u v → L.testBit u = false → L.testBit v = false := by
  intro m
  induction m with
  | zero => intro u v _ h hu; have e : u = v := h; rw [← e]; exact hu
  | succ m ih =>
    intro u v hun ⟨z, hz, h1, h2⟩ hu
    obtain ⟨_, a2, _⟩ := st0_pos hs h1
    refine ih z v hz h2 ?_
    cases hb : L.testBit z with
    | false => rfl
    | true => have := hd z u hz hun hb hu; omega
theorem sch_in {p : Nat → Nat → Int} {n L : Nat} (h0 : ∀ x y, 0 ≤ p x y) (hd : Dom p n L) (hL : 0 < L) (hLn : L < 2 ^ n) {k : Nat} (hk : k < n) (hw : ∀ j, j < n → fw p n j k ≤ fw p n k j) : L.testBit k = true := by
  cases hb : L.testBit k with
  | true => rfl
  | false =>
    exfalso
    obtain ⟨x, hx⟩ : ∃ x, L.testBit x = true := by
      apply Classical.byContradiction
      intro hno
      have : L = 0 := Nat.eq_of_testBit_eq fun i => by
        rw [Nat.zero_testBit]
        cases hi : L.testBit i with
        | false => rfl
        | true => exact absurd ⟨i, hi⟩ hno
      omega
    have hxn : x < n := by
      rcases Nat.lt_or_ge x n with h | h
      · exact h
      · have h2 : L < 2 ^ x := Nat.lt_of_lt_of_le hLn (Nat.pow_le_pow_right (by omega) h)
        rw [Nat.testBit_lt_two_pow h2] at hx; cases hx
    have h1 := hd x k hxn hk hx hb
    have h2 := fw_mono (p := p) n x k
    have h3 : st0 p x k = p x k := by unfold st0; rw [if_pos h1]
    have h4 := h0 k x
    have h5 := hw x hxn
    have hs : 0 < fw p n k x := by omega
    obtain ⟨m, hm⟩ := fw_walk (p := p) (n := n) hs n k x (Nat.le_refl _) hxn (Int.le_refl _)
    have := dom_walk hd hs m k x hk hm hb
    rw [hx] at this
    cases this
theorem pc_one : ∀ L : Nat, L < 64 → 0 < L → pc L ≤ 1 → ∃ j, j < 6 ∧ L = 2 ^ j := by decide +kernel
theorem pc_pow : ∀ k : Nat, k < 6 → pc (2 ^ k) = 1 := by decide +kernel
theorem sm_pow : ∀ n : Nat, n < 7 → ∀ k : Nat, k < n → smL (2 ^ k) n = [(k : Int)] := by decide +kernel
theorem bit_pow : ∀ k : Nat, k < 6 → ∀ j : Nat, j < 6 → ((2 ^ k).testBit j = true ↔ j = k) := by decide +kernel
theorem least_one {p : Nat → Nat → Int} {n k L : Nat} (hn : n ≤ 6) (hk : k < n) (hd : Dom p n (2 ^ k)) (hL : LeastP p n L) : L = 2 ^ k := by
  obtain ⟨h1, h2, h3, h4⟩ := hL
  have h64 : 2 ^ n ≤ 64 := (pow_small n hn).2.1
  have h5 := h4 (2 ^ k) (Nat.two_pow_pos k) (Nat.pow_lt_pow_right (by omega) hk) hd
  rw [pc_pow k (by omega)] at h5
  obtain ⟨j, hj, rfl⟩ := pc_one L (by omega) h2 h5
  have hjn : j < n := (Nat.pow_lt_pow_iff_right (by omega : 1 < 2)).1 h3
  by_cases e : j = k
  · rw [e]
  · exfalso
    have b1 : (2 ^ k).testBit k = true := (bit_pow k (by omega) k (by omega)).2 rfl
    have b2 : (2 ^ j).testBit j = true := (bit_pow j hj j hj).2 rfl
    have b3 : (2 ^ k).testBit j = false := by
      cases hb : (2 ^ k).testBit j with
      | false => rfl
      | true => exact absurd ((bit_pow k (by omega) j hj).1 hb) e
    have b4 : (2 ^ j).testBit k = false := by
      cases hb : (2 ^ j).testBit k with
      | false => rfl
      | true => exact absurd ((bit_pow j hj k (by omega)).1 hb).symm e
    have c1 := hd k j hk hjn b1 b3
    have c2 := h1 j k hjn hk b2 b4
    omega
theorem sch_one {d : Nat → Nat → Int} {n k : Nat} (h : ∀ i, i < n → (stB d i n = true → i = k)) (hk : stB d k n = true) : ∀ m, m ≤ n → schL d n m = if k < m then [(k : Int)] else [] := by
  intro m
  induction m with
  | zero => intro _; rfl
  | succ m ih =>
    intro hm
    have := ih (by omega)
    unfold schL
    by_cases c : stB d m n = true
    · have e := h m (by omega) c
      subst e
      rw [if_pos c, this, if_neg (by omega), if_pos (by omega)]
      rfl
    · rw [if_neg c, this]
      by_cases c2 : k < m
      · rw [if_pos c2, if_pos (by omega)]
      · have hne : ¬ k < m + 1 := fun h2 => c (by
          have e : k = m := by omega
          rw [← e]; exact hk)
        rw [if_neg c2, if_neg hne]
theorem ag_swap {p : Nat → Nat → Int} {o o' : List Int} {n a : Nat} (hn : n ≤ 6) (ha : a + 1 < n) (h1 : oN o' a = oN o (a + 1)) (h2 : oN o' (a + 1) = oN o a) (h3 : ∀ j, j < n → j ≠ a → j ≠ a + 1 → oN o' j = oN o j) :
    agS p o' n n + p (oN o (a + 1)) (oN o a) = agS p o n n + p (oN o a) (oN o (a + 1)) := by
  rcases (show n = 2 ∨ n = 3 ∨ n = 4 ∨ n = 5 ∨ n = 6 by omega) with rfl | rfl | rfl | rfl | rfl
  · rcases (show a = 0 by omega) with rfl
    simp [agS, agR, h1, h2]; omega
  · rcases (show a = 0 ∨ a = 1 by omega) with rfl | rfl
    · have e2 := h3 2 (by omega) (by omega) (by omega)
      simp [agS, agR] at h1 h2 ⊢; simp only [h1, h2, e2]; omega
    · have e0 := h3 0 (by omega) (by omega) (by omega)
      simp [agS, agR] at h1 h2 ⊢; simp only [h1, h2, e0]; omega
  · rcases (show a = 0 ∨ a = 1 ∨ a = 2 by omega) with rfl | rfl | rfl
    · have e2 := h3 2 (by omega) (by omega) (by omega)
      have e3 := h3 3 (by omega) (by omega) (by omega)
      simp [agS, agR] at h1 h2 ⊢; simp only [h1, h2, e2, e3]; omega
    · have e0 := h3 0 (by omega) (by omega) (by omega)
      have e3 := h3 3 (by omega) (by omega) (by omega)
      simp [agS, agR] at h1 h2 ⊢; simp only [h1, h2, e0, e3]; omega
    · have e0 := h3 0 (by omega) (by omega) (by omega)
      have e1 := h3 1 (by omega) (by omega) (by omega)
      simp [agS, agR] at h1 h2 ⊢; simp only [h1, h2, e0, e1]; omega
  · rcases (show a = 0 ∨ a = 1 ∨ a = 2 ∨ a = 3 by omega) with rfl | rfl | rfl | rfl
    · have e2 := h3 2 (by omega) (by omega) (by omega)
      have e3 := h3 3 (by omega) (by omega) (by omega)
      have e4 := h3 4 (by omega) (by omega) (by omega)
      simp [agS, agR] at h1 h2 ⊢; simp only [h1, h2, e2, e3, e4]; omega
    · have e0 := h3 0 (by omega) (by omega) (by omega)
      have e3 := h3 3 (by omega) (by omega) (by omega)
      have e4 := h3 4 (by omega) (by omega) (by omega)
      simp [agS, agR] at h1 h2 ⊢; simp only [h1, h2, e0, e3, e4]; omega
    · have e0 := h3 0 (by omega) (by omega) (by omega)
      have e1 := h3 1 (by omega) (by omega) (by omega)
      have e4 := h3 4 (by omega) (by omega) (by omega)
      simp [agS, agR] at h1 h2 ⊢; simp only [h1, h2, e0, e1, e4]; omega
    · have e0 := h3 0 (by omega) (by omega) (by omega)
      have e1 := h3 1 (by omega) (by omega) (by omega)
      have e2 := h3 2 (by omega) (by omega) (by omega)
      simp [agS, agR] at h1 h2 ⊢; simp only [h1, h2, e0, e1, e2]; omega
  · rcases (show a = 0 ∨ a = 1 ∨ a = 2 ∨ a = 3 ∨ a = 4 by omega) with rfl | rfl | rfl | rfl | rfl
    · have e2 := h3 2 (by omega) (by omega) (by omega)
      have e3 := h3 3 (by omega) (by omega) (by omega)
      have e4 := h3 4 (by omega) (by omega) (by omega)
      have e5 := h3 5 (by omega) (by omega) (by omega)
      simp [agS, agR] at h1 h2 ⊢; simp only [h1, h2, e2, e3, e4, e5]; omega
    · have e0 := h3 0 (by omega) (by omega) (by omega)
      have e3 := h3 3 (by omega) (by omega) (by omega)
      have e4 := h3 4 (by omega) (by omega) (by omega)
      have e5 := h3 5 (by omega) (by omega) (by omega)
      simp [agS, agR] at h1 h2 ⊢; simp only [h1, h2, e0, e3, e4, e5]; omega
    · have e0 := h3 0 (by omega) (by omega) (by omega)
      have e1 := h3 1 (by omega) (by omega) (by omega)
      have e4 := h3 4 (by omega) (by omega) (by omega)
      have e5 := h3 5 (by omega) (by omega) (by omega)
      simp [agS, agR] at h1 h2 ⊢; simp only [h1, h2, e0, e1, e4, e5]; omega
    · have e0 := h3 0 (by omega) (by omega) (by omega)
      have e1 := h3 1 (by omega) (by omega) (by omega)
      have e2 := h3 2 (by omega) (by omega) (by omega)
      have e5 := h3 5 (by omega) (by omega) (by omega)
      simp [agS, agR] at h1 h2 ⊢; simp only [h1, h2, e0, e1, e2, e5]; omega
    · have e0 := h3 0 (by omega) (by omega) (by omega)
      have e1 := h3 1 (by omega) (by omega) (by omega)
      have e2 := h3 2 (by omega) (by omega) (by omega)
      have e3 := h3 3 (by omega) (by omega) (by omega)
      simp [agS, agR] at h1 h2 ⊢; simp only [h1, h2, e0, e1, e2, e3]; omega
/-- Who beats all others stands first in every order that is spoken against the least. -/
theorem kem_first {p : Nat → Nat → Int} {n k : Nat} {q : List Int} (hn : n ≤ 6) (hk : k < n) (hd : Dom p n (2 ^ k)) (hq : ordE q n = 0) (hm : ∀ o, ordE o n = 0 → agS p q n n ≤ agS p o n n)   : q[0]?.getD 0 = (k : Int) := by
  obtain ⟨a, a1, a2, a3⟩ := ord_place hq hk
  by_cases e : a = 0
  · subst e; exact a3
  · exfalso
    have hlen := ord_len hq
    have ho := r_ord hq hk (t := a - 1) a2 (by omega)
    have hle := hm _ ho
    have hat : ∀ j, j < n → oN (rL q k a (a - 1) n) j = (rAt q k a (a - 1) j).toNat := fun j hj => by unfold oN; rw [rL_at _ _ _ _ hj]
    have hk2 : oN q a = k := by unfold oN; rw [a3]; exact Int.toNat_natCast k
    have s1 : oN (rL q k a (a - 1) n) (a - 1) = oN q (a - 1 + 1) := by
      rw [hat _ (by omega), show a - 1 + 1 = a by omega, hk2]
      unfold rAt
      rw [if_neg (by omega), if_pos rfl]
      exact Int.toNat_natCast k
    have s2 : oN (rL q k a (a - 1) n) (a - 1 + 1) = oN q (a - 1) := by
      rw [show a - 1 + 1 = a by omega, hat _ a1]
      unfold rAt oN
      rw [if_neg (by omega), if_neg (by omega), if_pos (by omega)]
    have s3 : ∀ j, j < n → j ≠ a - 1 → j ≠ a - 1 + 1 → oN (rL q k a (a - 1) n) j = oN q j := fun j hj h1 h2 => by
      rw [hat j hj]
      unfold rAt oN
      by_cases c : j < a - 1
      · rw [if_pos c]
      · rw [if_neg c, if_neg h1, if_neg (by omega)]
    have hsw := ag_swap (p := p) hn (by omega) s1 s2 s3
    rw [show a - 1 + 1 = a by omega, hk2] at hsw
    obtain ⟨y, y1, y2, y3⟩ := ord_at hq (show a - 1 < n by omega)
    have hy : oN q (a - 1) = y := by unfold oN; rw [y2]; exact Int.toNat_natCast y
    rw [hy] at hsw
    have hyk : y ≠ k := fun e2 => by subst e2; omega
    have b1 : (2 ^ k).testBit k = true := (bit_pow k (by omega) k (by omega)).2 rfl
    have b3 : (2 ^ k).testBit y = false := by
      cases hb : (2 ^ k).testBit y with
      | false => rfl
      | true => exact absurd ((bit_pow k (by omega) y (by omega)).1 hb) hyk
    have := hd k y hk y1 b1 b3
    omega
end Go.Proofs.Ytloandcndnmkhaa
