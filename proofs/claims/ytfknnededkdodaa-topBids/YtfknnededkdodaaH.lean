import Derived.Test.YtfknnededkdodaaG
namespace Go.Proofs.Ytfknnededkdodaa
open Go.RowKit
/-- Is one in a set? -/
def hs (s i : Nat) : Bool := decide (s / 2 ^ i % 2 = 1)
theorem and_one : ∀ x : Nat, x < 16 → (bits BinOp.and IntKind.i64 (x : Int) 1 == 1) = decide (x % 2 = 1) := by decide +kernel
theorem has_any (s i : Nat) (hs' : s < 16) (hi : i < 4) (w : World) :
    Calls Try.prog 25 #[.int .i64 s, .int .i64 i] w fun e w' => e = .returned (.bool (hs s i)) ∧ w' = w := by
  have H : Hid ((bits BinOp.and IntKind.i64 ((s : Int) / 2 ^ i) 1 == 1) = hs s i) := by
    have h := and_one (s / 2 ^ i) (Nat.lt_of_le_of_lt (Nat.div_le_self _ _) hs')
    have e : ((s / 2 ^ i : Nat) : Int) = (s : Int) / 2 ^ i := by simp
    rw [e] at h
    exact h
  go_enter Try.func25, Try.ntmps25
  go_wp2
  go_ret
  exact ⟨ret_bool (unhide H), rfl⟩
/-- The sum of the bids of a set. -/
def tg (v : Nat → Int) (s : Nat) : Nat → Int
  | 0 => 0
  | k + 1 => tg v s k + (if hs s k = true then v k else 0)
theorem tg_yes {v : Nat → Int} {s k : Nat} (h : hs s k = true) : tg v s (k + 1) = tg v s k + v k := by rw [tg, if_pos h]
theorem tg_no {v : Nat → Int} {s k : Nat} (h : hs s k = false) : tg v s (k + 1) = tg v s k := by rw [tg, if_neg (by simp [h]), Int.add_zero]
theorem tg_le {v : Nat → Int} {s n : Nat} (h : Bl n v) : ∀ k, k ≤ n → 0 ≤ tg v s k ∧ tg v s k ≤ 1000 * k := by
  intro k
  induction k with
  | zero => intro _; simp [tg]
  | succ k ih =>
    intro hk
    have h1 := ih (by omega)
    have h2 := h k (by omega)
    cases hh : hs s k
    · rw [tg_no hh]; omega
    · rw [tg_yes hh]; omega
theorem tg_congr {v v' : Nat → Int} {s n : Nat} (h : ∀ j, j < n → v j = v' j) : tg v s n = tg v' s n := by
  induction n with
  | zero => rfl
  | succ n ih => rw [tg, tg, ih (fun j hj => h j (by omega)), h n (by omega)]
set_option maxHeartbeats 1000000 in
theorem together_any (a : Option Addr) (n c : Nat) (l : List Int) (s : Nat) (w : World) (h : Ints w a n c l) (hn1 : 1 ≤ n) (hn4 : n ≤ 4) (hB : Bl n (nth l)) (hs' : s < 16) :
    Calls Try.prog 27 #[.slice a n c, .int .i64 s] w fun e w' => e = .returned (.int .i64 (tg (nth l) s n)) ∧ w' = w := by
  have h1 := h.2.1
  have h2 := h.2.2.1
  unfold maxLen at h2
  obtain ⟨b, off, rfl, hb, hcell⟩ := h.nth hn1
  have HC := hide hcell
  have HB := hide hB
  clear h hcell hB
  generalize nth l = v at *
  have HL := hide (fun k hk => tg_le (s := s) (unhide HB) k hk)
  go_enter Try.func27, Try.ntmps27
  go_wp2
  go_loop [10, 5, 6, 7] (fun i m _ _ => ∃ (k : Nat), k ≤ n ∧ i = .int .i64 k ∧ m = .int .i64 (tg v s k)) (fun i _ _ _ => n - (intOf i).toNat)
  case atStart => exact ⟨0, Nat.zero_le _, rfl, rfl⟩
  case round =>
    obtain ⟨k, hk, rfl, rfl⟩ := hrel
    by_cases hlt : k < n
    · have hck := unhide HC k hlt
      have CH := hide (has_any s k hs' (by omega) w)
      have h0 := unhide HL k hk
      have hv := unhide HB k hlt
      cases hh : hs s k
      · have HT := hide (tg_no (v := v) hh)
        rw [hh] at CH
        generalize tg v s k = x at *
        generalize v k = y at *
        go_wp2_with fail
        refine (unhide CH).mono ?_
        rintro e w2 ⟨rfl, hw2⟩
        subst w2
        go_wp2
        exact ⟨⟨k+1, by omega, by go_num, by rw [unhide HT]⟩, by simp [intOf]; omega⟩
      · have HT := hide (tg_yes (v := v) hh)
        rw [hh] at CH
        generalize tg v s k = x at *
        generalize v k = y at *
        go_wp2_with fail
        refine (unhide CH).mono ?_
        rintro e w2 ⟨rfl, hw2⟩
        subst w2
        go_wp2
        exact ⟨⟨k+1, by omega, by go_num, by rw [unhide HT]⟩, by simp [intOf]; omega⟩
    · obtain rfl : n = k := by omega
      go_wp2
      go_ret
      exact ⟨rfl, rfl⟩
/-- The most of the first k sets, and the first set that has it. -/
def wS (v : Nat → Int) (n : Nat) (S : Nat → Nat) : Nat → Int × Nat
  | 0 => (-1, 0)
  | k + 1 => if (wS v n S k).1 < tg v (S k) n then (tg v (S k) n, S k) else wS v n S k
theorem wS_yes {v : Nat → Int} {n : Nat} {S : Nat → Nat} {k : Nat} (h : (wS v n S k).1 < tg v (S k) n) : wS v n S (k + 1) = (tg v (S k) n, S k) := by rw [wS, if_pos h]
theorem wS_no {v : Nat → Int} {n : Nat} {S : Nat → Nat} {k : Nat} (h : ¬ (wS v n S k).1 < tg v (S k) n) : wS v n S (k + 1) = wS v n S k := by rw [wS, if_neg h]
theorem wS_congr {v v' : Nat → Int} {n : Nat} {S : Nat → Nat} (h : ∀ j, j < n → v j = v' j) : ∀ k, wS v n S k = wS v' n S k := by
  intro k
  induction k with
  | zero => rfl
  | succ k ih => rw [wS, wS, ih, tg_congr h]
theorem wS_le {v : Nat → Int} {n : Nat} {S : Nat → Nat} (h : Bl n v) (hn : n ≤ 4) : ∀ k, -1 ≤ (wS v n S k).1 ∧ (wS v n S k).1 ≤ 4000 := by
  intro k
  induction k with
  | zero => exact ⟨Int.le_refl _, by show (-1 : Int) ≤ 4000; omega⟩
  | succ k ih =>
    have := tg_le (s := S k) h n (Nat.le_refl _)
    by_cases e : (wS v n S k).1 < tg v (S k) n
    · rw [wS_yes e]
      show -1 ≤ tg v (S k) n ∧ tg v (S k) n ≤ 4000
      omega
    · rw [wS_no e]; exact ih
theorem wS_lt {v : Nat → Int} {n m : Nat} {S : Nat → Nat} (h : ∀ j, j < m → S j < 2 ^ n) : ∀ k, k ≤ m → (wS v n S k).2 < 2 ^ n := by
  intro k
  induction k with
  | zero => intro _; exact Nat.two_pow_pos n
  | succ k ih =>
    intro hk
    by_cases e : (wS v n S k).1 < tg v (S k) n
    · rw [wS_yes e]; exact h k (by omega)
    · rw [wS_no e]; exact ih (by omega)
/-- Sets of bidders that may be. -/
def Sts (n m : Nat) (sl : List Int) : Prop := 1 ≤ m ∧ m ≤ 16 ∧ ∀ j, j < m → 0 ≤ nth sl j ∧ nth sl j < 2 ^ n
def sN (sl : List Int) (j : Nat) : Nat := (nth sl j).toNat
theorem Sts.nat {n m : Nat} {sl : List Int} (h : Sts n m sl) {j : Nat} (hj : j < m) : nth sl j = ((sN sl j : Nat) : Int) ∧ sN sl j < 2 ^ n := by
  have := h.2.2 j hj
  unfold sN
  refine ⟨by omega, ?_⟩
  have h2 : ((nth sl j).toNat : Int) < ((2 ^ n : Nat) : Int) := by
    rw [Int.toNat_of_nonneg this.1]
    simpa using this.2
  exact Int.ofNat_lt.1 h2
theorem pow_le {n : Nat} (h : n ≤ 4) : 2 ^ n ≤ 16 := Nat.pow_le_pow_right (n := 2) (by omega) h
set_option maxHeartbeats 1000000 in
theorem wins_any (a : Option Addr) (n c : Nat) (l : List Int) (sa : Option Addr) (m sc : Nat) (sl : List Int) (w : World) (h : Ints w a n c l) (hS : Ints w sa m sc sl) (hn1 : 1 ≤ n) (hn4 : n ≤ 4) (hB : Bl n (nth l)) (hT : Sts n m sl) :
    Calls Try.prog 24 #[.slice a n c, .slice sa m sc] w fun e w' => e = .returned (.int .i64 (wS (nth l) n (sN sl) m).2) ∧ w' = w := by
  have h1 := hS.2.1
  have h2 := hS.2.2.1
  unfold maxLen at h2
  have hm1 := hT.1
  have hm16 := hT.2.1
  obtain ⟨b, off, rfl, hb, hcell⟩ := hS.nth hm1
  have HC : Hid (∀ j, j < m → w.cell? ⟨b, off + j, none⟩ = some (.int .i64 ((sN sl j : Nat) : Int))) := fun j hj => by rw [hcell j hj, (hT.nat hj).1]
  have HT := hide (fun j hj => Nat.lt_of_lt_of_le (hT.nat (j := j) hj).2 (pow_le hn4))
  have HG := hide (fun s hs' => together_any a n c l s w h hn1 hn4 hB hs')
  have HB := hide hB
  have HL := hide (wS_le (S := sN sl) hB hn4)
  have HU := hide (fun s => tg_le (s := s) hB n (Nat.le_refl _))
  clear h hS hcell hB hT
  generalize nth l = v at *
  generalize sN sl = S at *
  go_enter Try.func24, Try.ntmps24
  go_wp2
  go_loop [12, 5, 6, 8, 9] (fun i x y _ _ => ∃ (k : Nat), k ≤ m ∧ i = .int .i64 k ∧ x = .int .i64 (wS v n S k).1 ∧ y = .int .i64 (wS v n S k).2) (fun i _ _ _ _ => m - (intOf i).toNat)
  case atStart => exact ⟨0, Nat.zero_le _, rfl, rfl, rfl⟩
  case round =>
    obtain ⟨k, hk, rfl, rfl, rfl⟩ := hrel
    by_cases hlt : k < m
    · have hck := unhide HC k hlt
      have CH := hide (unhide HG (S k) (unhide HT k hlt))
      have h0 := unhide HL k
      have hU := unhide HU (S k)
      have HY := hide (fun p => wS_yes (v := v) (n := n) (S := S) (k := k) p)
      have HN := hide (fun p => wS_no (v := v) (n := n) (S := S) (k := k) p)
      obtain ⟨Y, hY⟩ : ∃ Y, Y = wS v n S (k + 1) := ⟨_, rfl⟩
      rw [← hY] at HY HN
      have HYe := hide hY
      clear hY
      generalize wS v n S k = X at *
      obtain ⟨x1, x2⟩ := X
      generalize S k = sk at *
      generalize tg v sk n = t at *
      simp only at h0 HY HN ⊢
      by_cases e : x1 < t
      · have e2 := unhide HY e
        subst e2
        go_wp2_with fail
        refine (unhide CH).mono ?_
        rintro e w2 ⟨rfl, hw2⟩
        subst w2
        go_wp2
        exact ⟨⟨k+1, by omega, by go_num, by rw [← unhide HYe], by rw [← unhide HYe]⟩, by simp [intOf]; omega⟩
      · have e2 := unhide HN e
        subst e2
        go_wp2_with fail
        refine (unhide CH).mono ?_
        rintro e w2 ⟨rfl, hw2⟩
        subst w2
        go_wp2
        exact ⟨⟨k+1, by omega, by go_num, by rw [← unhide HYe], by rw [← unhide HYe]⟩, by simp [intOf]; omega⟩
    · obtain rfl : m = k := by omega
      go_wp2
      go_ret
      exact ⟨rfl, rfl⟩
end Go.Proofs.Ytfknnededkdodaa
