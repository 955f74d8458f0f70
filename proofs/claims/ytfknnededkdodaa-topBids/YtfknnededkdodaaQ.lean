import Derived.Test.YtfknnededkdodaaM
namespace Go.Proofs.Ytfknnededkdodaa
open Go.RowKit
/-- What one gets out of it. -/
def pf (x : Int) (b : Bool) (p : Int) : Int := if b = true then x - p else 0
theorem profit_any (x : Int) (b : Bool) (p : Int) (w : World) (hx : 0 ≤ x ∧ x ≤ 1000) (hp : 0 ≤ p ∧ p ≤ 1000) :
    Calls Try.prog 17 #[.int .i64 x, .bool b, .int .i64 p] w fun e w' => e = .returned (.int .i64 (pf x b p)) ∧ w' = w := by
  cases b
  · go_enter Try.func17, Try.ntmps17
    go_wp2
    go_ret
    exact ⟨rfl, rfl⟩
  · go_enter Try.func17, Try.ntmps17
    go_wp2
    go_ret
    exact ⟨ret_int rfl, rfl⟩
theorem pf_zero (x p : Int) : pf x false p = 0 := rfl
theorem pf_one (x p : Int) : pf x true p = x - p := rfl
theorem Sec.le {v : Nat → Int} {n q : Nat} {s : Int} (h : Sec v n q s) (hB : Bl n v) : 0 ≤ s ∧ s ≤ 1000 := by
  obtain ⟨h1, h2, h3⟩ := h
  refine ⟨h1, ?_⟩
  rcases h2 with h2 | ⟨j, a, _, c⟩
  · omega
  · have := hB j a; omega
theorem Sec.upd {v : Nat → Int} {n i : Nat} {b s : Int} (h : Sec (upd v i b) n i s) : Sec v n i s := by
  obtain ⟨h1, h2, h3⟩ := h
  refine ⟨h1, ?_, fun j hj hne => by have := h3 j hj hne; rwa [upd_ne hne] at this⟩
  rcases h2 with h2 | ⟨j, a, c, d⟩
  · exact .inl h2
  · exact .inr ⟨j, a, c, by rwa [upd_ne c] at d⟩
/-- VICKREY: it pays to be honest. -/
theorem vickrey {v : Nat → Int} {n i a b : Nat} {x p q : Int} (hB : Bl n v) (hi : i < n) (h1 : Win v n a) (h2 : Sec v n a p) (h3 : Win (upd v i x) n b) (h4 : Sec (upd v i x) n b q) :
    pf (v i) (decide (b = i)) q ≤ pf (v i) (decide (a = i)) p ∧ 0 ≤ pf (v i) (decide (a = i)) p := by
  by_cases ha : a = i
  · subst ha
    have hp : p ≤ v a := by
      rcases h2.2.1 with h | ⟨j, j1, _, j3⟩
      · have := hB a hi; omega
      · have := h1.2.1 j j1; omega
    rw [decide_eq_true rfl, pf_one]
    by_cases hb : b = a
    · subst hb
      rw [decide_eq_true rfl, pf_one, h4.upd.uniq h2]
      omega
    · rw [decide_eq_false hb, pf_zero]
      omega
  · rw [decide_eq_false ha, pf_zero]
    refine ⟨?_, Int.le_refl _⟩
    by_cases hb : b = i
    · subst hb
      rw [decide_eq_true rfl, pf_one]
      have k1 := h4.2.2 a h1.1 ha
      rw [upd_ne ha] at k1
      have k2 := h1.2.1 b hi
      omega
    · rw [decide_eq_false hb, pf_zero]
      exact Int.le_refl _
theorem upd_upd (v : Nat → Int) (i : Nat) (x y : Int) : upd (upd v i x) i y = upd v i y := by
  funext j
  by_cases e : j = i
  · subst e; rw [upd_at, upd_at]
  · rw [upd_ne e, upd_ne e, upd_ne e]
theorem upd_self (v : Nat → Int) (i : Nat) : upd v i (v i) = v := by
  funext j
  by_cases e : j = i
  · subst e; rw [upd_at]
  · rw [upd_ne e]
theorem tg_upd_lt {v : Nat → Int} {s i : Nat} {x : Int} : ∀ n, n ≤ i → tg (upd v i x) s n = tg v s n := by
  intro n
  induction n with
  | zero => intro _; rfl
  | succ n ih => intro hn; rw [tg, tg, ih (by omega), upd_ne (by omega)]
/-- A bid that is raised raises just the sets that the bidder is in. -/
theorem tg_more {v : Nat → Int} {s i : Nat} {x y : Int} : ∀ n, i < n → tg (upd v i y) s n = tg (upd v i x) s n + (if hs s i = true then y - x else 0) := by
  intro n
  induction n with
  | zero => intro h; omega
  | succ n ih =>
    intro h
    by_cases e : i = n
    · subst e
      rw [tg, tg, tg_upd_lt _ (Nat.le_refl _), tg_upd_lt _ (Nat.le_refl _), upd_at, upd_at]
      by_cases hh : hs s i = true
      · rw [if_pos hh, if_pos hh, if_pos hh]; omega
      · rw [if_neg hh, if_neg hh, if_neg hh]; omega
    · rw [tg, tg, ih (by omega), upd_ne (by omega), upd_ne (by omega)]
      omega
def MInv (i : Nat) (d : Int) (X Y : Int × Nat) : Prop :=
  (hs X.2 i = true → Y.2 = X.2 ∧ Y.1 = X.1 + d) ∧ (hs X.2 i = false → X.1 ≤ Y.1 ∧ Y.1 ≤ X.1 + d ∧ (hs Y.2 i = true ∨ (Y.2 = X.2 ∧ Y.1 = X.1)))
theorem MInv.step {i s : Nat} {d t t' : Int} {X Y : Int × Nat} (h : MInv i d X Y) (hd : 0 ≤ d) (ht : t' = t + (if hs s i = true then d else 0)) :
    MInv i d (if X.1 < t then (t, s) else X) (if Y.1 < t' then (t', s) else Y) := by
  obtain ⟨B, A⟩ := X
  obtain ⟨B', A'⟩ := Y
  obtain ⟨h1, h2⟩ := h
  simp only at h1 h2 ⊢
  cases hA : hs A i
  · obtain ⟨k1, k2, k3⟩ := h2 hA
    cases hS : hs s i
    · rw [if_neg (by simp [hS])] at ht
      by_cases c1 : B < t
      · rw [if_pos c1]
        by_cases c2 : B' < t'
        · rw [if_pos c2]
          exact ⟨fun e => (by simp only at e; rw [hS] at e; cases e), fun _ => ⟨by simp only; omega, by simp only; omega, .inr ⟨rfl, by simp only; omega⟩⟩⟩
        · rw [if_neg c2]
          refine ⟨fun e => (by simp only at e; rw [hS] at e; cases e), fun _ => ⟨by simp only; omega, by simp only; omega, ?_⟩⟩
          rcases k3 with k3 | ⟨_, k3⟩
          · exact .inl k3
          · omega
      · rw [if_neg c1, if_neg (by omega)]
        exact ⟨fun e => (by simp only at e; rw [hA] at e; cases e), fun _ => ⟨k1, k2, k3⟩⟩
    · rw [if_pos hS] at ht
      by_cases c1 : B < t
      · rw [if_pos c1, if_pos (by omega)]
        exact ⟨fun _ => ⟨rfl, by simp only; omega⟩, fun e => (by simp only at e; rw [hS] at e; cases e)⟩
      · rw [if_neg c1]
        by_cases c2 : B' < t'
        · rw [if_pos c2]
          exact ⟨fun e => (by simp only at e; rw [hA] at e; cases e), fun _ => ⟨by simp only; omega, by simp only; omega, .inl hS⟩⟩
        · rw [if_neg c2]
          exact ⟨fun e => (by simp only at e; rw [hA] at e; cases e), fun _ => ⟨k1, k2, k3⟩⟩
  · obtain ⟨k1, k2⟩ := h1 hA
    cases hS : hs s i
    · rw [if_neg (by simp [hS])] at ht
      by_cases c1 : B < t
      · rw [if_pos c1]
        by_cases c2 : B' < t'
        · rw [if_pos c2]
          exact ⟨fun e => (by simp only at e; rw [hS] at e; cases e), fun _ => ⟨by simp only; omega, by simp only; omega, .inr ⟨rfl, by simp only; omega⟩⟩⟩
        · rw [if_neg c2]
          exact ⟨fun e => (by simp only at e; rw [hS] at e; cases e), fun _ => ⟨by simp only; omega, by simp only; omega, .inl (by simp only; rw [k1]; exact hA)⟩⟩
      · rw [if_neg c1, if_neg (by omega)]
        exact ⟨fun _ => ⟨k1, k2⟩, fun e => (by simp only at e; rw [hA] at e; cases e)⟩
    · rw [if_pos hS] at ht
      by_cases c1 : B < t
      · rw [if_pos c1, if_pos (by omega)]
        exact ⟨fun _ => ⟨rfl, by simp only; omega⟩, fun e => (by simp only at e; rw [hS] at e; cases e)⟩
      · rw [if_neg c1, if_neg (by omega)]
        exact ⟨fun _ => ⟨k1, k2⟩, fun e => (by simp only at e; rw [hA] at e; cases e)⟩
theorem mono_inv {v : Nat → Int} {n i : Nat} {S : Nat → Nat} {x y : Int} (hi : i < n) (h : x ≤ y) : ∀ k, MInv i (y - x) (wS (upd v i x) n S k) (wS (upd v i y) n S k) := by
  intro k
  induction k with
  | zero => exact ⟨fun e => (by simp [wS, hs] at e), fun _ => ⟨Int.le_refl _, by show (-1 : Int) ≤ -1 + (y - x); omega, .inr ⟨rfl, rfl⟩⟩⟩
  | succ k ih =>
    rw [wS, wS]
    exact ih.step (by omega) (tg_more n hi)
/-- Who wins with a bid wins with a higher one. -/
theorem wns_mono {v : Nat → Int} {n m i : Nat} {S : Nat → Nat} {x y : Int} (hi : i < n) (h : x ≤ y) (hw : wns v n S m i x = true) : wns v n S m i y = true := by
  unfold wns at *
  rw [((mono_inv (v := v) (S := S) hi h m).1 hw).1]
  exact hw
theorem LB.wins {v : Nat → Int} {n m i : Nat} {S : Nat → Nat} {p : Int} (h : LB v n S m i p) (hw : wns v n S m i (v i) = true) : wns v n S m i p = true := by
  rcases h.2.2.2 with e | e
  · rw [e]; exact hw
  · exact e
theorem wns_upd (v : Nat → Int) (n : Nat) (S : Nat → Nat) (m i : Nat) (x y : Int) : wns (upd v i x) n S m i y = wns v n S m i y := by
  unfold wns
  rw [upd_upd]
theorem wns_own (v : Nat → Int) (n : Nat) (S : Nat → Nat) (m i : Nat) : wns v n S m i (v i) = hs (wS v n S m).2 i := by
  unfold wns
  rw [upd_self]
/-- MYERSON: it pays to be honest. -/
theorem myerson {v : Nat → Int} {n m i : Nat} {S : Nat → Nat} {x p q : Int} (hi : i < n) (h1 : PayP v n S m i p) (h2 : PayP (upd v i x) n S m i q) :
    pf (v i) (hs (wS (upd v i x) n S m).2 i) q ≤ pf (v i) (hs (wS v n S m).2 i) p ∧ 0 ≤ pf (v i) (hs (wS v n S m).2 i) p := by
  cases ha : hs (wS v n S m).2 i
  · rw [pf_zero]
    refine ⟨?_, Int.le_refl _⟩
    cases hb : hs (wS (upd v i x) n S m).2 i
    · rw [pf_zero]; exact Int.le_refl _
    · rw [pf_one]
      have L2 := h2.1 hb
      have w2 := L2.wins (by rw [wns_own]; exact hb)
      rw [wns_upd] at w2
      rcases Int.lt_or_le (v i) q with e | e
      · omega
      · have := wns_mono hi e w2
        rw [wns_own, ha] at this
        cases this
  · have L1 := h1.1 ha
    have w1 := L1.wins (by rw [wns_own]; exact ha)
    rw [pf_one]
    refine ⟨?_, by have := L1.2.1; omega⟩
    cases hb : hs (wS (upd v i x) n S m).2 i
    · rw [pf_zero]; have := L1.2.1; omega
    · rw [pf_one]
      have L2 := h2.1 hb
      have w2 := L2.wins (by rw [wns_own]; exact hb)
      rw [wns_upd] at w2
      have : p = q := by
        rcases Int.lt_trichotomy p q with e | e | e
        · have := L2.2.2.1 p L1.1 e
          rw [wns_upd, w1] at this
          cases this
        · exact e
        · have := L1.2.2.1 q L2.1 e
          rw [w2] at this
          cases this
      omega
theorem PayP.le {v : Nat → Int} {n m i : Nat} {S : Nat → Nat} {p : Int} (h : PayP v n S m i p) (hB : Bl n v) (hi : i < n) : 0 ≤ p ∧ p ≤ 1000 := by
  cases e : hs (wS v n S m).2 i
  · rw [h.2 e]; omega
  · have h1 := h.1 e
    have := h1.1
    have := h1.2.1
    have := hB i hi
    omega
/-- What Pick picks, what At finds. -/
def pkN (c : Int) (n : Nat) : Nat := if c < 0 then ((-(c + 1)) % (n : Int)).toNat else (c % (n : Int)).toNat
theorem pkN_lt (c : Int) {n : Nat} (hn : 0 < n) : pkN c n < n := by
  unfold pkN
  by_cases h : c < 0
  · rw [if_pos h]
    have := Int.emod_lt_of_pos (-(c + 1)) (show (0 : Int) < n by omega)
    have := Int.emod_nonneg (-(c + 1)) (show (n : Int) ≠ 0 by omega)
    omega
  · rw [if_neg h]
    have := Int.emod_lt_of_pos c (show (0 : Int) < n by omega)
    have := Int.emod_nonneg c (show (n : Int) ≠ 0 by omega)
    omega
set_option maxHeartbeats 400000 in
theorem pick_val (c : Int) (n : Nat) (hc : InR c) (hn : 0 < n) (hm : n ≤ 3000) (w : World) :
    Calls Try.prog 15 #[.int .i64 c, .int .i64 n] w fun e w' => e = .returned (.int .i64 (pkN c n)) ∧ w' = w := by
  obtain ⟨h1, h2⟩ := hc
  have hnz : ((n : Int) == 0) = false := by simp; omega
  by_cases hneg : c < 0
  · have HP : Hid (pkN c n = ((-(c + 1)) % (n : Int)).toNat) := if_pos hneg
    go_enter Try.func15, Try.ntmps15
    go_wp2
    go_ret
    refine ⟨ret_int ?_, rfl⟩
    rw [unhide HP]
    have h0 := Int.emod_nonneg (-(c + 1)) (show (n : Int) ≠ 0 by omega)
    rw [← Int.neg_tmod, Int.tmod_eq_emod_of_nonneg (by omega)]
    omega
  · have HP : Hid (pkN c n = (c % (n : Int)).toNat) := if_neg hneg
    go_enter Try.func15, Try.ntmps15
    go_wp2
    go_ret
    refine ⟨ret_int ?_, rfl⟩
    rw [unhide HP]
    have h0 := Int.emod_nonneg c (show (n : Int) ≠ 0 by omega)
    omega
def atV (l : List Int) (k : Nat) : Int := if l.length = 0 then 0 else l[k % l.length]?.getD 0
theorem atV_in {l : List Int} (h : ∀ x ∈ l, InR x) (k : Nat) : InR (atV l k) := by
  unfold atV
  by_cases e : l.length = 0
  · rw [if_pos e]; exact ⟨by omega, by omega⟩
  · rw [if_neg e, List.getElem?_eq_getElem (Nat.mod_lt _ (by omega))]
    exact h _ (by simp)
theorem at_val (a : Option Addr) (n c : Nat) (l : List Int) (k : Nat) (w : World) (h : Ints w a n c l) (hk : k ≤ 1000) (hn : n ≤ 256) :
    Calls Try.prog 16 #[.slice a n c, .int .i64 k] w fun e w' => e = .returned (.int .i64 (atV l k)) ∧ w' = w := by
  obtain ⟨hl, hc, hm, h⟩ := h
  unfold maxLen at hm
  by_cases hz : n = 0
  · have HV : Hid (atV l k = 0) := by show _ = _; unfold atV; rw [if_pos (by omega)]
    subst hz
    go_enter Try.func16, Try.ntmps16
    go_wp2
    go_ret
    exact ⟨ret_int (unhide HV).symm, rfl⟩
  · obtain ⟨b, off, rfl, hb, hcell⟩ := h.resolve_left hz
    have hnz : ((n : Int) == 0) = false := by simp; omega
    have hlt : k % n < n := Nat.mod_lt _ (by omega)
    have hck := hcell (k % n) hlt
    have HV : Hid (atV l k = l[k % n]?.getD 0) := by show _ = _; unfold atV; rw [if_neg (by omega), hl]
    have HL : Hid (n = l.length) := hl
    clear hl hcell h
    generalize l[k % n]?.getD 0 = y at *
    go_enter Try.func16, Try.ntmps16
    go_wp2
    go_ret
    exact ⟨ret_int (unhide HV).symm, rfl⟩
end Go.Proofs.Ytfknnededkdodaa
