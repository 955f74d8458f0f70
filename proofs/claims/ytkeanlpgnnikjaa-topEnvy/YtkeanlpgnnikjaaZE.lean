import Derived.Test.YtkeanlpgnnikjaaF
namespace Go.Proofs.Ytkeanlpgnnikjaa
open Go.RowKit
/-- The first good that is there of the greatest value, of the first g, and its value. -/
def drM (v f : Nat → Int) : Nat → Int
  | 0 => -1
  | g + 1 => if f g = -1 ∧ drM v f g < v g then v g else drM v f g
def drB (v f : Nat → Int) : Nat → Int
  | 0 => -1
  | g + 1 => if f g = -1 ∧ drM v f g < v g then (g : Int) else drB v f g
theorem dr_yes {v f : Nat → Int} {g : Nat} (h : f g = -1 ∧ drM v f g < v g) : drM v f (g + 1) = v g ∧ drB v f (g + 1) = g := by rw [drM, drB, if_pos h, if_pos h]; exact ⟨rfl, rfl⟩
theorem dr_no {v f : Nat → Int} {g : Nat} (h : ¬ (f g = -1 ∧ drM v f g < v g)) : drM v f (g + 1) = drM v f g ∧ drB v f (g + 1) = drB v f g := by rw [drM, drB, if_neg h, if_neg h]; exact ⟨rfl, rfl⟩
/-- The first of the greatest. -/
def Dear (v f : Nat → Int) (lo hi m : Nat) : Prop := lo ≤ m ∧ m < hi ∧ f m = -1 ∧ (∀ g, lo ≤ g → g < hi → f g = -1 → v g ≤ v m) ∧ ∀ g, lo ≤ g → g < m → f g = -1 → v g < v m
theorem Dear.uniq {v f : Nat → Int} {lo hi m m' : Nat} (h : Dear v f lo hi m) (h' : Dear v f lo hi m') : m = m' := by
  obtain ⟨a1, a2, a3, a4, a5⟩ := h
  obtain ⟨b1, b2, b3, b4, b5⟩ := h'
  rcases Nat.lt_trichotomy m m' with q | q | q
  · have := b5 m a1 q a3
    have := a4 m' b1 b2 b3
    omega
  · exact q
  · have := a5 m' b1 q b3
    have := b4 m a1 a2 a3
    omega
theorem dr_spec {v f : Nat → Int} {G : Nat} (hv : OkF v G) : ∀ k, k ≤ G → (drB v f k = -1 ∧ drM v f k = -1 ∧ ∀ g, g < k → f g ≠ -1) ∨ ∃ m, drB v f k = (m : Nat) ∧ drM v f k = v m ∧ Dear v f 0 k m := by
  intro k
  induction k with
  | zero => intro _; exact .inl ⟨rfl, rfl, fun g hg => by omega⟩
  | succ k ih =>
    intro hk
    have hvk := hv k (by omega)
    rcases ih (by omega) with ⟨h1, h2, h3⟩ | ⟨m, h1, h2, h3⟩
    · by_cases e : f k = -1
      · obtain ⟨q1, q2⟩ := dr_yes (v := v) (f := f) (g := k) ⟨e, by omega⟩
        refine .inr ⟨k, q2, q1, Nat.zero_le _, by omega, e, fun g _ hg hf => ?_, fun g _ hg hf => absurd hf (h3 g hg)⟩
        by_cases c : g = k
        · subst c; exact Int.le_refl _
        · exact absurd hf (h3 g (by omega))
      · obtain ⟨q1, q2⟩ := dr_no (v := v) (f := f) (g := k) (fun q => e q.1)
        refine .inl ⟨by rw [q2, h1], by rw [q1, h2], fun g hg => ?_⟩
        by_cases c : g = k
        · subst c; exact e
        · exact h3 g (by omega)
    · obtain ⟨d1, d2, d3, d4, d5⟩ := h3
      by_cases e : f k = -1 ∧ drM v f k < v k
      · obtain ⟨q1, q2⟩ := dr_yes e
        rw [h2] at e
        refine .inr ⟨k, q2, q1, Nat.zero_le _, by omega, e.1, fun g _ hg hf => ?_, fun g _ hg hf => ?_⟩
        · by_cases c : g = k
          · subst c; exact Int.le_refl _
          · have := d4 g (Nat.zero_le _) (by omega) hf
            omega
        · have := d4 g (Nat.zero_le _) hg hf
          omega
      · obtain ⟨q1, q2⟩ := dr_no e
        rw [h2] at e
        refine .inr ⟨m, by rw [q2, h1], by rw [q1, h2], d1, by omega, d3, fun g _ hg hf => ?_, d5⟩
        by_cases c : g = k
        · subst c
          rcases Int.lt_or_le (v m) (v g) with q | q
          · exact absurd ⟨hf, q⟩ e
          · exact q
        · exact d4 g (Nat.zero_le _) (by omega) hf
theorem drM_ge {v f : Nat → Int} {G : Nat} (hv : OkF v G) (k : Nat) (hk : k ≤ G) : -1 ≤ drM v f k ∧ drM v f k ≤ 1000 := by
  rcases dr_spec (f := f) hv k hk with ⟨-, h, -⟩ | ⟨m, -, h, d⟩
  · omega
  · have := hv m (by have := d.2.1; omega); omega
set_option maxRecDepth 100000 in
set_option maxHeartbeats 2000000 in
theorem dearest_any (a : Option Addr) (n c : Nat) (l : List Int) (a' : Option Addr) (c' : Nat) (gl : List Int) (w : World) (h : Ints w a n c l) (h' : Ints w a' n c' gl) (hn : n ≤ 8) (hv0 : OkF (nth l) n) :
    Calls Try.prog 25 #[.slice a n c, .slice a' n c'] w fun e w' => e = .returned (.int .i64 (drB (nth l) (nth gl) n)) ∧ w' = w := by
  by_cases h0 : n = 0
  · subst h0
    go_enter Try.func25, Try.ntmps25
    go_wp2
    refine wp_loop_rounds 1 ?_
    rw [rounds_succ]
    go_wp2
    go_ret
    exact ⟨rfl, rfl⟩
  · have c1 := h.2.1
    have c2 := h.2.2.1
    have c3 := h'.2.1
    have c4 := h'.2.2.1
    unfold maxLen at c2 c4
    obtain ⟨b, off, rfl, hb, hcell⟩ := h.nth (by omega)
    obtain ⟨b', off', rfl, hb', hcell'⟩ := h'.nth (by omega)
    have HC := hide hcell
    have HC' := hide hcell'
    have HO := hide hv0
    clear h h' hcell hcell' hv0
    generalize nth l = v at *
    generalize nth gl = f at *
    go_enter Try.func25, Try.ntmps25
    go_wp2
    go_loop [11, 5, 6, 7, 8] (fun i x m _ _ => ∃ k : Nat, k ≤ n ∧ i = .int .i64 k ∧ x = .int .i64 (drB v f k) ∧ m = .int .i64 (drM v f k)) (fun i _ _ _ _ => n - (intOf i).toNat)
    case atStart => exact ⟨0, Nat.zero_le _, rfl, rfl, rfl⟩
    case round =>
      obtain ⟨k, hk, rfl, rfl, rfl⟩ := hrel
      by_cases hlt : k < n
      · have q1 := unhide HC k hlt
        have q2 := unhide HC' k hlt
        by_cases e : f k = -1
        · by_cases e2 : drM v f k < v k
          · have HY := hide (dr_yes ⟨e, e2⟩)
            rw [e] at q2
            generalize drB v f k = x at *
            generalize drM v f k = m at *
            generalize v k = y at *
            go_wp2
            exact ⟨⟨k + 1, by omega, by go_num, by rw [(unhide HY).2], by rw [(unhide HY).1]⟩, by simp [intOf]; omega⟩
          · have HY := hide (dr_no (v := v) (f := f) (g := k) (fun q => e2 q.2))
            rw [e] at q2
            generalize drB v f k = x at *
            generalize drM v f k = m at *
            generalize v k = y at *
            go_wp2
            exact ⟨⟨k + 1, by omega, by go_num, by rw [(unhide HY).2], by rw [(unhide HY).1]⟩, by simp [intOf]; omega⟩
        · have HY := hide (dr_no (v := v) (f := f) (g := k) (fun q => e q.1))
          have ee : (f k == -1) = false := by simpa using e
          generalize drB v f k = x at *
          generalize drM v f k = m at *
          generalize v k = y at *
          generalize f k = u at *
          go_wp2
          exact ⟨⟨k + 1, by omega, by go_num, by rw [(unhide HY).2], by rw [(unhide HY).1]⟩, by simp [intOf]; omega⟩
      · obtain rfl : n = k := by omega
        go_wp2
        go_ret
        exact ⟨rfl, rfl⟩
/-- How many goods are nobody's. -/
def fr (f : Nat → Int) : Nat → Nat
  | 0 => 0
  | g + 1 => if f g = -1 then fr f g + 1 else fr f g
theorem fr_upd {f : Nat → Int} {k : Nat} {x : Int} (hk : f k = -1) (hx : x ≠ -1) : ∀ G, fr (upd f k x) G + (if k < G then 1 else 0) = fr f G := by
  intro G
  induction G with
  | zero => rw [if_neg (by omega)]; rfl
  | succ G ih =>
    rw [fr, fr]
    by_cases e : G = k
    · subst e
      rw [if_neg (by omega)] at ih
      rw [upd_at, if_neg hx, if_pos hk, if_pos (by omega)]
      omega
    · rw [upd_ne e]
      by_cases c : k < G
      · rw [if_pos c] at ih; rw [if_pos (show k < G + 1 by omega)]
        by_cases d : f G = -1
        · rw [if_pos d, if_pos d]; omega
        · rw [if_neg d, if_neg d]; omega
      · rw [if_neg c] at ih; rw [if_neg (show ¬ k < G + 1 by omega)]
        by_cases d : f G = -1
        · rw [if_pos d, if_pos d]; omega
        · rw [if_neg d, if_neg d]; omega
theorem fr_pos {f : Nat → Int} : ∀ G, 0 < fr f G → ∃ g, g < G ∧ f g = -1 := by
  intro G
  induction G with
  | zero => intro h; simp [fr] at h
  | succ G ih =>
    intro h
    rw [fr] at h
    by_cases d : f G = -1
    · exact ⟨G, by omega, d⟩
    · rw [if_neg d] at h
      obtain ⟨g, g1, g2⟩ := ih h
      exact ⟨g, by omega, g2⟩
theorem fr_all {f : Nat → Int} : ∀ G, (∀ g, g < G → f g = -1) → fr f G = G := by
  intro G
  induction G with
  | zero => intro _; rfl
  | succ G ih => intro h; rw [fr, if_pos (h G (by omega)), ih (fun g hg => h g (by omega))]
theorem fr_none {f : Nat → Int} : ∀ G, fr f G = 0 → ∀ g, g < G → f g ≠ -1 := by
  intro G
  induction G with
  | zero => intro _ g hg; omega
  | succ G ih =>
    intro h g hg
    rw [fr] at h
    by_cases d : f G = -1
    · rw [if_pos d] at h; omega
    · rw [if_neg d] at h
      by_cases c : g = G
      · subst c; exact d
      · exact ih h g (by omega)
/-- Whose each good is behind so many turns. -/
def trF (v : Nat → Nat → Int) (n G : Nat) : Nat → Nat → Int
  | 0 => fun _ => -1
  | t + 1 => upd (trF v n G t) (drB (v (t % n)) (trF v n G t) G).toNat ((t % n : Nat) : Int)
theorem tr_step {v : Nat → Nat → Int} {n G : Nat} (hn : 1 ≤ n) (hv0 : ∀ i, i < n → OkF (v i) G) : ∀ t, t ≤ G → fr (trF v n G t) G + t = G ∧ (∀ g, trF v n G t g = -1 ∨ ∃ x : Nat, x < n ∧ trF v n G t g = (x : Int)) ∧ (t < G → ∃ m : Nat, drB (v (t % n)) (trF v n G t) G = (m : Int) ∧ Dear (v (t % n)) (trF v n G t) 0 G m ∧ trF v n G (t + 1) = upd (trF v n G t) m ((t % n : Nat) : Int)) := by
  intro t
  have hstep : ∀ t, t ≤ G → fr (trF v n G t) G + t = G → t < G → ∃ m : Nat, drB (v (t % n)) (trF v n G t) G = (m : Int) ∧ Dear (v (t % n)) (trF v n G t) 0 G m ∧ trF v n G (t + 1) = upd (trF v n G t) m ((t % n : Nat) : Int) := fun t _ hf hlt => by
    obtain ⟨g, g1, g2⟩ := fr_pos (f := trF v n G t) G (by omega)
    rcases dr_spec (f := trF v n G t) (hv0 (t % n) (Nat.mod_lt _ (by omega))) G (Nat.le_refl _) with ⟨-, -, h⟩ | ⟨m, h1, -, h2⟩
    · exact absurd g2 (h g g1)
    · refine ⟨m, h1, h2, ?_⟩
      rw [trF, h1, Int.toNat_natCast]
  induction t with
  | zero =>
    intro _
    have h0 : fr (trF v n G 0) G = G := fr_all G (fun _ _ => rfl)
    exact ⟨by omega, fun g => .inl rfl, hstep 0 (by omega) (by omega)⟩
  | succ t ih =>
    intro ht
    obtain ⟨h1, h2, h3⟩ := ih (by omega)
    obtain ⟨m, m1, m2, m3⟩ := h3 (by omega)
    have hf : fr (trF v n G (t + 1)) G + (t + 1) = G := by
      have := fr_upd (f := trF v n G t) (k := m) (x := ((t % n : Nat) : Int)) m2.2.2.1 (by omega) G
      rw [if_pos m2.2.1] at this
      rw [m3]
      omega
    refine ⟨hf, fun g => ?_, hstep (t + 1) ht hf⟩
    rw [m3]
    by_cases e : g = m
    · subst e; rw [upd_at]; exact .inr ⟨t % n, Nat.mod_lt _ (by omega), rfl⟩
    · rw [upd_ne e]; exact h2 g
end Go.Proofs.Ytkeanlpgnnikjaa
