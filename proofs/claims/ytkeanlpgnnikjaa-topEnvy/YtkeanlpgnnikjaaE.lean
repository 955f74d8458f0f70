import Derived.Test.YtkeanlpgnnikjaaD
namespace Go.Proofs.Ytkeanlpgnnikjaa
open Go.RowKit
/-- What somebody has of the first g goods is worth, and the dearest good of it. -/
def hv (v give : Nat → Int) (who : Int) : Nat → Int
  | 0 => 0
  | g + 1 => if give g = who then hv v give who g + v g else hv v give who g
def mv (v give : Nat → Int) (who : Int) : Nat → Int
  | 0 => 0
  | g + 1 => if give g = who then max (mv v give who g) (v g) else mv v give who g
def OkF (v : Nat → Int) (G : Nat) : Prop := ∀ g, g < G → 0 ≤ v g ∧ v g ≤ 1000
theorem hv_yes {v give : Nat → Int} {who : Int} {g : Nat} (h : give g = who) : hv v give who (g + 1) = hv v give who g + v g := by rw [hv, if_pos h]
theorem hv_no {v give : Nat → Int} {who : Int} {g : Nat} (h : ¬ give g = who) : hv v give who (g + 1) = hv v give who g := by rw [hv, if_neg h]
theorem mv_yes {v give : Nat → Int} {who : Int} {g : Nat} (h : give g = who) : mv v give who (g + 1) = max (mv v give who g) (v g) := by rw [mv, if_pos h]
theorem mv_no {v give : Nat → Int} {who : Int} {g : Nat} (h : ¬ give g = who) : mv v give who (g + 1) = mv v give who g := by rw [mv, if_neg h]
theorem hv_le {v give : Nat → Int} {who : Int} {G : Nat} (h : OkF v G) : ∀ g, g ≤ G → 0 ≤ hv v give who g ∧ hv v give who g ≤ 1000 * g := by
  intro g
  induction g with
  | zero => intro _; exact ⟨Int.le_refl _, Int.le_refl _⟩
  | succ g ih =>
    intro hg
    have h1 := ih (by omega)
    have h2 := h g (by omega)
    by_cases e : give g = who
    · rw [hv_yes e]; omega
    · rw [hv_no e]; omega
theorem mv_le {v give : Nat → Int} {who : Int} {G : Nat} (h : OkF v G) : ∀ g, g ≤ G → 0 ≤ mv v give who g ∧ mv v give who g ≤ 1000 ∧ mv v give who g ≤ hv v give who g := by
  intro g
  induction g with
  | zero => intro _; exact ⟨Int.le_refl _, by simp [mv], Int.le_refl _⟩
  | succ g ih =>
    intro hg
    have h1 := ih (by omega)
    have h2 := h g (by omega)
    have h3 := hv_le (give := give) (who := who) h g (by omega)
    by_cases e : give g = who
    · rw [hv_yes e, mv_yes e]; omega
    · rw [hv_no e, mv_no e]; omega
set_option maxRecDepth 100000 in
set_option maxHeartbeats 2000000 in
theorem held_any (a : Option Addr) (n c : Nat) (l : List Int) (a' : Option Addr) (c' : Nat) (gl : List Int) (who : Int) (w : World) (h : Ints w a n c l) (h' : Ints w a' n c' gl) (hn : n ≤ 8) (hv0 : OkF (nth l) n) :
    Calls Try.prog 39 #[.slice a n c, .slice a' n c', .int .i64 who] w fun e w' => e = .returned (.tuple #[.int .i64 (hv (nth l) (nth gl) who n), .int .i64 (mv (nth l) (nth gl) who n)]) ∧ w' = w := by
  by_cases h0 : n = 0
  · subst h0
    go_enter Try.func39, Try.ntmps39
    go_wp2
    refine wp_loop_rounds 1 ?_
    rw [rounds_succ]
    go_wp2
    go_ret2
    exact ⟨rfl, rfl⟩
  · have c1 := h.2.1
    have c2 := h.2.2.1
    have c3 := h'.2.1
    have c4 := h'.2.2.1
    unfold maxLen at c2 c4
    obtain ⟨b, off, rfl, hb, hcell⟩ := h.nth (by omega)
    obtain ⟨b', off', rfl, hb', hcell'⟩ := h'.nth (by omega)
    have HC := hide hcell
    have HC' := hide hcell'
    have HO := hide hv0
    clear h h' hcell hcell' hv0
    generalize nth l = v at *
    generalize nth gl = f at *
    go_enter Try.func39, Try.ntmps39
    go_wp2
    go_loop [12, 6, 7, 8, 9] (fun i s m _ _ => ∃ k : Nat, k ≤ n ∧ i = .int .i64 k ∧ s = .int .i64 (hv v f who k) ∧ m = .int .i64 (mv v f who k)) (fun i _ _ _ _ => n - (intOf i).toNat)
    case atStart => exact ⟨0, Nat.zero_le _, rfl, rfl, rfl⟩
    case round =>
      obtain ⟨k, hk, rfl, rfl, rfl⟩ := hrel
      by_cases hlt : k < n
      · have q1 := unhide HC k hlt
        have q2 := unhide HC' k hlt
        have q3 := unhide HO k hlt
        have q4 := hv_le (give := f) (who := who) (unhide HO) k hk
        have q5 := mv_le (give := f) (who := who) (unhide HO) k hk
        by_cases e : f k = who
        · have HH := hide (hv_yes (v := v) e)
          have HM := hide (mv_yes (v := v) e)
          rw [e] at q2
          generalize hv v f who k = s at *
          generalize mv v f who k = m at *
          generalize v k = x at *
          have hw : wrap64 (s + x) = s + x := wrap64_in _ (by omega) (by omega)
          go_wp2
          refine ⟨⟨k + 1, by omega, by go_num, ?_, ?_⟩, by simp [intOf]; omega⟩
          · rw [unhide HH]
          · rw [unhide HM]
        · have HH := hide (hv_no (v := v) e)
          have HM := hide (mv_no (v := v) e)
          have ee : (f k == who) = false := by simpa using e
          generalize hv v f who k = s at *
          generalize mv v f who k = m at *
          generalize v k = x at *
          generalize f k = y at *
          go_wp2
          refine ⟨⟨k + 1, by omega, by go_num, ?_, ?_⟩, by simp [intOf]; omega⟩
          · rw [unhide HH]
          · rw [unhide HM]
      · obtain rfl : n = k := by omega
        go_wp2
        go_ret2
        exact ⟨rfl, rfl⟩
/-- How much one envies another. -/
def lev (v give : Nat → Int) (i j : Int) (G : Nat) : Int := if hv v give j G ≤ hv v give i G then 0 else if hv v give j G - mv v give j G ≤ hv v give i G then 1 else 2
set_option maxRecDepth 100000 in
set_option maxHeartbeats 2000000 in
theorem envies_any (a : Option Addr) (n c : Nat) (l : List Int) (a' : Option Addr) (c' : Nat) (gl : List Int) (i j : Int) (w : World) (h : Ints w a n c l) (h' : Ints w a' n c' gl) (hn : n ≤ 8) (hv0 : OkF (nth l) n) :
    Calls Try.prog 26 #[.slice a n c, .slice a' n c', .int .i64 i, .int .i64 j] w fun e w' => e = .returned (.int .i64 (lev (nth l) (nth gl) i j n)) ∧ w' = w := by
  have C1 := hide (held_any a n c l a' c' gl i w h h' hn hv0)
  have C2 := hide (held_any a n c l a' c' gl j w h h' hn hv0)
  have q1 := hv_le (give := nth gl) (who := i) hv0 n (Nat.le_refl _)
  have q2 := hv_le (give := nth gl) (who := j) hv0 n (Nat.le_refl _)
  have q3 := mv_le (give := nth gl) (who := i) hv0 n (Nat.le_refl _)
  have q4 := mv_le (give := nth gl) (who := j) hv0 n (Nat.le_refl _)
  obtain ⟨E, hE⟩ : ∃ E, E = lev (nth l) (nth gl) i j n := ⟨_, rfl⟩
  rw [← hE]
  unfold lev at hE
  clear h h' hv0
  generalize hv (nth l) (nth gl) i n = x at *
  generalize hv (nth l) (nth gl) j n = y at *
  generalize mv (nth l) (nth gl) i n = p at *
  generalize mv (nth l) (nth gl) j n = q at *
  have hw : wrap64 (y - q) = y - q := wrap64_in _ (by omega) (by omega)
  by_cases h1 : y ≤ x
  · rw [if_pos h1] at hE
    subst hE
    go_enter Try.func26, Try.ntmps26
    go_wp2_with fail
    refine (unhide C1).mono ?_
    rintro e w2 ⟨rfl, hw2⟩
    subst w2
    go_wp2_with fail
    refine (unhide C2).mono ?_
    rintro e w2 ⟨rfl, hw2⟩
    subst w2
    go_wp2
    go_ret
    exact ⟨rfl, rfl⟩
  · by_cases h2 : y - q ≤ x
    · rw [if_neg h1, if_pos h2] at hE
      subst hE
      go_enter Try.func26, Try.ntmps26
      go_wp2_with fail
      refine (unhide C1).mono ?_
      rintro e w2 ⟨rfl, hw2⟩
      subst w2
      go_wp2_with fail
      refine (unhide C2).mono ?_
      rintro e w2 ⟨rfl, hw2⟩
      subst w2
      go_wp2
      go_ret
      exact ⟨rfl, rfl⟩
    · rw [if_neg h1, if_neg h2] at hE
      subst hE
      go_enter Try.func26, Try.ntmps26
      go_wp2_with fail
      refine (unhide C1).mono ?_
      rintro e w2 ⟨rfl, hw2⟩
      subst w2
      go_wp2_with fail
      refine (unhide C2).mono ?_
      rintro e w2 ⟨rfl, hw2⟩
      subst w2
      go_wp2
      go_ret
      exact ⟨rfl, rfl⟩
theorem Vals.okF {n G : Nat} {L : List Sl} (h : Vals n G L) {i : Nat} (hi : i < n) : OkF (vl L i) G := fun g hg => h.ok i hi g hg
set_option maxRecDepth 100000 in
set_option maxHeartbeats 2000000 in
theorem has_any (a : Option Addr) (n c G : Nat) (L : List Sl) (a' : Option Addr) (c' : Nat) (gl : List Int) (i : Nat) (who : Int) (w : World) (h : Lsts w a n c L) (hV : Vals n G L) (h' : Ints w a' G c' gl) (hi : i < n) :
    Calls Try.prog 23 #[.slice a n c, .slice a' G c', .int .i64 i, .int .i64 who] w fun e w' => e = .returned (.int .i64 (hv (vl L i) (nth gl) who G)) ∧ w' = w := by
  have hG := hV.g8
  by_cases h0 : G = 0
  · subst h0
    go_enter Try.func23, Try.ntmps23
    go_wp2
    refine wp_loop_rounds 1 ?_
    rw [rounds_succ]
    go_wp2
    go_ret
    exact ⟨rfl, rfl⟩
  · have d1 := h.2.1
    have d2 := h.2.2.1
    have c3 := h'.2.1
    have c4 := h'.2.2.1
    unfold maxLen at d2 c4
    obtain ⟨b, off, rfl, hb, hcell⟩ := h.cellAt (by omega)
    have hck := hcell i hi
    have hIi := h.mem (k := i) hi
    have hli := hV.row i hi
    have HO := hide (hV.okF hi)
    have HVL : Hid (vl L i = nth (slAt L i).ints) := rfl
    generalize slAt L i = s at *
    obtain ⟨sa, sn, sc, si⟩ := s
    simp only at hck hIi hli HVL
    subst hli
    have c1 := hIi.2.1
    have c2 := hIi.2.2.1
    unfold maxLen at c2
    obtain ⟨b1, off1, rfl, hb1, hcell1⟩ := hIi.nth (by omega)
    rw [← unhide HVL] at hcell1
    obtain ⟨b', off', rfl, hb', hcell'⟩ := h'.nth (by omega)
    have HC := hide hcell1
    have HC' := hide hcell'
    clear h h' hcell hcell' hcell1 hIi hV
    generalize vl L i = v at *
    generalize nth gl = f at *
    go_enter Try.func23, Try.ntmps23
    go_wp2
    go_loop [10, 9] (fun i s => ∃ k : Nat, k ≤ sn ∧ i = .int .i64 k ∧ s = .int .i64 (hv v f who k)) (fun i _ => sn - (intOf i).toNat)
    case atStart => exact ⟨0, Nat.zero_le _, rfl, rfl⟩
    case round =>
      obtain ⟨k, hk, rfl, rfl⟩ := hrel
      by_cases hlt : k < sn
      · have q1 := unhide HC k hlt
        have q2 := unhide HC' k hlt
        have q3 := unhide HO k hlt
        have q4 := hv_le (give := f) (who := who) (unhide HO) k hk
        by_cases e : f k = who
        · have HH := hide (hv_yes (v := v) e)
          rw [e] at q2
          generalize hv v f who k = s at *
          generalize v k = x at *
          have hw : wrap64 (s + x) = s + x := wrap64_in _ (by omega) (by omega)
          go_wp2
          refine ⟨⟨k + 1, by omega, by go_num, ?_⟩, by simp [intOf]; omega⟩
          rw [unhide HH]
        · have HH := hide (hv_no (v := v) e)
          have ee : (f k == who) = false := by simpa using e
          generalize hv v f who k = s at *
          generalize v k = x at *
          generalize f k = y at *
          go_wp2
          refine ⟨⟨k + 1, by omega, by go_num, ?_⟩, by simp [intOf]; omega⟩
          rw [unhide HH]
      · obtain rfl : sn = k := by omega
        go_wp2
        go_ret
        exact ⟨rfl, rfl⟩
end Go.Proofs.Ytkeanlpgnnikjaa
