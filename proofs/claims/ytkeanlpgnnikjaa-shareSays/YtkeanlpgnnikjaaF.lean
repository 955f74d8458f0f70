import Derived.Test.YtkeanlpgnnikjaaE
import Derived.Test.YtkeanlpgnnikjaaB
import Derived.Test.YtkeanlpgnnikjaaR
namespace Go.Proofs.Ytkeanlpgnnikjaa
open Go.RowKit
set_option maxRecDepth 100000 in
set_option maxHeartbeats 2000000 in
theorem given_any (a : Option Addr) (n c G : Nat) (L : List Sl) (w : World) (h : Lsts w a n c L) (hV : Vals n G L) :
    Calls Try.prog 24 #[.slice a n c] w fun e w' => ∃ g, e = .returned (.slice (some ⟨g, 0, none⟩) G G) ∧ Row w.heap.size w' (some ⟨g, 0, none⟩) G (fun _ => -1) ∧ w.heap.size ≤ g ∧ Below w.heap.size w w' := by
  have hG := hV.g8
  have hn1 := hV.n1
  have h1 := h.2.1
  have h2 := h.2.2.1
  unfold maxLen at h2
  obtain ⟨wA, hwA⟩ : ∃ y, y = w.alloc (.cells #[.int .i64 (-1)] 3) := ⟨_, rfl⟩
  have hbA : Below w.heap.size w wA := by rw [hwA]; go_grown
  have a0 : wA.cell? ⟨w.heap.size, 0, none⟩ = some (.int .i64 (-1)) := by rw [hwA]; simp
  have hA := h.later hbA
  obtain ⟨b, off, rfl, hb, hcell⟩ := hA.cellAt hn1
  have c0 := hcell 0 hn1
  rw [Nat.add_zero, hV.row 0 hn1] at c0
  have i1 := (hA.mem hn1).2.1
  have i2 := (hA.mem hn1).2.2.1
  rw [hV.row 0 hn1] at i1
  unfold maxLen at i2
  have CR := hide (rep_any w.heap.size G wA hG a0)
  clear h hA hcell hV
  have HW := hide hwA
  generalize (slAt L 0).la = la at *
  generalize (slAt L 0).lc = lc at *
  rw [hwA] at c0
  clear hwA
  go_enter Try.func24, Try.ntmps24
  go_wp2_with fail
  rw [← unhide HW]
  refine (unhide CR).mono ?_
  rintro e w1 ⟨rfl, hrow, hb1⟩
  go_wp2
  go_ret
  refine ⟨_, rfl, ?_, hbA.size, hbA.trans (hb1.mono hbA.size)⟩
  rcases hrow with h | ⟨g, h1, h2, h3⟩
  · exact .inl h
  · exact .inr ⟨g, h1, Nat.le_trans hbA.size h2, h3⟩
/-- Whether the i-th envies the j-th. -/
def En (v : Nat → Nat → Int) (give : Nat → Int) (G i j : Nat) : Prop := hv (v i) give i G < hv (v i) give j G
instance (v : Nat → Nat → Int) (give : Nat → Int) (G i j : Nat) : Decidable (En v give G i j) := by unfold En; infer_instance
theorem lev_pos {v : Nat → Nat → Int} {give : Nat → Int} {G i j : Nat} : 0 < lev (v i) give i j G ↔ En v give G i j := by
  unfold lev En
  by_cases h1 : hv (v i) give j G ≤ hv (v i) give i G
  · rw [if_pos h1]; omega
  · rw [if_neg h1]
    by_cases h2 : hv (v i) give j G - mv (v i) give j G ≤ hv (v i) give i G
    · rw [if_pos h2]; omega
    · rw [if_neg h2]; omega
/-- The first of the first k that envies the j-th. -/
def evr (v : Nat → Nat → Int) (give : Nat → Int) (G j : Nat) : Nat → Int
  | 0 => -1
  | i + 1 => if evr v give G j i = -1 ∧ En v give G i j then (i : Int) else evr v give G j i
theorem evr_yes {v : Nat → Nat → Int} {give : Nat → Int} {G j i : Nat} (h : evr v give G j i = -1) (h2 : En v give G i j) : evr v give G j (i + 1) = i := by rw [evr, if_pos ⟨h, h2⟩]
theorem evr_no {v : Nat → Nat → Int} {give : Nat → Int} {G j i : Nat} (h : ¬ (evr v give G j i = -1 ∧ En v give G i j)) : evr v give G j (i + 1) = evr v give G j i := by rw [evr, if_neg h]
theorem evr_spec {v : Nat → Nat → Int} {give : Nat → Int} {G j : Nat} : ∀ k, (evr v give G j k = -1 ∧ ∀ i, i < k → ¬ En v give G i j) ∨ (∃ m : Nat, m < k ∧ evr v give G j k = m ∧ En v give G m j) := by
  intro k
  induction k with
  | zero => exact .inl ⟨rfl, fun i hi => by omega⟩
  | succ k ih =>
    rcases ih with ⟨h1, h2⟩ | ⟨m, m1, m2, m3⟩
    · by_cases e : En v give G k j
      · exact .inr ⟨k, by omega, evr_yes h1 e, e⟩
      · refine .inl ⟨by rw [evr_no (fun h => e h.2), h1], fun i hi => ?_⟩
        by_cases c : i = k
        · subst c; exact e
        · exact h2 i (by omega)
    · refine .inr ⟨m, by omega, ?_, m3⟩
      rw [evr_no (fun h => by omega), m2]
/-- What enviers stands at, at the j-th, behind the i-th. -/
def byF (v : Nat → Nat → Int) (give : Nat → Int) (G n j i : Nat) (t : Nat) : Int := if t < j then evr v give G t n else if t = j then evr v give G j i else -1
set_option maxRecDepth 100000 in
set_option maxHeartbeats 4000000 in
theorem enviers_any (a : Option Addr) (n c G : Nat) (L : List Sl) (a' : Option Addr) (c' : Nat) (gl : List Int) (w : World) (h : Lsts w a n c L) (hV : Vals n G L) (h' : Ints w a' G c' gl) :
    Calls Try.prog 32 #[.slice a n c, .slice a' G c'] w fun e w' => ∃ g, e = .returned (.slice (some ⟨g, 0, none⟩) n n) ∧ Row w.heap.size w' (some ⟨g, 0, none⟩) n (fun j => evr (vl L) (nth gl) G j n) ∧ w.heap.size ≤ g ∧ Below w.heap.size w w' := by
  have hn1 := hV.n1
  have hn4 := hV.n4
  have h1 := h.2.1
  have h2 := h.2.2.1
  have h3 := h'.2.1
  have h4 := h'.2.2.1
  have hG := hV.g8
  unfold maxLen at h2 h4
  obtain ⟨wA, hwA⟩ : ∃ y, y = w.alloc (.cells #[.int .i64 (-1)] 3) := ⟨_, rfl⟩
  have hbA : Below w.heap.size w wA := by rw [hwA]; go_grown
  have a0 : wA.cell? ⟨w.heap.size, 0, none⟩ = some (.int .i64 (-1)) := by rw [hwA]; simp
  obtain ⟨b, off, rfl, hb, hcell⟩ := h.cellAt hn1
  have HC : Hid (∀ W, Below w.heap.size w W → ∀ j, j < n → W.cell? ⟨b, off + j, none⟩ = some (.slice (slAt L j).la G (slAt L j).lc)) := fun W hW j hj => by rw [hW.cell (p := ⟨b, off + j, none⟩) hb, hcell j hj, hV.row j hj]
  have HI : Hid (∀ W, Below w.heap.size w W → ∀ k, k < n → ∀ j : Nat, Calls Try.prog 26 #[.slice (slAt L k).la G (slAt L k).lc, .slice a' G c', .int .i64 (k : Int), .int .i64 (j : Int)] W fun e w' => e = .returned (.int .i64 (lev (vl L k) (nth gl) k j G)) ∧ w' = W) := fun W hW k hk j => by
    have := (h.mem (k := k) hk).later hW
    rw [hV.row k hk] at this
    exact envies_any _ _ _ _ _ _ _ _ _ W this (h'.later hW) hG (hV.okF hk)
  have HL : Hid (∀ k, k < n → G ≤ (slAt L k).lc ∧ (slAt L k).lc ≤ 2 ^ 63 - 1) := fun k hk => by
    have := h.mem (k := k) hk
    have q := this.2.1
    rw [hV.row k hk] at q
    exact ⟨q, this.2.2.1⟩
  have CR := hide (rep_any w.heap.size n wA (by omega) a0)
  have HW := hide hwA
  have HP : Hid (∀ i j : Nat, 0 < lev (vl L i) (nth gl) i j G ↔ En (vl L) (nth gl) G i j) := fun i j => lev_pos
  clear h h' hcell hV hwA
  generalize vl L = v at *
  generalize nth gl = f at *
  go_enter Try.func32, Try.ntmps32
  go_wp2_with fail
  rw [← unhide HW]
  refine (unhide CR).mono ?_
  rintro e w1 ⟨rfl, hrow, hb1⟩
  have HB1 : Hid (Below w.heap.size w w1) := hbA.trans (hb1.mono hbA.size)
  have HR1 : Hid (Row w.heap.size w1 (some ⟨wA.heap.size, 0, none⟩) n (byF v f G n 0 0)) := by
    rcases hrow with h | ⟨g, q1, q2, q3, q4, q5⟩
    · exact .inl h
    · refine .inr ⟨g, q1, Nat.le_trans hbA.size q2, q3, fun j hj => ?_, q5⟩
      rw [q4 j hj]
      unfold byF
      rw [if_neg (by omega)]
      by_cases e : j = 0
      · rw [if_pos e]; rfl
      · rw [if_neg e]
  have hgb : w.heap.size ≤ wA.heap.size := hbA.size
  clear hrow hb1 CR a0 HW hbA
  generalize wA.heap.size = g at *
  go_wp2
  go_loopw [15, 6, 7, 8] (fun i _ _ _ wr => Hid (Below w.heap.size w wr) ∧ ∃ k : Nat, k ≤ n ∧ i = .int .i64 k ∧ Hid (Row w.heap.size wr (some ⟨g, 0, none⟩) n (byF v f G n k 0))) (fun i _ _ _ _ => n - (intOf i).toNat)
  case atStart => exact ⟨HB1, 0, Nat.zero_le _, rfl, HR1⟩
  case round =>
    obtain ⟨HBr, j, hj, rfl, HRj⟩ := hrel
    clear HB1 HR1
    by_cases hlt : j < n
    · go_wp2
      go_loopw [20, 7, 8] (fun i _ _ wr => Hid (Below w.heap.size w wr) ∧ ∃ k : Nat, k ≤ n ∧ i = .int .i64 k ∧ Hid (Row w.heap.size wr (some ⟨g, 0, none⟩) n (byF v f G n j k))) (fun i _ _ _ => n - (intOf i).toNat)
      case atStart => exact ⟨HBr, 0, Nat.zero_le _, rfl, HRj⟩
      case round =>
        clear HBr HRj
        obtain ⟨HBr, k, hk, rfl, HRj⟩ := hrel
        by_cases hlk : k < n
        · have hck := unhide HC _ (unhide HBr) k hlk
          obtain ⟨l1, l2⟩ := unhide HL k hlk
          have CE := hide (unhide HI _ (unhide HBr) k hlk j)
          obtain ⟨r1, r2, r3, -⟩ := (unhide HRj).at hlt
          have HBY : Hid (∀ t, t < n → t ≠ j → byF v f G n j k t = byF v f G n j (k + 1) t) := fun t ht e => by
            unfold byF
            by_cases q : t < j
            · rw [if_pos q, if_pos q]
            · rw [if_neg q, if_neg q, if_neg e, if_neg e]
          have HBJ : Hid (∀ m, byF v f G n j m j = evr v f G j m) := fun m => by unfold byF; rw [if_neg (by omega), if_pos rfl]
          have HBS : Hid (evr v f G j k = evr v f G j (k + 1) → ∀ t, t < n → byF v f G n j k t = byF v f G n j (k + 1) t) := fun q t ht => by
            by_cases e : t = j
            · subst e; rw [unhide HBJ, unhide HBJ, q]
            · exact unhide HBY t ht e
          rw [unhide HBJ] at r1
          have HPE := hide (unhide HP k j)
          generalize slAt L k = s at *
          obtain ⟨sa, sn, sc, si⟩ := s
          simp only at hck CE l1 l2
          by_cases hy : evr v f G j k = -1
          · rw [hy] at r1
            by_cases hE : En v f G k j
            · have hp : decide (0 < lev (v k) f k j G) = true := by rw [decide_eq_true_eq]; exact (unhide HPE).2 hE
              have HN := hide (evr_yes hy hE)
              clear hE hy HPE
              generalize lev (v k) f k j G = x at *
              go_wp2_with fail
              refine (unhide CE).mono ?_
              rintro e w2 ⟨rfl, hw2⟩
              subst w2
              go_wp2
              go_roundw
              case rel => exact ⟨(unhide HBr).setCell (p := ⟨g, j, none⟩) hgb _, k + 1, by omega, by go_num, (unhide HRj).set hlt (unhide HBY) (by rw [unhide HBJ, unhide HN])⟩
              case measure => simp [intOf]; omega
            · have hp : decide (0 < lev (v k) f k j G) = false := by rw [decide_eq_false_iff_not]; exact fun q => hE ((unhide HPE).1 q)
              have HN := hide (evr_no (fun q => hE q.2))
              clear hE hy HPE
              generalize lev (v k) f k j G = x at *
              go_wp2_with fail
              refine (unhide CE).mono ?_
              rintro e w2 ⟨rfl, hw2⟩
              subst w2
              go_wp2
              go_roundw
              case rel => exact ⟨HBr, k + 1, by omega, by go_num, (unhide HRj).same (unhide HBS (unhide HN).symm)⟩
              case measure => simp [intOf]; omega
          · have HN := hide (evr_no (fun q => hy q.1))
            have hyb : (evr v f G j k == -1) = false := by simpa using hy
            clear hy HPE
            generalize evr v f G j k = x at *
            go_wp2
            go_roundw
            case rel => exact ⟨HBr, k + 1, by omega, by go_num, (unhide HRj).same (unhide HBS (unhide HN).symm)⟩
            case measure => simp [intOf]; omega
        · obtain rfl : n = k := by omega
          have HRN : Hid (Row w.heap.size wr (some ⟨g, 0, none⟩) n (byF v f G n (j + 1) 0)) := (unhide HRj).same (fun t ht => by
            unfold byF
            by_cases q : t < j
            · rw [if_pos q, if_pos (by omega)]
            · by_cases q2 : t = j
              · subst q2; rw [if_neg q, if_pos rfl, if_pos (by omega)]
              · rw [if_neg q, if_neg q2, if_neg (by omega)]
                by_cases q3 : t = j + 1
                · rw [if_pos q3]; rfl
                · rw [if_neg q3])
          go_wp2
          go_roundw
          case rel => exact ⟨HBr, j + 1, by omega, by go_num, HRN⟩
          case measure => simp [intOf]; omega
    · obtain rfl : n = j := by omega
      have HRN : Hid (Row w.heap.size wr (some ⟨g, 0, none⟩) n (fun j => evr v f G j n)) := (unhide HRj).same (fun t ht => by unfold byF; rw [if_pos ht])
      go_wp2
      go_ret
      exact ⟨g, rfl, HRN, hgb, HBr⟩
end Go.Proofs.Ytkeanlpgnnikjaa
