import Derived.Test.YtloandcndnmkhaaE
namespace Go.Proofs.Ytloandcndnmkhaa
open Go.RowKit
def mx (a b : Int) : Int := max a b
def mn (a b : Int) : Int := min a b
theorem mx_le (a b : Int) : a ≤ mx a b ∧ b ≤ mx a b ∧ (mx a b = a ∨ mx a b = b) := by unfold mx; omega
theorem mn_le (a b : Int) : mn a b ≤ a ∧ mn a b ≤ b ∧ (mn a b = a ∨ mn a b = b) := by unfold mn; omega
/-- One step's strength. -/
def st0 (p : Nat → Nat → Int) (x y : Nat) : Int := if p y x < p x y then p x y else 0
/-- The strongest ways over things below k. -/
def fw (p : Nat → Nat → Int) : Nat → Nat → Nat → Int
  | 0, x, y => st0 p x y
  | k + 1, x, y => if x = y then fw p k x y else mx (fw p k x y) (mn (fw p k x k) (fw p k k y))
section
variable {p : Nat → Nat → Int}
theorem fw_diag (k x : Nat) : fw p k x x = 0 := by
  induction k with
  | zero => unfold fw st0; rw [if_neg (by omega)]
  | succ k ih => unfold fw; rw [if_pos rfl]; exact ih
theorem fw_pos (h0 : ∀ x y, 0 ≤ p x y) : ∀ k x y, 0 ≤ fw p k x y := by
  intro k
  induction k with
  | zero =>
    intro x y
    unfold fw st0
    by_cases c : p y x < p x y
    · rw [if_pos c]; exact h0 x y
    · rw [if_neg c]; omega
  | succ k ih =>
    intro x y
    unfold fw
    by_cases c : x = y
    · rw [if_pos c]; exact ih x y
    · rw [if_neg c]
      have := (mx_le (fw p k x y) (mn (fw p k x k) (fw p k k y))).1
      have := ih x y
      omega
/-- The row and the column of the thing gone over stay. -/
theorem fw_col (h0 : ∀ x y, 0 ≤ p x y) (k x : Nat) : fw p (k + 1) x k = fw p k x k := by
  by_cases c : x = k
  · rw [fw, if_pos c]
  · rw [fw, if_neg c, fw_diag]
    have h1 := mn_le (fw p k x k) 0
    have h2 := mx_le (fw p k x k) (mn (fw p k x k) 0)
    have h3 := fw_pos h0 k x k
    omega
theorem fw_row (h0 : ∀ x y, 0 ≤ p x y) (k y : Nat) : fw p (k + 1) k y = fw p k k y := by
  by_cases c : k = y
  · rw [fw, if_pos c]
  · rw [fw, if_neg c, fw_diag]
    have h1 := mn_le 0 (fw p k k y)
    have h2 := mx_le (fw p k k y) (mn 0 (fw p k k y))
    have h3 := fw_pos h0 k k y
    omega
end
/-- The first step's table, as far as it is written. -/
def s0 (p : Nat → Nat → Int) (i j x y : Nat) : Int := if x < i ∨ (x = i ∧ y < j) then st0 p x y else 0
/-- A round's table, as far as it is written. -/
def s1 (p : Nat → Nat → Int) (k i j x y : Nat) : Int := if x < i ∨ (x = i ∧ y < j) then fw p (k + 1) x y else fw p k x y
set_option maxRecDepth 100000 in
set_option maxHeartbeats 8000000 in
theorem paths_any (n : Nat) (a : Option Addr) (m c : Nat) (l : List Bal) (w : World) (h : Bals w a m c l) (hg : Good n l) :
    Calls Try.prog 20 #[.int .i64 n, .slice a m c] w fun e w' => PairPost n (fw (prf l l.length) n) w e w' := by
  have CP := hide (pairs_any n a m c l w h hg)
  have hn1 := hg.1
  have hn6 := hg.2.1
  have HP0 : Hid (∀ x y, 0 ≤ prf l l.length x y) := fun x y => (prf_le hg x y l.length (Nat.le_refl _)).1
  clear h hg
  generalize prf l l.length = p at *
  go_enter Try.func20, Try.ntmps20
  go_wp2_with fail
  refine (unhide CP).mono ?_
  rintro e w1 ⟨GP, BP, rfl, hTP, hb1⟩
  unfold two
  have HTP := hide hTP
  clear hTP CP
  go_wp2_with fail
  refine (table_any n w1 hn6).mono ?_
  rintro e w2 ⟨G, Bf, rfl, hT, hb2⟩
  have HT0 := hide (hT.same (f' := s0 p 0 0) (fun i j _ _ => by unfold s0; rw [if_neg (by omega)]))
  clear hT
  have C47 : Hid (∀ W x y, Below w1.heap.size w1 W → x < n → y < n → Calls Try.prog 47 #[.slice (some ⟨GP, 0, none⟩) n n, .int .i64 x, .int .i64 y] W fun e w' => e = .returned (.bool (decide (p y x < p x y))) ∧ Below W.heap.size W w') := fun W x y hb hx hy => beats_any w.heap.size W GP BP n p x y ((unhide HTP).later hb) hx hy
  go_wp2_with fail
  go_loopw [26, 9, 10] (fun i _ _ wr => Below w1.heap.size w1 wr ∧ ∃ q : Nat, q ≤ n ∧ i = .int .i64 q ∧ Tab w1.heap.size wr G Bf n (s0 p q 0)) (fun i _ _ _ => n - (intOf i).toNat)
  case atStart => exact ⟨hb2, 0, Nat.zero_le _, rfl, unhide HT0⟩
  case round =>
    obtain ⟨hbr, q, hq, rfl, hT⟩ := hrel
    by_cases hlt : q < n
    · have HT := hide hT
      clear hT
      go_wp2_with fail
      rename World => wq
      go_loopw [30, 10] (fun i _ wr => Below w1.heap.size w1 wr ∧ ∃ t : Nat, t ≤ n ∧ i = .int .i64 t ∧ Tab w1.heap.size wr G Bf n (s0 p q t)) (fun i _ _ => n - (intOf i).toNat)
      case atStart => exact ⟨hbr, 0, Nat.zero_le _, rfl, unhide HT⟩
      case round =>
        obtain ⟨hbr2, t, ht, rfl, hT⟩ := hrel
        by_cases hlt2 : t < n
        · have C := unhide C47 wr q t hbr2 hlt hlt2
          by_cases hc : p t q < p q t
          · rw [decide_eq_true hc] at C
            have C := hide C
            have HTQ := hide hT
            clear hT
            go_wp2_with fail
            refine (unhide C).mono ?_
            rintro e w3 ⟨rfl, hb3⟩
            have hT3 := (unhide HTQ).later hb3
            have hP3 := (unhide HTP).later (hbr2.trans (hb3.mono hbr2.size))
            have hb13 := hbr2.trans (hb3.mono hbr2.size)
            have y1 := hT3.2.2.1 q hlt
            have y2 := hT3.2.2.2.2.2.1 q t hlt hlt2
            have y3 := hT3.2.2.2.2.2.2 q t hlt hlt2
            have y4 := hP3.2.2.1 q hlt
            have y5 := hP3.2.2.2.2.2.1 q t hlt hlt2
            have HTN : Hid (Tab w1.heap.size (w3.setCell ⟨Bf q, t, none⟩ (.int .i64 (p q t))) G Bf n (s0 p q (t + 1))) := hT3.set hlt hlt2 (by unfold s0 st0; rw [if_pos (by omega), if_pos hc]) (fun i j hi hj hne => by
              unfold s0
              by_cases c1 : i < q ∨ (i = q ∧ j < t)
              · rw [if_pos c1, if_pos (by omega)]
              · rw [if_neg c1, if_neg (by omega)])
            have HBN : Hid (Below w1.heap.size w1 (w3.setCell ⟨Bf q, t, none⟩ (.int .i64 (p q t)))) := hT3.below hlt hb13 _
            clear hT3 hP3
            generalize Bf q = B at *
            generalize BP q = B2 at *
            go_wp2_with fail
            refine wp_region_still_tail 13 (by kernel_rfl) (by kernel_rfl) ?_
            simp only [List.take_succ_cons, List.take_zero, List.drop_succ_cons, List.drop_zero]
            show wpStill Try.prog _ w3.drew (fun a' => wpList Try.prog _ _ _ a' w3.drew) _ _
            repeat still_step
            refine wpStill_nil ?_
            go_wp2_with fail
            go_roundw
            case rel => exact ⟨(unhide HBN).trans (Below.refl _ _).drew, t + 1, by omega, by go_num, (unhide HTN).later (Below.refl _ _).drew⟩
            case measure => simp [intOf]; omega
          · rw [decide_eq_false hc] at C
            have C := hide C
            have hz : st0 p q t = 0 := by unfold st0; rw [if_neg hc]
            have HTQ := hide (hT.same (f' := s0 p q (t + 1)) (fun i j hi hj => by
              unfold s0
              by_cases c1 : i < q ∨ (i = q ∧ j < t)
              · rw [if_pos c1, if_pos (by omega)]
              · rw [if_neg c1]
                by_cases c2 : i = q ∧ j = t
                · obtain ⟨rfl, rfl⟩ := c2
                  rw [if_pos (by omega), hz]
                · rw [if_neg (by omega)]))
            clear hT
            go_wp2_with fail
            refine (unhide C).mono ?_
            rintro e w3 ⟨rfl, hb3⟩
            go_wp2_with fail
            go_roundw
            case rel => exact ⟨hbr2.trans (hb3.mono hbr2.size), t + 1, by omega, by go_num, (unhide HTQ).later hb3⟩
            case measure => simp [intOf]; omega
        · obtain rfl : n = t := by omega
          have HTQ := hide (hT.same (f' := s0 p (q + 1) 0) (fun i j hi hj => by
            unfold s0
            by_cases c1 : i < q ∨ (i = q ∧ j < n)
            · rw [if_pos c1, if_pos (by omega)]
            · rw [if_neg c1, if_neg (by omega)]))
          clear hT
          go_wp2_with fail
          go_roundw
          case rel => exact ⟨hbr2, q + 1, by omega, by go_num, unhide HTQ⟩
          case measure => simp [intOf]; omega
    · obtain rfl : n = q := by omega
      have HTQ := hide (hT.same (f' := fw p 0) (fun i j hi hj => by unfold s0 fw; rw [if_pos (by omega)]))
      clear hT C47
      go_wp2_with fail
      rename World => wq
      go_loopw [53, 11, 12, 13] (fun i _ _ _ wr => Below w1.heap.size w1 wr ∧ ∃ k : Nat, k ≤ n ∧ i = .int .i64 k ∧ Tab w1.heap.size wr G Bf n (fw p k)) (fun i _ _ _ _ => n - (intOf i).toNat)
      case atStart => exact ⟨hbr, 0, Nat.zero_le _, rfl, unhide HTQ⟩
      case round =>
        obtain ⟨hbr3, k, hk, rfl, hT⟩ := hrel
        by_cases hltk : k < n
        · have HTK := hide (hT.same (f' := s1 p k 0 0) (fun i j hi hj => by unfold s1; rw [if_neg (by omega)]))
          clear hT HTQ
          go_wp2_with fail
          rename World => wk
          go_loopw [57, 12, 13] (fun i _ _ wr => Below w1.heap.size w1 wr ∧ ∃ q : Nat, q ≤ n ∧ i = .int .i64 q ∧ Tab w1.heap.size wr G Bf n (s1 p k q 0)) (fun i _ _ _ => n - (intOf i).toNat)
          case atStart => exact ⟨hbr3, 0, Nat.zero_le _, rfl, unhide HTK⟩
          case round =>
            obtain ⟨hbr4, q, hq4, rfl, hT⟩ := hrel
            by_cases hltq : q < n
            · have HTK := hide hT
              clear hT
              go_wp2_with fail
              rename World => wv
              go_loopw [61, 13] (fun i _ wr => Below w1.heap.size w1 wr ∧ ∃ t : Nat, t ≤ n ∧ i = .int .i64 t ∧ Tab w1.heap.size wr G Bf n (s1 p k q t)) (fun i _ _ => n - (intOf i).toNat)
              case atStart => exact ⟨hbr4, 0, Nat.zero_le _, rfl, unhide HTK⟩
              case round =>
                obtain ⟨hbr5, t, ht, rfl, hT⟩ := hrel
                by_cases hltt : t < n
                · by_cases hqt : q = t
                  · have HTN := hide (hT.same (f' := s1 p k q (t + 1)) (fun i j hi hj => by
                      unfold s1
                      by_cases c1 : i < q ∨ (i = q ∧ j < t)
                      · rw [if_pos c1, if_pos (by omega)]
                      · rw [if_neg c1]
                        by_cases c2 : i = q ∧ j = t
                        · rw [if_pos (by omega), fw, if_pos (by omega)]
                        · rw [if_neg (by omega)]))
                    have hqt2 : ((q : Int) != (t : Int)) = false := by simp; omega
                    clear hT
                    go_wp2_with fail
                    go_roundw
                    case rel => exact ⟨hbr5, t + 1, by omega, by go_num, unhide HTN⟩
                    case measure => simp [intOf]; omega
                  · have hqt2 : ((q : Int) != (t : Int)) = true := by simp; omega
                    have y1 := hT.2.2.1 q hltq
                    have y2 := hT.2.2.1 k hltk
                    have y3 : wr.cell? ⟨Bf q, t, none⟩ = some (.int .i64 (fw p k q t)) := by rw [hT.2.2.2.2.2.1 q t hltq hltt]; unfold s1; rw [if_neg (by omega)]
                    have y4 : wr.cell? ⟨Bf q, k, none⟩ = some (.int .i64 (fw p k q k)) := by
                      rw [hT.2.2.2.2.2.1 q k hltq hltk]
                      unfold s1
                      rw [fw_col (unhide HP0)]
                      simp
                    have y5 : wr.cell? ⟨Bf k, t, none⟩ = some (.int .i64 (fw p k k t)) := by
                      rw [hT.2.2.2.2.2.1 k t hltk hltt]
                      unfold s1
                      rw [fw_row (unhide HP0)]
                      simp
                    have y6 := hT.2.2.2.2.2.2 q t hltq hltt
                    have HNN : Hid (max (fw p k q t) (min (fw p k q k) (fw p k k t)) = fw p (k + 1) q t) := by
                      show _ = _
                      rw [fw, if_neg hqt]; rfl
                    have HTN : Hid (Tab w1.heap.size (wr.setCell ⟨Bf q, t, none⟩ (.int .i64 (max (fw p k q t) (min (fw p k q k) (fw p k k t))))) G Bf n (s1 p k q (t + 1))) := hT.set hltq hltt (by unfold s1; rw [if_pos (by omega)]; exact unhide HNN) (fun i j hi hj hne => by
                      unfold s1
                      by_cases c1 : i < q ∨ (i = q ∧ j < t)
                      · rw [if_pos c1, if_pos (by omega)]
                      · rw [if_neg c1, if_neg (by omega)])
                    have HBN : Hid (Below w1.heap.size w1 (wr.setCell ⟨Bf q, t, none⟩ (.int .i64 (max (fw p k q t) (min (fw p k q k) (fw p k k t)))))) := hT.below hltq hbr5 _
                    clear hT
                    generalize fw p k q t = d0 at *
                    generalize fw p k q k = d1 at *
                    generalize fw p k k t = d2 at *
                    generalize hB1 : Bf q = B1 at *
                    generalize hB2 : Bf k = B2 at *
                    clear hB1 hB2
                    go_wp2_with fail
                    refine wp_region_still_tail 29 (by kernel_rfl) (by kernel_rfl) ?_
                    simp only [List.take_succ_cons, List.take_zero, List.drop_succ_cons, List.drop_zero]
                    show wpStill Try.prog _ wr.drew (fun a' => wpList Try.prog _ _ _ a' wr.drew) _ _
                    repeat still_step
                    refine wpStill_nil ?_
                    go_wp2_with fail
                    go_roundw
                    case rel => exact ⟨(unhide HBN).trans (Below.refl _ _).drew, t + 1, by omega, by go_num, (unhide HTN).later (Below.refl _ _).drew⟩
                    case measure => simp [intOf]; omega
                · obtain rfl : n = t := by omega
                  have HTN := hide (hT.same (f' := s1 p k (q + 1) 0) (fun i j hi hj => by
                    unfold s1
                    by_cases c1 : i < q ∨ (i = q ∧ j < n)
                    · rw [if_pos c1, if_pos (by omega)]
                    · rw [if_neg c1, if_neg (by omega)]))
                  clear hT
                  go_wp2_with fail
                  go_roundw
                  case rel => exact ⟨hbr5, q + 1, by omega, by go_num, unhide HTN⟩
                  case measure => simp [intOf]; omega
            · obtain rfl : n = q := by omega
              have HTN := hide (hT.same (f' := fw p (k + 1)) (fun i j hi hj => by unfold s1; rw [if_pos (by omega)]))
              clear hT
              go_wp2_with fail
              go_roundw
              case rel => exact ⟨hbr4, k + 1, by omega, by go_num, unhide HTN⟩
              case measure => simp [intOf]; omega
        · obtain rfl : n = k := by omega
          have HTN := hide hT
          clear hT HTQ
          go_wp2_with fail
          go_ret2
          obtain ⟨t1, t2, t3, t4, t5, t6, t7⟩ := unhide HTN
          exact ⟨G, Bf, rfl, ⟨Nat.le_trans hb1.size t1, t2, t3, fun i hi => ⟨Nat.le_trans hb1.size (t4 i hi).1, (t4 i hi).2⟩, t5, t6, t7⟩, hb1.trans (hbr3.mono hb1.size)⟩
end Go.Proofs.Ytloandcndnmkhaa
