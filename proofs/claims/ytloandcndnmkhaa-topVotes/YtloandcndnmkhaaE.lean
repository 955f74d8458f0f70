import Derived.Test.YtloandcndnmkhaaD
namespace Go.Proofs.Ytloandcndnmkhaa
open Go.RowKit
/-- How a ballot is told to the table: its first i rows, and m of the next one. -/
def part (o : List Int) (c : Int) (i m x y : Nat) : Int :=
  if (idxFrom o x 0 < i ∧ idxFrom o x 0 < idxFrom o y 0) ∨ (idxFrom o x 0 = i ∧ (i : Int) < idxFrom o y 0 ∧ idxFrom o y 0 < (i : Int) + 1 + m) then c else 0
theorem part_zero (o : List Int) (c : Int) (x y : Nat) (hx : 0 ≤ idxFrom o x 0) : part o c 0 0 x y = 0 := by
  unfold part; rw [if_neg (by omega)]
theorem part_row (o : List Int) (c : Int) (n i x y : Nat) (hy : idxFrom o y 0 < n) (hi : i < n) : part o c i (n - (i + 1)) x y = part o c (i + 1) 0 x y := by
  unfold part
  have e : ((n - (i + 1) : Nat) : Int) = (n : Int) - (i + 1) := by omega
  rw [e]
  by_cases h : (idxFrom o x 0 < i ∧ idxFrom o x 0 < idxFrom o y 0) ∨ (idxFrom o x 0 = i ∧ (i : Int) < idxFrom o y 0 ∧ idxFrom o y 0 < (i : Int) + 1 + ((n : Int) - (i + 1)))
  · rw [if_pos h, if_pos (by omega)]
  · rw [if_neg h, if_neg (by omega)]
theorem part_other (o : List Int) (c : Int) (i m x y : Nat) (h : ¬ (idxFrom o x 0 = i ∧ idxFrom o y 0 = (i : Int) + 1 + m)) : part o c i (m + 1) x y = part o c i m x y := by
  unfold part
  by_cases h1 : (idxFrom o x 0 < i ∧ idxFrom o x 0 < idxFrom o y 0) ∨ (idxFrom o x 0 = i ∧ (i : Int) < idxFrom o y 0 ∧ idxFrom o y 0 < (i : Int) + 1 + m)
  · rw [if_pos h1, if_pos (by omega)]
  · rw [if_neg h1, if_neg (by omega)]
theorem part_here (o : List Int) (c : Int) (i m x y : Nat) (h : idxFrom o x 0 = i ∧ idxFrom o y 0 = (i : Int) + 1 + m) : part o c i (m + 1) x y = c ∧ part o c i m x y = 0 := by
  unfold part
  exact ⟨if_pos (by omega), if_neg (by omega)⟩
theorem part_end (o : List Int) (c : Int) (n x y : Nat) (hx : idxFrom o x 0 < n) : part o c n 0 x y = if idxFrom o x 0 < idxFrom o y 0 then c else 0 := by
  unfold part
  by_cases h : idxFrom o x 0 < idxFrom o y 0
  · rw [if_pos h, if_pos (by omega)]
  · rw [if_neg h, if_neg (by omega)]
theorem part_le (o : List Int) (c : Int) (i m x y : Nat) (h0 : 0 ≤ c) : 0 ≤ part o c i m x y ∧ part o c i m x y ≤ c := by
  unfold part
  by_cases h1 : (idxFrom o x 0 < i ∧ idxFrom o x 0 < idxFrom o y 0) ∨ (idxFrom o x 0 = i ∧ (i : Int) < idxFrom o y 0 ∧ idxFrom o y 0 < (i : Int) + 1 + m)
  · rw [if_pos h1]; omega
  · rw [if_neg h1]; omega
def PairPost (n : Nat) (f : Nat → Nat → Int) (w : World) (e : Ending) (w' : World) : Prop :=
  ∃ G Bf, e = .returned (two (.slice (some ⟨G, 0, none⟩) n n) 0) ∧ Tab w.heap.size w' G Bf n f ∧ Below w.heap.size w w'
set_option maxRecDepth 100000 in
set_option maxHeartbeats 8000000 in
theorem pairs_any (n : Nat) (a : Option Addr) (m c : Nat) (l : List Bal) (w : World) (h : Bals w a m c l) (hg : Good n l) :
    Calls Try.prog 19 #[.int .i64 n, .slice a m c] w fun e w' => PairPost n (prf l l.length) w e w' := by
  have CM := hide (may_any n a m c l w h)
  rw [(good_iff n l).2 hg] at CM
  have h1 := h.2.1
  have h2 := h.2.2.1
  unfold maxLen at h2
  have hn1 := hg.1
  have hn6 := hg.2.1
  have HN := hide h.1
  have HH := hide h
  have HG := hide hg
  clear h hg
  go_enter Try.func19, Try.ntmps19
  go_wp2_with (go_at_call 9; refine (unhide CM).mono ?_; rintro e w1 ⟨rfl, hb1⟩)
  refine (table_any n w1 hn6).mono ?_
  rintro e w2 ⟨G, Bf, rfl, hT, hb2⟩
  have hT0 : Tab w.heap.size w2 G Bf n (prf l 0) := by
    obtain ⟨t1, t2, t3, t4, t5, t6, t7⟩ := hT
    exact ⟨Nat.le_trans hb1.size t1, t2, t3, fun i hi => ⟨Nat.le_trans hb1.size (t4 i hi).1, (t4 i hi).2⟩, t5, t6, t7⟩
  have HT0 := hide hT0
  have HB2 := hide (hb1.trans (hb2.mono hb1.size))
  clear hT hT0 hb1 hb2 CM
  go_wp2_with fail
  go_loopw [24, 9, 10, 11, 13] (fun i _ _ _ _ wr => Below w.heap.size w wr ∧ ∃ k : Nat, k ≤ m ∧ i = .int .i64 k ∧ Tab w.heap.size wr G Bf n (prf l k)) (fun i _ _ _ _ _ => m - (intOf i).toNat)
  case atStart => exact ⟨unhide HB2, 0, Nat.zero_le _, rfl, unhide HT0⟩
  case round =>
    obtain ⟨hbr, k, hk, rfl, hT⟩ := hrel
    by_cases hlt : k < m
    · have hlen : k < l.length := by have := unhide HN; omega
      obtain ⟨hord, hc0, hc1⟩ := (unhide HG).2.2.2 k hlen
      have hr := (unhide HH).later hbr
      obtain ⟨bA, oA, hA, hbA, hcell⟩ : ∃ b off, a = some ⟨b, off, none⟩ ∧ b < wr.heap.size ∧ ∀ j, j < m →
          wr.cell? ⟨b, off + j * 2, none⟩ = some (.int .i64 (balAt l j).count) ∧
          wr.cell? ⟨b, off + j * 2 + 1, none⟩ = some (.slice (balAt l j).oa (balAt l j).on (balAt l j).oc) := by
        rcases hr.2.2.2.2 with hz | hrow
        · omega
        · exact hrow
      subst hA
      obtain ⟨x1, x2⟩ := hcell k hlt
      have hIn := (unhide HH).at hlen
      have hon : (balAt l k).on = n := by
        have := hIn.1
        unfold ordE at hord
        by_cases cc : ((balAt l k).order.length : Int) = n
        · omega
        · rw [if_neg cc] at hord; omega
      have HP0 : Hid (∀ x y, x < n → prf l k x y = prf l k x y + part (balAt l k).order (balAt l k).count 0 0 x y) := fun x y hx => by
        obtain ⟨p, _, p2, _⟩ := ord_place hord hx
        rw [part_zero _ _ _ _ (by omega)]; omega
      have HPE : Hid (∀ x y, x < n → prf l k x y + part (balAt l k).order (balAt l k).count n 0 x y = prf l (k + 1) x y) := fun x y hx => by
        obtain ⟨p, p1, p2, _⟩ := ord_place hord hx
        rw [part_end _ _ _ _ _ (by omega)]; rfl
      have HPL : Hid (∀ x y, 0 ≤ prf l k x y ∧ prf l k x y ≤ 30000) := fun x y => by
        have := prf_le (unhide HG) x y k (by omega)
        have := (unhide HG).2.2.1
        omega
      have HORD := hide hord
      clear hord hcell hr
      generalize balAt l k = g at *
      obtain ⟨cn, oa, on, oc, od⟩ := g
      simp only at hon x1 x2 hIn HP0 HPE HORD hc0 hc1
      subst hon
      obtain ⟨bO, oO, hO, hbO, hcO⟩ := hIn.cellAt hn1
      subst hO
      have hoc := hIn.2.1
      have hom := hIn.2.2.1
      unfold maxLen at hom
      have HCO := hide hcO
      clear hIn hcO
      have hBx : Below wr.heap.size wr (wr.alloc (.cells #[.int .i64 cn, .slice (some ⟨bO, oO, none⟩) on oc] 44)) := by go_grown
      have HTA : Hid (Tab w.heap.size (wr.alloc (.cells #[.int .i64 cn, .slice (some ⟨bO, oO, none⟩) on oc] 44)) G Bf on (fun x y => prf l k x y + part od cn 0 0 x y)) := (hT.later hBx).same (fun x y hx hy => unhide HP0 x y hx)
      have HBA : Hid (Below w.heap.size w (wr.alloc (.cells #[.int .i64 cn, .slice (some ⟨bO, oO, none⟩) on oc] 44))) := hbr.trans (hBx.mono hbr.size)
      have HBF : Hid (∀ x, x < on → Bf x < wr.heap.size) := fun x hx => (hT.2.2.2.1 x hx).2.1
      obtain ⟨Bx, hBxe⟩ : ∃ b, wr.heap.size = b := ⟨_, rfl⟩
      have hgx : G < Bx := by have := hT.2.1; omega
      have hbx0 : w.heap.size ≤ Bx := by have := hbr.size; omega
      rw [hBxe] at HBF
      clear hT HP0 hBx
      go_wp2_with fail
      rename World => wq
      go_loopw [31, 10, 11, 13] (fun i _ _ _ wr => Below w.heap.size w wr ∧ Bx < wr.heap.size ∧ wr.cell? ⟨Bx, 0, none⟩ = some (.int .i64 cn) ∧ wr.cell? ⟨Bx, 1, none⟩ = some (.slice (some ⟨bO, oO, none⟩) on oc) ∧ ∃ q : Nat, q ≤ on ∧ i = .int .i64 q ∧ Tab w.heap.size wr G Bf on (fun x y => prf l k x y + part od cn q 0 x y)) (fun i _ _ _ _ => on - (intOf i).toNat)
      case atStart =>
        refine ⟨unhide HBA, ?_, ?_, ?_, 0, Nat.zero_le _, rfl, unhide HTA⟩
        · rw [← hBxe]; simp
        · rw [← hBxe]; simp
        · rw [← hBxe]; simp
      case round =>
        obtain ⟨hbr2, hxs, hx0, hx1, q, hq, rfl, hT⟩ := hrel
        by_cases hlq : q < on
        · obtain ⟨xq, hxq, hxo, hxi⟩ := ord_at (unhide HORD) hlq
          have hcq : wr.cell? ⟨bO, oO + q, none⟩ = some (.int .i64 xq) := by rw [hbr2.cell (p := ⟨bO, oO + q, none⟩) hbO, unhide HCO q hlq, hxo]
          have HTQ := hide hT
          clear hT hxo
          have HPR : Hid (∀ x y, x < on → y < on → prf l k x y + part od cn q (on - (q + 1)) x y = prf l k x y + part od cn (q + 1) 0 x y) := fun x y hx hy => by
            obtain ⟨p, p1, p2, _⟩ := ord_place (unhide HORD) hy
            rw [part_row _ _ on _ _ _ (by omega) hlq]
          go_wp2_with fail
          · rename oc = q + 1 => hck
            have hz : on - (q + 1) = 0 := by omega
            have hz2 : decide ((0 : Int) < ((on - (q + 1) : Nat) : Int)) = false := decide_eq_false (by omega)
            refine wp_loop_rounds 1 ?_
            rw [rounds_succ]
            go_wp2_with fail
            rw [← hck]
            have HCK := hide hck
            clear hck
            go_roundw
            case rel => exact ⟨hbr2, hxs, hx0, hx1, q + 1, by omega, by go_num, (unhide HTQ).same (fun x y hx hy => by rw [← unhide HPR x y hx hy, hz])⟩
            case measure => simp [intOf]; omega
          · rename World => wu
            rename ¬ oc = q + 1 => hck
            have HT1 : Hid (Tab w.heap.size wu G Bf on (fun x y => prf l k x y + part od cn q 0 x y)) := HTQ
            go_loopw [42, 13] (fun i _ wr => Below w.heap.size w wr ∧ Bx < wr.heap.size ∧ wr.cell? ⟨Bx, 0, none⟩ = some (.int .i64 cn) ∧ wr.cell? ⟨Bx, 1, none⟩ = some (.slice (some ⟨bO, oO, none⟩) on oc) ∧ ∃ t : Nat, t ≤ on - (q + 1) ∧ i = .int .i64 t ∧ Tab w.heap.size wr G Bf on (fun x y => prf l k x y + part od cn q t x y)) (fun i _ _ => on - (q + 1) - (intOf i).toNat)
            case atStart => exact ⟨hbr2, hxs, hx0, hx1, 0, Nat.zero_le _, rfl, unhide HT1⟩
            case round =>
              obtain ⟨hbr3, hxs3, hx03, hx13, t, ht, rfl, hT⟩ := hrel
              by_cases hlt3 : t < on - (q + 1)
              · obtain ⟨yt, hyt, hyo, hyi⟩ := ord_at (unhide HORD) (show q + 1 + t < on by omega)
                have hct : wr.cell? ⟨bO, oO + (q + 1) + t, none⟩ = some (.int .i64 yt) := by
                  rw [Nat.add_assoc oO, hbr3.cell (p := ⟨bO, oO + (q + 1 + t), none⟩) hbO, unhide HCO (q + 1 + t) (by omega), hyo]
                have y1 := hT.2.2.1 xq hxq
                have y2 : wr.cell? ⟨Bf xq, yt, none⟩ = some (.int .i64 (prf l k xq yt + part od cn q t xq yt)) := hT.2.2.2.2.2.1 xq yt hxq hyt
                have y3 := hT.2.2.2.2.2.2 xq yt hxq hyt
                have y4 := hT.2.1
                have y5 := (hT.2.2.2.1 xq hxq).2.1
                have y6 := unhide HBF xq hxq
                have hne : ¬ Bx = Bf xq := by omega
                have e1 := part_here od cn q t xq yt ⟨hxi, by omega⟩
                have hpl := unhide HPL xq yt
                have hv : prf l k xq yt + part od cn q t xq yt = prf l k xq yt := by rw [e1.2]; omega
                rw [hv] at y2
                have HTN : Hid (Tab w.heap.size (wr.setCell ⟨Bf xq, yt, none⟩ (.int .i64 (prf l k xq yt + cn))) G Bf on (fun x y => prf l k x y + part od cn q (t + 1) x y)) := hT.set hxq hyt (by rw [e1.1]) (fun i j hi hj hne => by
                  rw [part_other od cn q t i j (fun hh => hne ?_)]
                  obtain ⟨p, _, p2, p3⟩ := ord_place (unhide HORD) hi
                  obtain ⟨p', _, p2', p3'⟩ := ord_place (unhide HORD) hj
                  obtain ⟨r, _, r2, r3⟩ := ord_place (unhide HORD) hxq
                  obtain ⟨r', _, r2', r3'⟩ := ord_place (unhide HORD) hyt
                  have a1 : p = r := by omega
                  have a2 : p' = r' := by omega
                  subst a1 a2
                  exact ⟨by omega, by omega⟩)
                have HBN : Hid (Below w.heap.size w (wr.setCell ⟨Bf xq, yt, none⟩ (.int .i64 (prf l k xq yt + cn)))) := hT.below hxq hbr3 _
                have hz0 : (wr.setCell ⟨Bf xq, yt, none⟩ (.int .i64 (prf l k xq yt + cn))).cell? ⟨Bx, 0, none⟩ = some (.int .i64 cn) := by
                  rw [World.cell?_setCell_other _ _ _ _ (fun hh => hne (congrArg Addr.block hh).symm)]; exact hx03
                have hz1 : (wr.setCell ⟨Bf xq, yt, none⟩ (.int .i64 (prf l k xq yt + cn))).cell? ⟨Bx, 1, none⟩ = some (.slice (some ⟨bO, oO, none⟩) on oc) := by
                  rw [World.cell?_setCell_other _ _ _ _ (fun hh => hne (congrArg Addr.block hh).symm)]; exact hx13
                have HZ := hide (And.intro hz0 hz1)
                clear hT hz0 hz1 e1 hv
                generalize prf l k xq yt = P at *
                generalize Bf xq = B at *
                go_wp2_with fail
                refine wp_region_still_tail 11 (by kernel_rfl) (by kernel_rfl) ?_
                simp only [List.take_succ_cons, List.take_zero, List.drop_succ_cons, List.drop_zero]
                show wpStill Try.prog _ wr.drew (fun a' => wpList Try.prog _ _ _ a' wr.drew) _ _
                repeat still_step
                refine wpStill_nil ?_
                go_wp2_with fail
                go_roundw
                case rel => exact ⟨(unhide HBN).trans (Below.refl _ _).drew, by simpa using hxs3, (unhide HZ).1, (unhide HZ).2, t + 1, by omega, by go_num, (unhide HTN).later (Below.refl _ _).drew⟩
                case measure => simp [intOf]; omega
              · obtain rfl : t = on - (q + 1) := by omega
                have HTR := hide (hT.same (fun x y hx hy => unhide HPR x y hx hy))
                clear hT
                have hz2 : decide (((on - (q + 1) : Nat) : Int) < ((on - (q + 1) : Nat) : Int)) = false := decide_eq_false (by omega)
                go_wp2_with fail
                go_roundw
                case rel => exact ⟨hbr3, hxs3, hx03, hx13, q + 1, by omega, by go_num, unhide HTR⟩
                case measure => simp [intOf]; omega
        · obtain rfl : on = q := by omega
          have HTR := hide (hT.same (f' := prf l (k + 1)) (fun x y hx hy => unhide HPE x y hx))
          clear hT
          go_wp2_with fail
          go_roundw
          case rel => exact ⟨hbr2, k + 1, by omega, by go_num, unhide HTR⟩
          case measure => simp [intOf]; omega
    · obtain rfl : m = k := by omega
      have hml := unhide HN
      have HTR := hide hT
      rw [hml] at HTR
      clear hT hml
      go_wp2_with fail
      go_ret2
      exact ⟨G, Bf, rfl, unhide HTR, hbr⟩
end Go.Proofs.Ytloandcndnmkhaa
