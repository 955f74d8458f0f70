import Derived.Test.YtloandcndnmkhaaNN
namespace Go.Proofs.Ytloandcndnmkhaa
open Go.RowKit
theorem cRow_le (p : Nat → Nat → Int) (o x : Nat) : ∀ t : Nat, -(t : Int) ≤ cRow p o t x ∧ cRow p o t x ≤ t := by
  intro t
  induction t with
  | zero => exact ⟨by simp [cRow], by simp [cRow]⟩
  | succ t ih =>
    unfold cRow
    by_cases e : x = o
    · subst e
      by_cases e2 : x = t
      · subst e2; (repeat' split) <;> omega
      · (repeat' split) <;> omega
    · (repeat' split) <;> omega
theorem cAll_le (p : Nat → Nat → Int) (n x : Nat) : ∀ k : Nat, -((k * n : Nat) : Int) ≤ cAll p n k x ∧ cAll p n k x ≤ ((k * n : Nat) : Int) := by
  intro k
  induction k with
  | zero => exact ⟨by simp [cAll], by simp [cAll]⟩
  | succ k ih =>
    have := cRow_le p k x n
    rw [show (k + 1) * n = k * n + n by rw [Nat.add_mul]; omega]
    unfold cAll
    omega
def CoPost (p : Nat → Nat → Int) (n : Nat) (w : World) (e : Ending) (w' : World) : Prop :=
  (∃ G, e = .returned (.tuple #[.slice (some ⟨G, 0, none⟩) n n, .int .i64 0]) ∧ Vec w w' G n (fun x => cpT p x n)) ∧ Below w.heap.size w w'
set_option maxRecDepth 100000 in
set_option maxHeartbeats 4000000 in
theorem copeland_any (n : Nat) (a : Option Addr) (m c : Nat) (l : List Bal) (w : World) (h : Bals w a m c l) (hg : Good n l) :
    Calls Try.prog 14 #[.int .i64 n, .slice a m c] w fun e w' => CoPost (prf l l.length) n w e w' := by
  obtain ⟨j3, hj3, hy0, hy1, hy2⟩ := info_parts info3
  have hn1 := hg.1
  have hn6 := hg.2.1
  have CP := hide (pairs_any n a m c l w h hg)
  clear h hg
  generalize prf l l.length = p at *
  go_enter Try.func14, Try.ntmps14
  go_wp2_with fail
  refine (unhide CP).mono ?_
  rintro e w1 ⟨GT, Bf, rfl, hT, hb1⟩
  have HT := hide hT
  have HB1 := hide hb1
  clear hT hb1
  unfold two
  go_wp2_with (at_make; refine wpList_make_full _ rfl _ _ 23 rfl w1.heap.size 3 j3 _ 1 Try.underlying23 hj3 hy0 hy1 .i64 .i64 _ _ n rfl rfl rfl rfl (by rw [hy2]; omega) (by unfold maxLen; omega) (Nat.le_refl _) ?_; intro w2 ho2 hg2; have hb2 : Below w1.heap.size w1 w2 := (Below.refl w1.heap.size w1).grown hg2 (Nat.le_refl _) (fun k hk => by cases hk))
  have hrow := row_made ho2
  obtain ⟨G, hG, e2, e3, e4, e5⟩ : ∃ gg, w1.heap.size = gg ∧ w1.heap.size ≤ gg ∧ gg < w2.heap.size ∧ (∀ t, t < n → w2.cell? ⟨gg, t, none⟩ = some (.int .i64 0)) ∧ (∀ t, t < n → w2.frozen? ⟨gg, t, none⟩ = false) := by
    rcases hrow with h | ⟨b, h1, h2, h3, h4, h5⟩
    · omega
    · cases h1; exact ⟨_, rfl, h2, h3, h4, h5⟩
  rw [show (⟨w1.heap.size, 0, none⟩ : Addr) = ⟨G, 0, none⟩ by rw [hG]]
  have HV0 : Hid (Below w1.heap.size w1 w2 ∧ Vec w1 w2 G n (fun x => cAll p n 0 x)) := ⟨hb2, e2, e3, fun i hi => ⟨e4 i hi, e5 i hi⟩⟩
  clear hrow ho2 hg2 hb2 hG e2 e3 e4 e5
  go_wp2_with fail
  go_loopw [23] (fun i wr => ∃ k : Nat, k ≤ n ∧ i = .int .i64 (k : Int) ∧ Below w1.heap.size w1 wr ∧ Vec w1 wr G n (fun x => cAll p n k x)) (fun i _ => n - (intOf i).toNat)
  case atStart => exact ⟨0, Nat.zero_le _, rfl, unhide HV0⟩
  case round =>
    obtain ⟨k, hk, rfl, hbr, hv⟩ := hrel
    by_cases hlt : k < n
    · have HW : Hid (Below w1.heap.size w1 wr ∧ Vec w1 wr G n (fun x => cAll p n k x + cRow p k 0 x)) := ⟨hbr, hv.1, hv.2.1, fun i hi => ⟨by rw [(hv.2.2 i hi).1]; show _ = some (Value.int .i64 (cAll p n k i + 0)); rw [Int.add_zero], (hv.2.2 i hi).2⟩⟩
      clear hbr hv
      go_wp2_with fail
      (try rw [show decide ((k : Int) < (n : Int)) = true by simp; omega])
      go_loopw [27] (fun i wy => ∃ t : Nat, t ≤ n ∧ i = .int .i64 (t : Int) ∧ Below w1.heap.size w1 wy ∧ Vec w1 wy G n (fun x => cAll p n k x + cRow p k t x)) (fun i _ => n - (intOf i).toNat)
      case atStart => exact ⟨0, Nat.zero_le _, rfl, unhide HW⟩
      case round =>
        obtain ⟨t, ht, rfl, r1, r2⟩ := hrel
        by_cases hltt : t < n
        · have C := beats_any w.heap.size wr GT Bf n p k t ((unhide HT).later r1) hlt hltt
          have HR := hide (And.intro r1 r2)
          clear r1 r2
          by_cases hbt : p t k < p k t
          · have hkt : k ≠ t := fun e => by subst e; omega
            rw [decide_eq_true hbt] at C
            have C := hide C
            have HCR : Hid (∀ x, cRow p k (t + 1) x = cRow p k t x + ((if x = k then 1 else 0) - (if x = t then 1 else 0))) := fun x => by show cRow p k t x + _ = _; rw [if_pos hbt]
            go_wp2_with fail
            refine (unhide C).mono ?_
            rintro e w3 ⟨rfl, hb3⟩
            obtain ⟨r1, r2⟩ := unhide HR
            have hv3 := r2.later hb3
            have hb3' := r1.trans (hb3.mono r1.size)
            have k1 := hv3.2.2 k hlt
            have k2 := hv3.2.2 t hltt
            dsimp only at k1 k2
            have b1 := cAll_le p n k k
            have b2 := cRow_le p k k t
            have b3 := cAll_le p n t k
            have b4 := cRow_le p k t t
            have hkn : k * n ≤ 36 := by have := Nat.mul_le_mul hk hn6; have : k * n ≤ 6 * 6 := Nat.mul_le_mul (by omega) hn6; omega
            have HF : Hid (Below w1.heap.size w1 ((w3.setCell ⟨G, k, none⟩ (.int .i64 (cAll p n k k + cRow p k t k + 1))).setCell ⟨G, t, none⟩ (.int .i64 (cAll p n k t + cRow p k t t - 1))) ∧ Vec w1 ((w3.setCell ⟨G, k, none⟩ (.int .i64 (cAll p n k k + cRow p k t k + 1))).setCell ⟨G, t, none⟩ (.int .i64 (cAll p n k t + cRow p k t t - 1))) G n (fun x => cAll p n k x + cRow p k (t + 1) x)) := by
              refine ⟨(hb3'.setCell (p := ⟨G, k, none⟩) hv3.1 _).setCell (p := ⟨G, t, none⟩) hv3.1 _, ?_⟩
              have s1 : Vec w1 (w3.setCell ⟨G, k, none⟩ (.int .i64 (cAll p n k k + cRow p k t k + 1))) G n (fun x => cAll p n k x + cRow p k t x + if x = k then 1 else 0) := hv3.set hlt (by rw [if_pos rfl]) (fun i hi hne => by rw [if_neg hne, Int.add_zero])
              refine s1.set hltt ?_ (fun i hi hne => ?_)
              · rw [unhide HCR, if_neg (Ne.symm hkt), if_pos rfl]; omega
              · rw [unhide HCR, if_neg hne]; omega
            have z1 : IntKind.i64.wrap (cAll p n k k + cRow p k t k + 1) = cAll p n k k + cRow p k t k + 1 := by rw [IntKind.wrap_i64]; omega
            have z2 : IntKind.i64.wrap (cAll p n k t + cRow p k t t - 1) = cAll p n k t + cRow p k t t - 1 := by rw [IntKind.wrap_i64]; omega
            generalize cAll p n k k + cRow p k t k = V1 at *
            generalize cAll p n k t + cRow p k t t = V2 at *
            obtain ⟨c1, f1⟩ := k1
            obtain ⟨c2, f2⟩ := k2
            have c2' : (w3.setCell ⟨G, k, none⟩ (.int .i64 (V1 + 1))).cell? ⟨G, t, none⟩ = some (.int .i64 V2) := by
              rw [World.cell?_setCell_other _ _ _ _ (by intro hh; cases hh; exact hkt rfl)]; exact c2
            have hki : (k : Int) < n := by omega
            have hti : (t : Int) < n := by omega
            clear r1 r2 hv3 hb3' hb3 b1 b2 b3 b4 c2
            go_wp2_with fail
            go_roundw
            case rel => exact ⟨t + 1, by omega, by go_num, unhide HF⟩
            case measure => simp [intOf]; omega
          · rw [decide_eq_false hbt] at C
            have C := hide C
            have HCR : Hid (∀ x, cRow p k (t + 1) x = cRow p k t x) := fun x => by show cRow p k t x + _ = _; rw [if_neg hbt, Int.add_zero]
            go_wp2_with fail
            refine (unhide C).mono ?_
            rintro e w3 ⟨rfl, hb3⟩
            have HB3 := hide hb3
            clear hb3
            go_wp2_with fail
            go_roundw
            case rel =>
              obtain ⟨r1, r2⟩ := unhide HR
              have hv3 := r2.later (unhide HB3)
              exact ⟨t + 1, by omega, by go_num, r1.trans ((unhide HB3).mono r1.size), hv3.1, hv3.2.1, fun i hi => ⟨by rw [(hv3.2.2 i hi).1]; dsimp only; rw [unhide HCR], (hv3.2.2 i hi).2⟩⟩
            case measure => simp [intOf]; omega
        · obtain rfl : t = n := by omega
          go_wp2_with fail
          go_roundw
          case rel => exact ⟨k + 1, by omega, by go_num, r1, r2⟩
          case measure => simp [intOf]; omega
    · obtain rfl : k = n := by omega
      go_wp2_with fail
      go_ret2
      have hb1 := unhide HB1
      refine ⟨⟨G, rfl, by have := hv.1; have := hb1.size; omega, hv.2.1, fun i hi => ⟨by rw [(hv.2.2 i hi).1]; dsimp only; rw [copeland_same p k i hi], (hv.2.2 i hi).2⟩⟩, hb1.trans (hbr.mono hb1.size)⟩
end Go.Proofs.Ytloandcndnmkhaa
