import Derived.Test.YtnkeaaiangmfhaaF
namespace Go.Proofs.Ytnkeaaiangmfhaa
open Go.RowKit
theorem dv_step (r : Int) (v : Nat → Int) (n h j : Nat) : dv r v n h j ≤ dv r v n (h + 1) j ∧ dv r v n (h + 1) j ≤ dv r v n h j + 1 := by
  rw [dv]
  by_cases e : j = (nxt r v (dv r v n h) n).1
  · rw [if_pos e]; omega
  · rw [if_neg e]; omega
theorem sum_le {f : Nat → Int} {M : Int} (h : ∀ j, 0 ≤ f j ∧ f j ≤ M) (hM : M ≤ 200) : ∀ k, 0 ≤ sumTo f k ∧ sumTo f k ≤ k * 200 := by
  intro k
  induction k with
  | zero => exact ⟨by simp [sumTo], by simp [sumTo]⟩
  | succ k ih =>
    have := h k
    unfold sumTo
    omega
set_option maxRecDepth 100000 in
set_option maxHeartbeats 8000000 in
theorem topHouse_any (a : Option Addr) (m c : Nat) (raw : List Int) (x y : Int) (w : World) (h : Ints w a m c raw) (hr : ∀ z ∈ raw, InR z) (hx : InR x) (hy : InR y) :
    Calls Try.prog 3 #[.slice a m c, .int .i64 x, .int .i64 y] w fun e w' => e = .returned (.bool true) ∧ Below w.heap.size w w' := by
  have h1 := h.2.1
  have h2 := h.2.2.1
  unfold maxLen at h2
  by_cases h64 : 64 < m
  · have d1 : decide (64 < (m : Int)) = true := decide_eq_true (by omega)
    clear h
    go_enter Try.func3, Try.ntmps3
    go_wp2
    go_ret
    exact ⟨rfl, Below.refl _ _⟩
  have d1 : decide (64 < (m : Int)) = false := decide_eq_false (by omega)
  have CV := hide (votesOf_any a m c raw w h hr (by omega))
  have CX := hide (fun W => pick_any x 200 hx (by omega) (by omega) W)
  have CY := hide (fun W => pick_any y 4 hy (by omega) (by omega) W)
  clear h hr
  go_enter Try.func3, Try.ntmps3
  go_wp2_with fail
  refine (unhide CV).mono ?_
  rintro e w1 ⟨va, n, vc, vl, rfl, hI, hV, hb1⟩
  have hn0 := hV.1
  have hn8 := hV.2.1
  have hv1 := hI.2.1
  have hv2 := hI.2.2.1
  unfold maxLen at hv2
  have HI := hide hI
  have HV := hide hV
  clear hI hV
  go_wp2_with fail
  refine (unhide CX _).mono ?_
  rintro e w2 ⟨ho, hho, rfl, hw2⟩
  subst w2
  go_wp2_with fail
  refine (unhide CY _).mono ?_
  rintro e w2 ⟨r, hr4, rfl, hw2⟩
  subst w2
  obtain ⟨R, hR⟩ : ∃ R : Int, R = 1 + (r : Int) := ⟨_, rfl⟩
  have z1 : (1 : Int) + (r : Int) = R := hR.symm
  have hR1 : 1 ≤ R := by omega
  have hR4 : R ≤ 4 := by omega
  clear hR
  have C6 := hide (divide_any R va n vc vl ho w1 (unhide HI) (unhide HV) (by omega) hR1 hR4)
  unfold two at C6
  go_wp2_with fail
  refine (unhide C6).mono ?_
  rintro e w2 ⟨a2, c2, rfl, hI2, hb2⟩
  have C7 := hide (divide_any R va n vc vl (ho + 1) w2 ((unhide HI).later hb2) (unhide HV) (by omega) hR1 hR4)
  unfold two at C7
  have ec : ((ho + 1 : Nat) : Int) = (ho : Int) + 1 := by omega
  rw [ec] at C7
  have h21 := hI2.2.1
  have h22 := hI2.2.2.1
  unfold maxLen at h22
  have HI2 := hide hI2
  clear hI2
  go_wp2_with fail
  refine (unhide C7).mono ?_
  rintro e w3 ⟨a3, c3, rfl, hI3, hb3⟩
  have h31 := hI3.2.1
  have h32 := hI3.2.2.1
  unfold maxLen at h32
  obtain ⟨g3, o3, hg3, hl3, hc3⟩ := hI3.cellAt hn0
  obtain ⟨g2, o2, hg2, hl2, hc2⟩ := ((unhide HI2).later hb3).cellAt hn0
  obtain ⟨g1, o1, hg1, hl1, hc1⟩ := ((unhide HI).later (hb2.trans (hb3.mono hb2.size))).cellAt hn0
  subst hg3 hg2 hg1
  have HB := hide ((hb1.trans (hb2.mono hb1.size)).trans (hb3.mono (hb1.trans (hb2.mono hb1.size)).size))
  have HC3 := hide hc3
  have HC2 := hide hc2
  have HC1 := hide hc1
  clear hc1 hc2 hc3 hI3 C6 C7 CV CX CY
  have HF : Hid (∀ W, Below w3.heap.size w3 W → ∀ j, j < n → ∃ z p q : Int, W.cell? ⟨g1, o1 + j, none⟩ = some (.int .i64 z) ∧ W.cell? ⟨g2, o2 + j, none⟩ = some (.int .i64 p) ∧ W.cell? ⟨g3, o3 + j, none⟩ = some (.int .i64 q) ∧ p = dv R (fun j => vl[j]?.getD 0) n ho j ∧ 0 ≤ p ∧ p ≤ 200 ∧ p ≤ q ∧ q ≤ p + 1 ∧ (z = 0 → q = 0)) := fun W hW j hj => by
    refine ⟨_, _, _, (hW.cell (p := ⟨g1, o1 + j, none⟩) hl1).trans (unhide HC1 j hj), (hW.cell (p := ⟨g2, o2 + j, none⟩) hl2).trans (unhide HC2 j hj), (hW.cell (p := ⟨g3, o3 + j, none⟩) hl3).trans (unhide HC3 j hj), seatL_at hj, ?_⟩
    rw [seatL_at hj, seatL_at hj]
    have k1 := dv_le R (fun j => vl[j]?.getD 0) n ho j
    have k2 := dv_step R (fun j => vl[j]?.getD 0) n ho j
    exact ⟨by omega, by omega, k2.1, k2.2, fun hz => dv_who (r := R) (v := fun j => vl[j]?.getD 0) (n := n) (unhide HV).2.2.2 (ho + 1) j hz⟩
  have HS : Hid (sumTo (dv R (fun j => vl[j]?.getD 0) n ho) n = ho) := dv_sum hn0 ho
  have HSB : Hid (∀ k, 0 ≤ sumTo (dv R (fun j => vl[j]?.getD 0) n ho) k ∧ sumTo (dv R (fun j => vl[j]?.getD 0) n ho) k ≤ k * 200) := sum_le (M := ho) (dv_le R (fun j => vl[j]?.getD 0) n ho) (by omega)
  have HSS : Hid (∀ k, sumTo (dv R (fun j => vl[j]?.getD 0) n ho) (k + 1) = sumTo (dv R (fun j => vl[j]?.getD 0) n ho) k + dv R (fun j => vl[j]?.getD 0) n ho k) := fun k => rfl
  generalize dv R (fun j => vl[j]?.getD 0) n ho = D at *
  clear HC1 HC2 HC3 HV HI HI2
  go_wp2_with fail
  go_loopw [13, 12] (fun i s wr => Below w3.heap.size w3 wr ∧ ∃ k : Nat, k ≤ n ∧ i = .int .i64 k ∧ s = .int .i64 (sumTo D k)) (fun i _ _ => n - (intOf i).toNat)
  case atStart => exact ⟨Below.refl _ _, 0, Nat.zero_le _, rfl, rfl⟩
  case round =>
    obtain ⟨hbr, k, hk, rfl, rfl⟩ := hrel
    by_cases hlt : k < n
    · obtain ⟨z, p, q, q1, q2, q3, q4, q5, q6, q7, q8, q9⟩ := unhide HF wr hbr k hlt
      have s1 := unhide HSB k
      have HE : Hid (sumTo D (k + 1) = sumTo D k + p) := by rw [q4]; exact unhide HSS k
      clear q4
      generalize sumTo D k = S at *
      have e1 : decide (q < p) = false := decide_eq_false (by omega)
      have e2 : decide (p + 1 < q) = false := decide_eq_false (by omega)
      by_cases hz : z = 0
      · subst hz
        obtain rfl := q9 rfl
        clear q9
        go_wp2_with fail
        go_quiet (fail)
        go_wp2
        go_roundw
        case rel => exact ⟨hbr.trans ((below_drewN _ _ _).mono hbr.size), k + 1, by omega, by go_num, by rw [unhide HE]⟩
        case measure => simp [intOf]; omega
      · have hz2 : (z == 0) = false := by simpa using hz
        clear q9
        go_wp2_with fail
        go_quiet (fail)
        go_wp2
        go_roundw
        case rel => exact ⟨hbr.trans ((below_drewN _ _ _).mono hbr.size), k + 1, by omega, by go_num, by rw [unhide HE]⟩
        case measure => simp [intOf]; omega
    · obtain rfl : n = k := by omega
      rw [unhide HS]
      go_wp2
      go_ret
      exact ⟨ret_bool (by simp), (unhide HB).trans (hbr.mono (unhide HB).size)⟩
end Go.Proofs.Ytnkeaaiangmfhaa
