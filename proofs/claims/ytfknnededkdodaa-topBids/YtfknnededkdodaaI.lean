import Derived.Test.YtfknnededkdodaaH
namespace Go.Proofs.Ytfknnededkdodaa
open Go.RowKit
theorem tg_mul {v : Nat → Int} {s k : Nat} : tg v s (k + 1) = tg v s k + v k * ((s / 2 ^ k % 2 : Nat) : Int) := by
  have h : s / 2 ^ k % 2 = 0 ∨ s / 2 ^ k % 2 = 1 := by omega
  rcases h with h | h
  · rw [tg_no (by unfold hs; simp [h]), h]; simp
  · rw [tg_yes (by unfold hs; simp [h]), h]; simp
theorem wrap64_in (x : Int) (h1 : -9223372036854775808 ≤ x) (h2 : x ≤ 9223372036854775807) : wrap64 x = x := by
  unfold wrap64
  omega
theorem reckon {t y : Int} {s P : Nat} (hs' : s < 16) (ht : 0 ≤ t ∧ t ≤ 100000) (hy : 0 ≤ y ∧ y ≤ 1000) :
    wrap64 (t + wrap64 (y * (wrap64 ((s : Int) / (P : Int))).tmod 2)) = t + y * ((s / P % 2 : Nat) : Int) := by
  have e1 : (s : Int) / (P : Int) = ((s / P : Nat) : Int) := by simp
  have hq : s / P < 16 := Nat.lt_of_le_of_lt (Nat.div_le_self _ _) hs'
  rw [e1]
  generalize s / P = q at *
  rw [wrap64_in (q : Int) (by omega) (by omega)]
  have e2 : ((q : Int)).tmod 2 = ((q % 2 : Nat) : Int) := by rw [Int.tmod_eq_emod_of_nonneg (by omega)]; simp
  rw [e2]
  have h : q % 2 = 0 ∨ q % 2 = 1 := by omega
  rcases h with h | h
  · rw [h]; simp only [Int.natCast_zero, Int.mul_zero]
    rw [wrap64_in 0 (by omega) (by omega), wrap64_in _ (by omega) (by omega)]
  · rw [h]; simp only [Int.natCast_one, Int.mul_one]
    rw [wrap64_in y (by omega) (by omega), wrap64_in _ (by omega) (by omega)]
set_option maxRecDepth 100000 in
set_option maxHeartbeats 2000000 in
theorem slotsWin_any (a : Option Addr) (n c : Nat) (l : List Int) (sa : Option Addr) (m sc : Nat) (sl : List Int) (w : World) (h : Ints w a n c l) (hS : Ints w sa m sc sl) (hn1 : 1 ≤ n) (hn4 : n ≤ 4) (hB : Bl n (nth l)) (hT : Sts n m sl) :
    Calls Try.prog 13 #[.slice a n c, .slice sa m sc] w fun e w' => e = .returned (.int .i64 (wS (nth l) n (sN sl) m).2) ∧ Below w.heap.size w w' := by
  have h1 := hS.2.1
  have h2 := hS.2.2.1
  have h3 := h.2.1
  have h4 := h.2.2.1
  unfold maxLen at h2 h4
  have hm1 := hT.1
  have hm16 := hT.2.1
  obtain ⟨b, off, rfl, hb, hcell⟩ := hS.nth hm1
  obtain ⟨lb, lo, rfl, hlb, hcl⟩ := h.nth hn1
  have HC : Hid (∀ W, Below w.heap.size w W → ∀ j, j < m → W.cell? ⟨b, off + j, none⟩ = some (.int .i64 ((sN sl j : Nat) : Int))) := fun W hW j hj => by rw [hW.cell (p := ⟨b, off + j, none⟩) hb, hcell j hj, (hT.nat hj).1]
  have HCL : Hid (∀ W, Below w.heap.size w W → ∀ j, j < n → W.cell? ⟨lb, lo + j, none⟩ = some (.int .i64 (nth l j))) := fun W hW j hj => by rw [hW.cell (p := ⟨lb, lo + j, none⟩) hlb, hcl j hj]
  have HT := hide (fun j hj => Nat.lt_of_lt_of_le (hT.nat (j := j) hj).2 (pow_le hn4))
  have HB := hide hB
  have HL := hide (wS_le (S := sN sl) hB hn4)
  have HU := hide (fun s => tg_le (s := s) hB)
  clear h hS hcell hB hT hcl
  generalize nth l = v at *
  generalize sN sl = S at *
  go_enter Try.func13, Try.ntmps13
  go_wp2
  go_loopw [7, 5, 6, 8, 9] (fun i x y _ _ wr => Below w.heap.size w wr ∧ ∃ (k : Nat), k ≤ m ∧ i = .int .i64 k ∧ x = .int .i64 (wS v n S k).1 ∧ y = .int .i64 (wS v n S k).2) (fun i _ _ _ _ _ => m - (intOf i).toNat)
  case atStart => exact ⟨Below.refl _ _, 0, Nat.zero_le _, rfl, rfl, rfl⟩
  case round =>
    rename World => W1
    obtain ⟨hbr, k, hk, rfl, rfl, rfl⟩ := hrel
    by_cases hlt : k < m
    · have hsk := unhide HT k hlt
      have h0 := unhide HL k
      have HY := hide (fun p => wS_yes (v := v) (n := n) (S := S) (k := k) p)
      have HN := hide (fun p => wS_no (v := v) (n := n) (S := S) (k := k) p)
      obtain ⟨Y, hY⟩ : ∃ Y, Y = wS v n S (k + 1) := ⟨_, rfl⟩
      rw [← hY] at HY HN
      have HYe := hide hY
      clear hY
      generalize wS v n S k = X at *
      obtain ⟨x1, x2⟩ := X
      have HCk := hide (fun W hW => unhide HC W hW k hlt)
      generalize S k = sk at *
      simp only at h0 HY HN ⊢
      go_wp2
      go_loopw [9, 8] (fun i x wr => Below W1.heap.size W1 wr ∧ ∃ (j : Nat), j ≤ n ∧ i = .int .i64 j ∧ x = .int .i64 (tg v sk j)) (fun i _ _ => n - (intOf i).toNat)
      case atStart => exact ⟨Below.refl _ _, 0, Nat.zero_le _, rfl, rfl⟩
      case round =>
        obtain ⟨hbs, j, hj, rfl, rfl⟩ := hrel
        have hbw := hbr.trans (hbs.mono hbr.size)
        by_cases hlj : j < n
        · have hc1 := unhide HCk _ hbw
          have hc2 := unhide HCL _ hbw j hlj
          have hu := unhide HU sk j hj
          have hv := unhide HB j hlj
          have HM := hide (tg_mul (v := v) (s := sk) (k := j))
          generalize tg v sk j = t at *
          generalize v j = y at *
          obtain ⟨P, hP⟩ : ∃ P : Nat, P = 2 ^ j := ⟨_, rfl⟩
          have hP2 : (2 : Int) ^ j = (P : Int) := by rw [hP]; simp
          have hP1 : P ≤ 16 := by rw [hP]; exact pow_le (by omega)
          have hP0 : 0 < P := by rw [hP]; exact Nat.two_pow_pos j
          have hw : IntKind.i64.wrap ((2 : Int) ^ j) = (P : Int) := by rw [hP2]; exact wrap_in _ (by omega) (by omega)
          have hPz : ((P : Int) == 0) = false := by simp; omega
          rw [← hP] at HM
          clear hP hP2
          go_wp2_with fail
          go_quiet (fail)
          rw [reckon hsk (by omega) hv, ← unhide HM]
          go_wp2_with fail
          go_roundw
          case rel => exact ⟨hbs.trans ((below_drewN _ _ _).mono hbs.size), j + 1, by omega, by go_num, rfl⟩
          case measure => simp [intOf]; omega
        · obtain rfl : n = j := by omega
          have hc1 := unhide HCk _ hbw
          have hu := unhide HU sk n (Nat.le_refl _)
          generalize tg v sk n = t at *
          by_cases e : x1 < t
          · have e2 := unhide HY e
            subst e2
            go_wp2_with fail
            go_roundw
            case rel => exact ⟨hbw, k + 1, by omega, by go_num, by rw [← unhide HYe], by rw [← unhide HYe]⟩
            case measure => simp [intOf]; omega
          · have e2 := unhide HN (by omega)
            subst e2
            go_wp2_with fail
            go_roundw
            case rel => exact ⟨hbw, k + 1, by omega, by go_num, by rw [← unhide HYe], by rw [← unhide HYe]⟩
            case measure => simp [intOf]; omega
    · obtain rfl : m = k := by omega
      go_wp2
      go_ret
      exact ⟨rfl, hbr⟩
end Go.Proofs.Ytfknnededkdodaa
