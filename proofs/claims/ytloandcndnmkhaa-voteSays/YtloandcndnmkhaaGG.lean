import Derived.Test.YtloandcndnmkhaaCC
namespace Go.Proofs.Ytloandcndnmkhaa
open Go.RowKit
theorem cell_drewN {w : World} {p : Addr} {v : Value} (h : w.cell? p = some v) (n : Nat) : (w.drewN n).cell? p = some v := h
theorem prf_bound {n : Nat} {l : List Bal} (h : Good n l) (x y : Nat) : 0 ≤ prf l l.length x y ∧ prf l l.length x y ≤ 30000 := by
  have := prf_le h x y l.length (Nat.le_refl _)
  have hl := h.2.2.1
  omega
set_option maxRecDepth 100000 in
set_option maxHeartbeats 4000000 in
theorem againstR_any (n : Nat) (a : Option Addr) (m c : Nat) (l : List Bal) (ao : Option Addr) (co : Nat) (o : List Int) (w : World) (h : Bals w a m c l) (hg : Good n l) (hI : Ints w ao n co o) (ho : ordE o n = 0) :
    Calls Try.prog 43 #[.slice a m c, .slice ao n co] w fun e w' => e = .returned (.int .i64 (agS (prf l l.length) o n n)) ∧ Below w.heap.size w w' := by
  have hn1 := hg.1
  have hn6 := hg.2.1
  obtain ⟨bO, oO, rfl, hbO, hcO⟩ := hI.cellAt hn1
  have hc1 := hI.2.1
  have hc2 := hI.2.2.1
  unfold maxLen at hc2
  have HP : Hid (∀ x y, 0 ≤ prf l l.length x y ∧ prf l l.length x y ≤ 30000) := prf_bound hg
  have PC : Hid (∀ (x y : Nat) (X : World), Below w.heap.size w X → Calls Try.prog 59 #[.slice a m c, .int .i64 x, .int .i64 y] X fun e w' => e = .returned (.int .i64 (prf l l.length x y)) ∧ w' = X) := fun x y X hX => prefer_any n a m c l x y X (h.later hX) hg
  have HAT : Hid (∀ i, i < n → oN o i < n ∧ w.cell? ⟨bO, oO + i, none⟩ = some (.int .i64 (oN o i : Int))) := fun i hi => by
    obtain ⟨x, x1, x2, _⟩ := ord_at ho hi
    have e : oN o i = x := by unfold oN; rw [x2]; exact Int.toNat_natCast x
    rw [e]
    exact ⟨x1, by rw [hcO i hi, x2]⟩
  clear h hg ho hI hcO
  obtain ⟨p, hpd⟩ : ∃ p, p = prf l l.length := ⟨_, rfl⟩
  rw [← hpd] at HP PC ⊢
  clear hpd
  go_enter Try.func43, Try.ntmps43
  go_wp2_with fail
  go_loopw [6, 5, 7, 8] (fun i s _ _ wr => Below w.heap.size w wr ∧ ∃ q : Nat, q ≤ n ∧ i = .int .i64 q ∧ s = .int .i64 (agS p o n q)) (fun i _ _ _ _ => n - (intOf i).toNat)
  case atStart => exact ⟨Below.refl _ _, 0, Nat.zero_le _, rfl, rfl⟩
  case round =>
    obtain ⟨hbr, q, hq, rfl, rfl⟩ := hrel
    have HBR := hide hbr
    clear hbr
    by_cases hlt : q < n
    · obtain ⟨hxq, hcq⟩ := unhide HAT q hlt
      have hsl := agS_le (unhide HP) o hn6 q
      have HSS : Hid (agS p o n (q + 1) = agS p o n q + agR p o q (n - (q + 1))) := rfl
      generalize hX : oN o q = X at *
      generalize hSq : agS p o n q = Sq at *
      have HX := hide hX
      have HSQ := hide hSq
      clear hX hSq
      have hnq : decide ((q : Int) < (n : Int)) = true := decide_eq_true (by omega)
      go_wp2_with fail
      (try rw [hnq])
      go_loopw [7, 5, 8] (fun i s _ wy => Below w.heap.size w wy ∧ ∃ t : Nat, t ≤ n - (q + 1) ∧ i = .int .i64 ((q + 1 + t : Nat) : Int) ∧ s = .int .i64 (Sq + agR p o q t)) (fun i _ _ _ => n - (intOf i).toNat)
      case atStart => exact ⟨unhide HBR, 0, Nat.zero_le _, by go_num, by simp [agR]⟩
      case round =>
        obtain ⟨hby, t, ht, rfl, rfl⟩ := hrel
        by_cases hlt2 : t < n - (q + 1)
        · obtain ⟨hyt, hct⟩ := unhide HAT (q + 1 + t) (by omega)
          have hrl := agR_le (unhide HP) o q t
          have HRS : Hid (agR p o q (t + 1) = agR p o q t + p (oN o (q + 1 + t)) (oN o q)) := rfl
          rw [unhide HX] at HRS
          generalize hYY : oN o (q + 1 + t) = Y at *
          have hpp := unhide HP Y X
          have k1 := cell_drewN ((hby.cell (p := ⟨bO, oO + (q + 1 + t), none⟩) hbO).trans hct)
          have k2 := cell_drewN ((hby.cell (p := ⟨bO, oO + q, none⟩) hbO).trans hcq)
          have PC' : Hid (∀ d, Calls Try.prog 59 #[.slice a m c, .int .i64 Y, .int .i64 X] (wr.drewN d) fun e w' => e = .returned (.int .i64 (p Y X)) ∧ w' = wr.drewN d) := fun d => unhide PC Y X _ (hby.trans (below_drewN _ _ _))
          have HBY := hide hby
          clear hYY hby hct hcq
          generalize p Y X = pv at *
          generalize agR p o q t = rt at *
          obtain ⟨T, hT⟩ : ∃ T : Nat, T = q + 1 + t := ⟨_, rfl⟩
          have HT := hide hT
          rw [← hT] at k1 ⊢
          have hTn : (T : Int) < n := by omega
          have hTn2 : T < n := by omega
          have hqn : (q : Int) < n := by omega
          clear hT
          go_wp2_with fail
          go_quiet (refine Calls.quiet_of_same (unhide PC' _))
          go_wp2_with fail
          go_roundw
          case rel => exact ⟨(unhide HBY).trans (below_drewN _ _ _), t + 1, by omega, by rw [unhide HT]; go_num, by rw [unhide HRS]; go_num⟩
          case measure => have := unhide HT; simp [intOf]; omega
        · obtain rfl : t = n - (q + 1) := by omega
          have HBY := hide hby
          clear hby
          obtain ⟨T, hT⟩ : ∃ T : Nat, T = q + 1 + (n - (q + 1)) := ⟨_, rfl⟩
          rw [← hT]
          have hTn : T = n := by omega
          clear hT
          subst hTn
          go_wp2_with fail
          go_roundw
          case rel => exact ⟨unhide HBY, q + 1, by omega, by go_num, by rw [unhide HSS]⟩
          case measure => simp [intOf]; omega
    · obtain rfl : n = q := by omega
      go_wp2_with fail
      go_ret
      exact ⟨rfl, unhide HBR⟩
end Go.Proofs.Ytloandcndnmkhaa
