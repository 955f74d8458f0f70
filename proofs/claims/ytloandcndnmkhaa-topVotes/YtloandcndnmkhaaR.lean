import Derived.Test.YtloandcndnmkhaaE
namespace Go.Proofs.Ytloandcndnmkhaa
open Go.RowKit
def oN (o : List Int) (i : Nat) : Nat := (o[i]?.getD 0).toNat
/-- How many speak against the first m behind the i-th, and against all rows ahead. -/
def agR (p : Nat → Nat → Int) (o : List Int) (i : Nat) : Nat → Int
  | 0 => 0
  | m + 1 => agR p o i m + p (oN o (i + 1 + m)) (oN o i)
def agS (p : Nat → Nat → Int) (o : List Int) (n : Nat) : Nat → Int
  | 0 => 0
  | i + 1 => agS p o n i + agR p o i (n - (i + 1))
theorem agR_le {p : Nat → Nat → Int} (hp : ∀ x y, 0 ≤ p x y ∧ p x y ≤ 30000) (o : List Int) (i : Nat) : ∀ m, 0 ≤ agR p o i m ∧ agR p o i m ≤ m * 30000 := by
  intro m
  induction m with
  | zero => exact ⟨by simp [agR], by simp [agR]⟩
  | succ m ih =>
    have := hp (oN o (i + 1 + m)) (oN o i)
    unfold agR
    omega
theorem agS_le {p : Nat → Nat → Int} (hp : ∀ x y, 0 ≤ p x y ∧ p x y ≤ 30000) (o : List Int) {n : Nat} (hn : n ≤ 6) : ∀ i, 0 ≤ agS p o n i ∧ agS p o n i ≤ i * 180000 := by
  intro i
  induction i with
  | zero => exact ⟨by simp [agS], by simp [agS]⟩
  | succ i ih =>
    have := agR_le hp o i (n - (i + 1))
    unfold agS
    omega
set_option maxRecDepth 100000 in
set_option maxHeartbeats 4000000 in
theorem against_any (base : Nat) (W : World) (G : Nat) (Bf : Nat → Nat) (n : Nat) (p : Nat → Nat → Int) (a : Option Addr) (c : Nat) (o : List Int) (hT : Tab base W G Bf n p) (hI : Ints W a n c o) (ho : ordE o n = 0) (hn1 : 0 < n) (hn6 : n ≤ 6) (hp : ∀ x y, 0 ≤ p x y ∧ p x y ≤ 30000) :
    Calls Try.prog 52 #[.slice (some ⟨G, 0, none⟩) n n, .slice a n c] W fun e w' => e = .returned (.int .i64 (agS p o n n)) ∧ w' = W := by
  obtain ⟨bO, oO, rfl, hbO, hcO⟩ := hI.cellAt hn1
  have hc1 := hI.2.1
  have hc2 := hI.2.2.1
  unfold maxLen at hc2
  have HT := hide hT
  have HP := hide hp
  have HO := hide ho
  have HAT : Hid (∀ i, i < n → oN o i < n ∧ W.cell? ⟨bO, oO + i, none⟩ = some (.int .i64 (oN o i : Int))) := fun i hi => by
    obtain ⟨x, x1, x2, _⟩ := ord_at ho hi
    have e : oN o i = x := by unfold oN; rw [x2]; exact Int.toNat_natCast x
    rw [e]
    exact ⟨x1, by rw [hcO i hi, x2]⟩
  clear hT hp ho hI hcO
  go_enter Try.func52, Try.ntmps52
  go_wp2_with fail
  go_loopw [12, 5, 6, 7, 9] (fun i s _ _ _ wr => wr = W ∧ ∃ q : Nat, q ≤ n ∧ i = .int .i64 q ∧ s = .int .i64 (agS p o n q)) (fun i _ _ _ _ _ => n - (intOf i).toNat)
  case atStart => exact ⟨rfl, 0, Nat.zero_le _, rfl, rfl⟩
  case round =>
    obtain ⟨hwr, q, hq, rfl, rfl⟩ := hrel
    subst hwr
    by_cases hlt : q < n
    · obtain ⟨hxq, hcq⟩ := unhide HAT q hlt
      have hsl := agS_le (unhide HP) o hn6 q
      have HSS : Hid (agS p o n (q + 1) = agS p o n q + agR p o q (n - (q + 1))) := rfl
      generalize hX : oN o q = X at *
      generalize hSq : agS p o n q = Sq at *
      have HX := hide hX
      have HSQ := hide hSq
      clear hX hSq
      go_wp2_with fail
      · rename c = q + 1 => hck
        have hz : n - (q + 1) = 0 := by omega
        have hz2 : decide ((0 : Int) < ((n - (q + 1) : Nat) : Int)) = false := decide_eq_false (by omega)
        have HSZ : Hid (agS p o n (q + 1) = Sq) := by show _ = _; rw [unhide HSS, hz]; simp [agR]
        refine wp_loop_rounds 1 ?_
        rw [rounds_succ]
        go_wp2_with fail
        rw [← hck]
        have HCK := hide hck
        clear hck
        go_roundw
        case rel => exact ⟨trivial, q + 1, by omega, by go_num, by rw [unhide HSZ]⟩
        case measure => simp [intOf]; omega
      · rename ¬ c = q + 1 => hck
        go_loopw [22, 5, 9] (fun i s _ wy => wy = wr ∧ ∃ t : Nat, t ≤ n - (q + 1) ∧ i = .int .i64 t ∧ s = .int .i64 (Sq + agR p o q t)) (fun i _ _ _ => n - (q + 1) - (intOf i).toNat)
        case atStart => exact ⟨rfl, 0, Nat.zero_le _, rfl, by simp [agR]⟩
        case round =>
          obtain ⟨hwy, t, ht, rfl, rfl⟩ := hrel
          subst hwy
          by_cases hlt2 : t < n - (q + 1)
          · obtain ⟨hyt, hct⟩ := unhide HAT (q + 1 + t) (by omega)
            rw [← Nat.add_assoc] at hct
            have hrl := agR_le (unhide HP) o q t
            have HRS : Hid (agR p o q (t + 1) = agR p o q t + p (oN o (q + 1 + t)) (oN o q)) := rfl
            rw [unhide HX] at HRS
            generalize hYY : oN o (q + 1 + t) = Y at *
            have y1 := (unhide HT).2.2.1 Y hyt
            have y2 := (unhide HT).2.2.2.2.2.1 Y X hyt hxq
            have hpp := unhide HP Y X
            clear hYY
            generalize Bf Y = B at *
            generalize p Y X = pv at *
            generalize agR p o q t = rt at *
            go_wp2_with fail
            go_roundw
            case rel => exact ⟨trivial, t + 1, by omega, by go_num, by rw [unhide HRS]; go_num⟩
            case measure => simp [intOf]; omega
          · obtain rfl : t = n - (q + 1) := by omega
            have hz2 : decide (((n - (q + 1) : Nat) : Int) < ((n - (q + 1) : Nat) : Int)) = false := decide_eq_false (by omega)
            go_wp2_with fail
            go_roundw
            case rel => exact ⟨trivial, q + 1, by omega, by go_num, by rw [unhide HSS]⟩
            case measure => simp [intOf]; omega
    · obtain rfl : n = q := by omega
      go_wp2_with fail
      go_ret
      exact ⟨rfl, rfl⟩
end Go.Proofs.Ytloandcndnmkhaa
