import Derived.Test.YtloandcndnmkhaaE
namespace Go.Proofs.Ytloandcndnmkhaa
open Go.RowKit
theorem and_bit : ∀ s : Nat, s < 64 → ∀ x : Nat, x < 6 → bits .and .i64 ((s : Int) / 2 ^ x) 1 = if s.testBit x = true then 1 else 0 := by decide +kernel
/-- Each of a set beats each that is not of it. -/
def Dom (p : Nat → Nat → Int) (n s : Nat) : Prop := ∀ x y, x < n → y < n → s.testBit x = true → s.testBit y = false → p y x < p x y
set_option maxRecDepth 100000 in
set_option maxHeartbeats 4000000 in
theorem rest_any (base : Nat) (W : World) (G : Nat) (Bf : Nat → Nat) (n : Nat) (p : Nat → Nat → Int) (s : Nat) (hT : Tab base W G Bf n p) (hn6 : n ≤ 6) (hs : s < 64) (b : Bool) (hb : b = true ↔ Dom p n s) :
    Calls Try.prog 48 #[.slice (some ⟨G, 0, none⟩) n n, .int .i64 s] W fun e w' => e = .returned (.bool b) ∧ Below W.heap.size W w' := by
  have HT := hide hT
  have HB := hide hb
  have HAB : Hid (∀ x, x < n → bits .and .i64 ((s : Int) / 2 ^ x) 1 = if s.testBit x = true then 1 else 0) := fun x hx => and_bit s hs x (by omega)
  clear hT hb
  go_enter Try.func48, Try.ntmps48
  go_wp2_with fail
  go_loopw [9, 5, 6] (fun i _ _ wr => Below W.heap.size W wr ∧ ∃ q : Nat, q ≤ n ∧ i = .int .i64 q ∧ ∀ x y, x < q → y < n → s.testBit x = true → s.testBit y = false → p y x < p x y) (fun i _ _ _ => n - (intOf i).toNat)
  case atStart => exact ⟨Below.refl _ _, 0, Nat.zero_le _, rfl, fun x y hx => by omega⟩
  case round =>
    obtain ⟨hbr, q, hq, rfl, hall⟩ := hrel
    have HALL := hide hall
    clear hall
    by_cases hlt : q < n
    · have hbq := unhide HAB q hlt
      have hq6 : q < 64 := by omega
      go_wp2_with fail
      rename World => wq
      go_loopw [14, 6] (fun i _ wr => Below W.heap.size W wr ∧ ∃ t : Nat, t ≤ n ∧ i = .int .i64 t ∧ ∀ y, y < t → s.testBit q = true → s.testBit y = false → p y q < p q y) (fun i _ _ => n - (intOf i).toNat)
      case atStart => exact ⟨hbr, 0, Nat.zero_le _, rfl, fun y hy => by omega⟩
      case round =>
        obtain ⟨hbr2, t, ht, rfl, hin⟩ := hrel
        have HIN := hide hin
        clear hin
        by_cases hlt2 : t < n
        · have hbt := unhide HAB t hlt2
          have ht6 : t < 64 := by omega
          have C47 := beats_any base wr G Bf n p q t ((unhide HT).later hbr2) hlt hlt2
          cases h1 : s.testBit q with
          | false =>
            rw [h1, if_neg (by simp)] at hbq
            clear C47
            go_wp2_with fail
            go_roundw
            case rel => exact ⟨hbr2, t + 1, by omega, by go_num, fun y hy h => by simp at h⟩
            case measure => simp [intOf]; omega
          | true =>
            rw [h1, if_pos rfl] at hbq
            cases h2 : s.testBit t with
            | true =>
              rw [h2, if_pos rfl] at hbt
              have HST : Hid (∀ y, y < t + 1 → s.testBit q = true → s.testBit y = false → p y q < p q y) := fun y hy a1 a2 => by
                by_cases e : y = t
                · rw [e, h2] at a2; cases a2
                · exact unhide HIN y (by omega) a1 a2
              clear C47
              go_wp2_with fail
              go_roundw
              case rel => exact ⟨hbr2, t + 1, by omega, by go_num, fun y hy _ a2 => unhide HST y hy h1 a2⟩
              case measure => simp [intOf]; omega
            | false =>
              rw [h2, if_neg (by simp)] at hbt
              by_cases hc : p t q < p q t
              · rw [decide_eq_true hc] at C47
                have C := hide C47
                have HST : Hid (∀ y, y < t + 1 → s.testBit q = true → s.testBit y = false → p y q < p q y) := fun y hy a1 a2 => by
                  by_cases e : y = t
                  · rw [e]; exact hc
                  · exact unhide HIN y (by omega) a1 a2
                clear C47 hc
                go_wp2_with fail
                refine (unhide C).mono ?_
                rintro e w3 ⟨rfl, hb3⟩
                go_wp2_with fail
                go_roundw
                case rel => exact ⟨hbr2.trans (hb3.mono hbr2.size), t + 1, by omega, by go_num, fun y hy _ a2 => unhide HST y hy h1 a2⟩
                case measure => simp [intOf]; omega
              · rw [decide_eq_false hc] at C47
                have C := hide C47
                have HBF : Hid (b = false) := by
                  show b = false
                  cases hbb : b with
                  | false => rfl
                  | true => exact absurd ((unhide HB).1 hbb q t hlt hlt2 h1 h2) hc
                clear C47 hc
                go_wp2_with fail
                refine (unhide C).mono ?_
                rintro e w3 ⟨rfl, hb3⟩
                go_wp2_with fail
                go_ret
                exact ⟨ret_bool (unhide HBF).symm, hbr2.trans (hb3.mono hbr2.size)⟩
        · obtain rfl : n = t := by omega
          go_wp2_with fail
          go_roundw
          case rel =>
            refine ⟨hbr2, q + 1, by omega, by go_num, fun x y hx hy a1 a2 => ?_⟩
            by_cases e : x = q
            · subst e; exact unhide HIN y hy a1 a2
            · exact unhide HALL x y (by omega) hy a1 a2
          case measure => simp [intOf]; omega
    · obtain rfl : n = q := by omega
      have HBT : Hid (b = true) := (unhide HB).2 fun x y hx hy => unhide HALL x y hx hy
      go_wp2_with fail
      go_ret
      exact ⟨ret_bool (unhide HBT).symm, hbr⟩
end Go.Proofs.Ytloandcndnmkhaa
