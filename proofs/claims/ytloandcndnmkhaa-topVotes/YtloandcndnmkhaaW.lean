import Derived.Test.YtloandcndnmkhaaV
namespace Go.Proofs.Ytloandcndnmkhaa
open Go.RowKit
def ConP (p : Nat → Nat → Int) (n : Nat) (r : Int) : Prop := (∃ k : Nat, k < n ∧ r = k ∧ Dom p n (2 ^ k)) ∨ (r = -1 ∧ ∀ k, k < n → ¬ Dom p n (2 ^ k))
def ConPost (p : Nat → Nat → Int) (n : Nat) (w : World) (e : Ending) (w' : World) : Prop := ∃ r, ConP p n r ∧ e = .returned (two (.int .i64 r) 0) ∧ Below w.heap.size w w'
theorem pow_small : ∀ k : Nat, k ≤ 6 → wrap64 (2 ^ k) = ((2 ^ k : Nat) : Int) ∧ (2 ^ k : Nat) ≤ 64 ∧ IntKind.i64.wrap (2 ^ k) = ((2 ^ k : Nat) : Int) := by decide +kernel
theorem pow_lt : ∀ k : Nat, k < 6 → (2 ^ k : Nat) < 64 := by decide
set_option maxRecDepth 100000 in
set_option maxHeartbeats 4000000 in
theorem condorcet_any (n : Nat) (a : Option Addr) (m c : Nat) (l : List Bal) (w : World) (h : Bals w a m c l) (hg : Good n l) :
    Calls Try.prog 21 #[.int .i64 n, .slice a m c] w fun e w' => ConPost (prf l l.length) n w e w' := by
  have CP := hide (pairs_any n a m c l w h hg)
  have hn1 := hg.1
  have hn6 := hg.2.1
  clear h hg
  generalize prf l l.length = p at *
  go_enter Try.func21, Try.ntmps21
  go_wp2_with fail
  refine (unhide CP).mono ?_
  rintro e w1 ⟨G, Bf, rfl, hT, hb1⟩
  unfold two
  have HT := hide hT
  clear hT CP
  go_wp2_with fail
  go_loopw [19, 8] (fun i _ wr => Below w1.heap.size w1 wr ∧ ∃ k : Nat, k ≤ n ∧ i = .int .i64 k ∧ ∀ j, j < k → ¬ Dom p n (2 ^ j)) (fun i _ _ => n - (intOf i).toNat)
  case atStart => exact ⟨Below.refl _ _, 0, Nat.zero_le _, rfl, fun j hj => by omega⟩
  case round =>
    obtain ⟨hbr, k, hk, rfl, hno⟩ := hrel
    have HNO := hide hno
    clear hno
    by_cases hlt : k < n
    · obtain ⟨e1, _, e3⟩ := pow_small k (by omega)
      have hp6 := pow_lt k (by omega)
      have hk64 : k < 64 := by omega
      by_cases hd : Dom p n (2 ^ k)
      · have C := rest_any w.heap.size wr G Bf n p (2 ^ k) ((unhide HT).later hbr) hn6 hp6 true ⟨fun _ => hd, fun _ => rfl⟩
        obtain ⟨s, hs⟩ : ∃ s : Nat, s = 2 ^ k := ⟨_, rfl⟩
        rw [← hs] at e1 e3 C
        have C := hide C
        have HD := hide hd
        clear hd hs
        go_wp2_with fail
        refine (unhide C).mono ?_
        rintro e w3 ⟨rfl, hb3⟩
        go_wp2_with fail
        go_ret2
        have hb13 := hb1.trans ((hbr.trans (hb3.mono hbr.size)).mono hb1.size)
        exact ⟨k, .inl ⟨k, hlt, rfl, unhide HD⟩, rfl, hb13⟩
      · have C := rest_any w.heap.size wr G Bf n p (2 ^ k) ((unhide HT).later hbr) hn6 hp6 false ⟨fun h => (by cases h), fun h => absurd h hd⟩
        obtain ⟨s, hs⟩ : ∃ s : Nat, s = 2 ^ k := ⟨_, rfl⟩
        rw [← hs] at e1 e3 C
        have C := hide C
        have HD := hide hd
        clear hd hs
        go_wp2_with fail
        refine (unhide C).mono ?_
        rintro e w3 ⟨rfl, hb3⟩
        go_wp2_with fail
        go_roundw
        case rel =>
          refine ⟨hbr.trans (hb3.mono hbr.size), k + 1, by omega, by go_num, fun j hj => ?_⟩
          by_cases e : j = k
          · rw [e]; exact unhide HD
          · exact unhide HNO j (by omega)
        case measure => simp [intOf]; omega
    · obtain rfl : n = k := by omega
      go_wp2_with fail
      go_ret2
      exact ⟨-1, .inr ⟨rfl, unhide HNO⟩, rfl, hb1.trans (hbr.mono hb1.size)⟩
/-- How many are in a set of at most six. -/
def pc (s : Nat) : Nat := ((List.range 6).filter fun j => s.testBit j).length
set_option maxHeartbeats 2000000 in
theorem ones_any (s : Nat) (hs : s < 64) (w : World) : Calls Try.prog 49 #[.int .u64 s] w fun e w' => e = .returned (.int .i64 (pc s)) ∧ w' = w := by
  go_enter Try.func49, Try.ntmps49
  go_wp2
  go_ret
  refine ⟨ret_int ?_, rfl⟩
  clear w
  revert s
  decide +kernel
end Go.Proofs.Ytloandcndnmkhaa
