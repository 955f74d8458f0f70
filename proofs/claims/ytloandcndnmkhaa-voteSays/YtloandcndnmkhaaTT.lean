import Derived.Test.YtloandcndnmkhaaX
import Derived.Test.YtloandcndnmkhaaSS
namespace Go.Proofs.Ytloandcndnmkhaa
open Go.RowKit
theorem bit_div : ∀ t : Nat, t < 64 → ∀ k : Nat, k < 6 → ((((wrap64 ((t : Int) / wrap64 (2 ^ k))).tmod 2 == 1) = t.testBit k) ∧ ¬ wrap64 (2 ^ k) = 0) := by decide +kernel
set_option maxRecDepth 100000 in
set_option maxHeartbeats 4000000 in
/-- A set as the list of its things. -/
theorem bits_any (t n : Nat) (w : World) (hn6 : n ≤ 6) (ht64 : t < 64) :
    Calls Try.prog 61 #[.int .i64 t, .int .i64 n] w fun e w' => ∃ a c, e = .returned (.slice a (smL t n).length c) ∧ Ints w' a (smL t n).length c (smL t n) ∧ Below w.heap.size w w' := by
  go_enter Try.func61, Try.ntmps61
  go_wp2_with fail
  go_loopw [6, 5] (fun i v wr => Below w.heap.size w wr ∧ ∃ k : Nat, k ≤ n ∧ i = .int .i64 k ∧ wr.ownsRow w.heap.size 3 1 v (smL t k).length (intVals (smL t k))) (fun i _ _ => n - (intOf i).toNat)
  case atStart => exact ⟨Below.refl _ _, 0, Nat.zero_le _, rfl, World.ownsRow_nil _ _ _ _⟩
  case round =>
    obtain ⟨hbr2, k, hk, rfl, hown⟩ := hrel
    by_cases hltk : k < n
    · have HO := hide hown
      clear hown
      have hk64 : k < 64 := by omega
      have hll := smL_len t k
      have HS : Hid (smL t (k + 1) = if t.testBit k = true then smL t k ++ [(k : Int)] else smL t k) := rfl
      obtain ⟨hbd, hnz⟩ := bit_div t ht64 k (by omega)
      cases hb : t.testBit k with
      | false =>
        rw [hb] at hbd
        rw [hb, if_neg (by simp)] at HS
        go_wp2_with fail
        go_roundw
        case rel => exact ⟨hbr2, k + 1, by omega, by go_num, by rw [unhide HS]; exact unhide HO⟩
        case measure => simp [intOf]; omega
      | true =>
        rw [hb] at hbd
        rw [hb, if_pos rfl] at HS
        go_wp2_with (at_builtin; refine wpList_append_int _ rfl _ _ rfl w.heap.size _ _ _ rfl ((unhide HO).alloc _) wr.heap.size (k : Int) rfl (by simp) (by omega) (by have := hbr2.size; simp; omega) ?_; intro v2 w2 ho2 hg2)
        go_roundw
        case rel =>
          have hb5 := (((Below.refl w.heap.size wr).alloc hbr2.size (.cells #[.int .i64 (k : Int)] 3)).grown hg2 (by have := hbr2.size; simp; omega) (fun q hq => ((unhide HO).lt q hq).1))
          refine ⟨hbr2.trans hb5, k+1, by omega, by go_num, ?_⟩
          rw [unhide HS, intVals_append, List.length_append]
          exact ho2
        case measure => simp [intOf]; omega
    · obtain rfl : n = k := by omega
      have hll := smL_len t n
      obtain ⟨aa, cc, hv, hI, _⟩ := Ints.of_owns hown (by omega)
      subst hv
      clear hown
      go_wp2_with fail
      go_ret
      exact ⟨aa, cc, rfl, hI, hbr2⟩
end Go.Proofs.Ytloandcndnmkhaa
