import Derived.Test.YtihmbfapbkddeaaZ2
namespace Go.Proofs.Ytihmbfapbkddeaa
open Go.RowKit
theorem quo_bit : ∀ s : Nat, s < 64 → ∀ x : Nat, x < 6 → (wrap64 ((s : Int) / 2 ^ x)).tmod 2 = if s.testBit x = true then 1 else 0 := by decide +kernel
/-- Those of a set below k. -/
def whoT (set k : Nat) : List Nat := (List.range k).filter fun j => set.testBit j
theorem whoT_succ (set k : Nat) : whoT set (k + 1) = whoT set k ++ (if set.testBit k = true then [k] else []) := by
  unfold whoT
  rw [List.range_succ, List.filter_append]
  congr 1
  rw [List.filter_cons]
  rfl
theorem whoT_len (set k : Nat) : (whoT set k).length ≤ k := by
  unfold whoT
  exact Nat.le_trans (List.length_filter_le _ _) (by simp)
set_option maxRecDepth 100000 in
set_option maxHeartbeats 8000000 in
theorem bits_any (set n : Nat) (hs : set < 64) (hn : n ≤ 6) (w : World) :
    Calls Try.prog 31 #[.int .i64 set, .int .i64 n] w fun e w' => ∃ a c, e = .returned (.slice a (whoL set n).length c) ∧ Ints w' a (whoL set n).length c ((whoL set n).map Int.ofNat) ∧ Below w.heap.size w w' := by
  go_enter Try.func31, Try.ntmps31
  go_wp2_with fail
  go_loopw [6, 5] (fun q v wy => Below w.heap.size w wy ∧ ∃ k : Nat, k ≤ n ∧ q = .int .i64 k ∧ wy.ownsRow w.heap.size 3 1 v (whoT set k).length (intVals ((whoT set k).map Int.ofNat))) (fun q _ _ => n - (intOf q).toNat)
  case atStart => exact ⟨Below.refl _ _, 0, Nat.zero_le _, rfl, World.ownsRow_nil _ _ _ _⟩
  case round =>
    rename World => wr
    obtain ⟨hbr, k, hk, rfl, hown⟩ := hrel
    have HOWN := hide hown
    clear hown
    by_cases hlt : k < n
    · have hq := quo_bit set hs k (by omega)
      have hp : ∀ m : Nat, m < 6 → IntKind.i64.wrap (2 ^ m) = 2 ^ m := by decide
      have hp1 := hp k (by omega)
      clear hp
      have hp0 : ∀ m : Nat, m < 6 → ¬ (2 : Int) ^ m = 0 := by decide
      have hp2 := hp0 k (by omega)
      clear hp0
      have hl := whoT_len set k
      cases hb : set.testBit k with
      | false =>
        rw [hb, if_neg (by simp)] at hq
        have HW : Hid (whoT set (k + 1) = whoT set k) := by
          show _ = _
          rw [whoT_succ, hb]
          simp
        clear hb
        go_wp2_with fail
        exact ⟨⟨hbr, k + 1, by omega, by go_num, by rw [unhide HW]; exact unhide HOWN⟩, by simp [intOf]; omega⟩
      | true =>
        rw [hb, if_pos rfl] at hq
        have HW : Hid (whoT set (k + 1) = whoT set k ++ [k]) := by
          show _ = _
          rw [whoT_succ, hb]
          simp
        clear hb
        go_wp2_with (at_builtin; refine wpList_append_int _ rfl _ _ rfl w.heap.size _ (whoT set k).length _ rfl ((unhide HOWN).alloc _) wr.heap.size (k : Int) rfl (by simp) (by omega) (by have := hbr.size; simp; omega) ?_; intro v2 w2 ho2 hg2; have hb5 := hbr.trans (((Below.refl w.heap.size wr).alloc hbr.size (.cells #[.int .i64 (k : Int)] 3)).grown hg2 (by have := hbr.size; simp; omega) (fun q hq => ((unhide HOWN).lt q hq).1)); have HO2 := hide ho2; clear ho2 hg2)
        refine ⟨⟨hb5, k + 1, by omega, by go_num, ?_⟩, by simp [intOf]; omega⟩
        rw [unhide HW, List.map_append, intVals_append, List.length_append]
        exact unhide HO2
    · obtain rfl : k = n := by omega
      go_wp2
      go_ret
      obtain ⟨a, c, hv, hI, _⟩ := Ints.of_owns (unhide HOWN) (Nat.le_trans (whoT_len set k) (by omega))
      subst hv
      exact ⟨a, c, rfl, hI, hbr⟩
end Go.Proofs.Ytihmbfapbkddeaa
