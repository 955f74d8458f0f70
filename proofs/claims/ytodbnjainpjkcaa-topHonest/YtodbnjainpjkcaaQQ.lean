import Derived.Test.YtodbnjainpjkcaaPP
namespace Go.Proofs.Ytodbnjainpjkcaa
open Go.RowKit
set_option maxRecDepth 100000 in
set_option maxHeartbeats 2000000 in
theorem rep_zero (b : Nat) (w : World) : Calls Try.prog 54 #[.slice (some ⟨b, 0, none⟩) 1 1, .int .i64 0] w fun e w' =>
    e = .returned (.slice (some ⟨w.heap.size, 0, none⟩) 0 0) ∧ w.heap.size < w'.heap.size ∧ Below w.heap.size w w' := by
  obtain ⟨i3, hi3, hz0, hz1, hz2⟩ := info_parts info3
  go_enter Try.func54, Try.ntmps54
  go_wp2_with (first
    | (go_at_call 71; refine (mul_1 0 (by omega) _).mono ?_; rintro e w1 ⟨rfl, hw1⟩; subst w1)
    | (at_make; refine wpList_make_full _ rfl _ _ 22 rfl w.heap.size 3 i3 _ 1 Try.underlying22 hi3 hz0 hz1 .i64 .i64 _ _ 0 rfl rfl rfl rfl (by rw [hz2]; omega) (by unfold maxLen; omega) (Nat.le_refl _) ?_; intro w2 ho2 hg2))
  have hb2 : Below w.heap.size w w2 := (Below.refl w.heap.size w).grown hg2 (Nat.le_refl _) (fun k hk => by cases hk)
  have hlt : w.heap.size < w2.heap.size := by
    rcases ho2.2 with ⟨h, _⟩ | ⟨g, cap, cur, h, _, hgg, _⟩
    · cases h
    · cases h
      exact (Array.getElem?_eq_some_iff.1 hgg).1
  clear ho2 hg2
  have hrun := run_copy_none (P := Try.prog) w2 22 22 3 3 (some ⟨w.heap.size, 0, none⟩) (some ⟨b, 0, none⟩) 0 0 1 1 Try.underlying22 hsz3 (by decide)
  rw [hrun]
  simp only [Result.andThen_ok]
  go_wp2_with fail
  refine wp_loop_rounds 1 ?_
  rw [rounds_succ]
  go_wp2
  go_ret
  exact ⟨rfl, hlt, hb2⟩
set_option maxRecDepth 100000 in
theorem alone_lt (aL : Option Addr) (nL cL : Nat) (aR : Option Addr) (nR cR : Nat) (w : World) (hn : nL ≤ 6) :
    Calls Try.prog 32 #[.agg #[.slice aL nL cL, .slice aR nR cR]] w fun e w' => ∃ g, e = .returned (.slice (some ⟨g, 0, none⟩) nL nL) ∧ Row w.heap.size w' (some ⟨g, 0, none⟩) nL (fun _ => -1) ∧ w.heap.size ≤ g ∧ g < w'.heap.size ∧ Below w.heap.size w w' := by
  by_cases hz : nL = 0
  · subst hz
    obtain ⟨wA, hwA⟩ : ∃ y, y = (w.alloc (.cells #[.slice aL 0 cL, .slice aR nR cR] 26)).alloc (.cells #[.int .i64 (-1)] 3) := ⟨_, rfl⟩
    have hbA : Below w.heap.size w wA := by rw [hwA]; go_grown
    have HW := hide hwA
    clear hwA
    go_enter Try.func32, Try.ntmps32
    go_wp2_with fail
    rw [← unhide HW]
    refine (rep_zero (w.heap.size + 1) wA).mono ?_
    rintro e w1 ⟨rfl, hlt, hb1⟩
    go_wp2
    go_ret
    exact ⟨_, rfl, .inl rfl, hbA.size, hlt, hbA.trans (hb1.mono hbA.size)⟩
  · refine (alone_any aL nL cL aR nR cR w hn).mono ?_
    rintro e w' ⟨g, rfl, hrow, hg, hb⟩
    exact ⟨g, rfl, hrow, hg, (hrow.lt (by omega)).1, hb⟩
end Go.Proofs.Ytodbnjainpjkcaa
