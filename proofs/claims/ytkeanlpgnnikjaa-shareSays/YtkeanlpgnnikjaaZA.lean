import Derived.Test.YtkeanlpgnnikjaaZ
import Derived.Test.YtkeanlpgnnikjaaCT
namespace Go.Proofs.Ytkeanlpgnnikjaa
open Go.RowKit
def cmpI (x y : Int) : Int := if x < y then -1 else if y < x then 1 else 0
theorem nan_int (x : Int) (w : World) : Calls Try.prog 47 #[.int .i64 x] w fun e w' => e = .returned (.bool false) ∧ w' = w := by
  go_enter Try.func47, Try.ntmps47
  go_wp2
  go_ret
  exact ⟨by simp, rfl⟩
theorem nan_int64 (x : Int) (w : World) : Calls Try.prog 48 #[.int .i64 x] w fun e w' => e = .returned (.bool false) ∧ w' = w := by
  go_enter Try.func48, Try.ntmps48
  go_wp2
  go_ret
  exact ⟨by simp, rfl⟩
set_option maxHeartbeats 1000000 in
theorem cmp_int (x y : Int) (w : World) : Calls Try.prog 44 #[.int .i64 x, .int .i64 y] w fun e w' => e = .returned (.int .i64 (cmpI x y)) ∧ w' = w := by
  unfold cmpI
  by_cases h1 : x < y
  · rw [if_pos h1]
    go_enter Try.func44, Try.ntmps44
    go_wp2_with (go_at_call 47; refine (nan_int _ _).mono ?_; rintro e w2 ⟨rfl, hw2⟩; subst w2)
    go_ret
    exact ⟨rfl, rfl⟩
  · rw [if_neg h1]
    by_cases h2 : y < x
    · rw [if_pos h2]
      go_enter Try.func44, Try.ntmps44
      go_wp2_with (go_at_call 47; refine (nan_int _ _).mono ?_; rintro e w2 ⟨rfl, hw2⟩; subst w2)
      go_ret
      exact ⟨rfl, rfl⟩
    · rw [if_neg h2]
      go_enter Try.func44, Try.ntmps44
      go_wp2_with (go_at_call 47; refine (nan_int _ _).mono ?_; rintro e w2 ⟨rfl, hw2⟩; subst w2)
      go_ret
      exact ⟨rfl, rfl⟩
set_option maxHeartbeats 1000000 in
theorem cmp_int64 (x y : Int) (w : World) : Calls Try.prog 45 #[.int .i64 x, .int .i64 y] w fun e w' => e = .returned (.int .i64 (cmpI x y)) ∧ w' = w := by
  unfold cmpI
  by_cases h1 : x < y
  · rw [if_pos h1]
    go_enter Try.func45, Try.ntmps45
    go_wp2_with (go_at_call 48; refine (nan_int64 _ _).mono ?_; rintro e w2 ⟨rfl, hw2⟩; subst w2)
    go_ret
    exact ⟨rfl, rfl⟩
  · rw [if_neg h1]
    by_cases h2 : y < x
    · rw [if_pos h2]
      go_enter Try.func45, Try.ntmps45
      go_wp2_with (go_at_call 48; refine (nan_int64 _ _).mono ?_; rintro e w2 ⟨rfl, hw2⟩; subst w2)
      go_ret
      exact ⟨rfl, rfl⟩
    · rw [if_neg h2]
      go_enter Try.func45, Try.ntmps45
      go_wp2_with (go_at_call 48; refine (nan_int64 _ _).mono ?_; rintro e w2 ⟨rfl, hw2⟩; subst w2)
      go_ret
      exact ⟨rfl, rfl⟩
set_option maxHeartbeats 1000000 in
theorem or_any (g : Nat) (p q : Int) (w : World) (h0 : w.cell? ⟨g, 0, none⟩ = some (.int .i64 p)) (h1 : w.cell? ⟨g, 1, none⟩ = some (.int .i64 q)) : Calls Try.prog 43 #[.slice (some ⟨g, 0, none⟩) 2 2] w fun e w' => e = .returned (.int .i64 (if p = 0 then q else p)) ∧ w' = w := by
  by_cases hp : p = 0
  · subst hp
    rw [if_pos rfl]
    by_cases hq : q = 0
    · subst hq
      go_enter Try.func43, Try.ntmps43
      go_wp2
      refine wp_loop_rounds 3 ?_
      rw [rounds_succ]
      go_wp2
      rw [rounds_succ]
      go_wp2
      rw [rounds_succ]
      go_wp2
      go_ret
      exact ⟨rfl, rfl⟩
    · have hqb : (q == 0) = false := by simpa using hq
      go_enter Try.func43, Try.ntmps43
      go_wp2
      refine wp_loop_rounds 3 ?_
      rw [rounds_succ]
      go_wp2
      rw [rounds_succ]
      go_wp2
      go_ret
      exact ⟨rfl, rfl⟩
  · rw [if_neg hp]
    have hpb : (p == 0) = false := by simpa using hp
    go_enter Try.func43, Try.ntmps43
    go_wp2
    refine wp_loop_rounds 3 ?_
    rw [rounds_succ]
    go_wp2
    go_ret
    exact ⟨rfl, rfl⟩
theorem cell_heap2 {W : World} {g : Nat} {x y : Value} {t : TypeId} (h : W.heap[g]? = some (.cells #[x, y] t (0, 0))) : W.cell? ⟨g, 0, none⟩ = some x ∧ W.cell? ⟨g, 1, none⟩ = some y := by
  constructor <;> simp [World.cell?, h]
set_option maxRecDepth 100000 in
set_option maxHeartbeats 4000000 in
theorem compare_any (a0 a1 b0 b1 : Int) (w : World) : Calls Try.prog 30 #[.agg #[.int .i64 a0, .int .i64 a1], .agg #[.int .i64 b0, .int .i64 b1]] w fun e w' => e = .returned (.int .i64 (if cmpI a0 b0 = 0 then cmpI a1 b1 else cmpI a0 b0)) ∧ Below w.heap.size w w' := by
  have C1 := hide (fun W => cmp_int a0 b0 W)
  have C2 := hide (fun W => cmp_int64 a1 b1 W)
  generalize cmpI a0 b0 = p at *
  generalize cmpI a1 b1 = q at *
  have CO := hide (fun g W h0 h1 => or_any g p q W h0 h1)
  generalize (if p = 0 then q else p) = E at *
  have hX := heap_alloc_new ((w.alloc (.cells #[.int .i64 a0, .int .i64 a1] 46)).alloc (.cells #[.int .i64 b0, .int .i64 b1] 46)) (.cells #[.int .i64 p, .int .i64 q] 3)
  rw [World.size_alloc, World.size_alloc] at hX
  have X0 := hide (cell_heap2 hX).1
  have X1 := hide (cell_heap2 hX).2
  have HB : Hid (Below w.heap.size w (((w.alloc (.cells #[.int .i64 a0, .int .i64 a1] 46)).alloc (.cells #[.int .i64 b0, .int .i64 b1] 46)).alloc (.cells #[.int .i64 p, .int .i64 q] 3))) := by show Below _ _ _; go_grown
  clear hX
  go_enter Try.func30, Try.ntmps30
  go_wp2_with fail
  obtain ⟨W2, hW2⟩ : ∃ y, y = (w.alloc (.cells #[.int .i64 a0, .int .i64 a1] 46)).alloc (.cells #[.int .i64 b0, .int .i64 b1] 46) := ⟨_, rfl⟩
  rw [← hW2]
  obtain ⟨C, hC⟩ : ∃ C : World → Prop, C = fun Z => Z = W2.drew := ⟨_, rfl⟩
  have hCc : ∀ Z, C Z → Z.cell? ⟨w.heap.size, 0, none⟩ = some (.int .i64 a0) ∧ Z.cell? ⟨w.heap.size, 1, none⟩ = some (.int .i64 a1) ∧ Z.cell? ⟨w.heap.size + 1, 0, none⟩ = some (.int .i64 b0) ∧ Z.cell? ⟨w.heap.size + 1, 1, none⟩ = some (.int .i64 b1) := fun Z hZ => by
    rw [hC] at hZ
    subst hZ
    have k1 : W2.drew.heap[w.heap.size + 1]? = some (.cells #[.int .i64 b0, .int .i64 b1] 46 (0, 0)) := by
      rw [hW2]
      have := heap_alloc_new (w.alloc (.cells #[.int .i64 a0, .int .i64 a1] 46)) (.cells #[.int .i64 b0, .int .i64 b1] 46)
      rwa [World.size_alloc] at this
    have k2 : W2.drew.heap[w.heap.size]? = some (.cells #[.int .i64 a0, .int .i64 a1] 46 (0, 0)) := by
      rw [hW2]
      exact (Below.heap_alloc _ _ _ (by simp)).trans (heap_alloc_new w _)
    exact ⟨(cell_heap2 k2).1, (cell_heap2 k2).2, (cell_heap2 k1).1, (cell_heap2 k1).2⟩
  have H1 : Hid (∀ Z, C Z → Calls Try.prog 44 #[.int .i64 a0, .int .i64 b0] Z fun e w' => e = .returned (.int .i64 p) ∧ C w') := fun Z hZ => (unhide C1 Z).mono (by rintro e w' ⟨rfl, rfl⟩; exact ⟨rfl, hZ⟩)
  have H2 : Hid (∀ Z, C Z → Calls Try.prog 45 #[.int .i64 a1, .int .i64 b1] Z fun e w' => e = .returned (.int .i64 q) ∧ C w') := fun Z hZ => (unhide C2 Z).mono (by rintro e w' ⟨rfl, rfl⟩; exact ⟨rfl, hZ⟩)
  refine wp_calm_tail C 10 (by kernel_rfl) (by kernel_rfl) (by rw [hC]) ?_
  simp only [List.take_succ_cons, List.take_zero, List.drop_succ_cons, List.drop_zero]
  refine walkC_yes (.pointer (some ⟨w.heap.size, 0, none⟩)) (by kernel_rfl) (fun Z hZ => ?_) ?_
  · simp [upC, go_sem]
    exact hZ
  simp only [Act.put, List.setIfInBounds_toArray, List.set_cons_succ, List.set_cons_zero]
  refine walkC_yes (.int .i64 a0) (by kernel_rfl) (fun Z hZ => ?_) ?_
  · simp [upC, go_sem, (hCc Z hZ).1]
    exact hZ
  simp only [Act.put, List.setIfInBounds_toArray, List.set_cons_succ, List.set_cons_zero]
  refine walkC_yes (.pointer (some ⟨w.heap.size + 1, 0, none⟩)) (by kernel_rfl) (fun Z hZ => ?_) ?_
  · simp [upC, go_sem]
    exact hZ
  simp only [Act.put, List.setIfInBounds_toArray, List.set_cons_succ, List.set_cons_zero]
  refine walkC_yes (.int .i64 b0) (by kernel_rfl) (fun Z hZ => ?_) ?_
  · simp [upC, go_sem, (hCc Z hZ).2.2.1]
    exact hZ
  simp only [Act.put, List.setIfInBounds_toArray, List.set_cons_succ, List.set_cons_zero]
  refine walkC_yes (.int .i64 p) (by kernel_rfl) (fun Z hZ => ?_) ?_
  · simp [upC, go_sem]
    exact unhide H1 Z hZ
  simp only [Act.put, List.setIfInBounds_toArray, List.set_cons_succ, List.set_cons_zero]
  refine walkC_yes (.pointer (some ⟨w.heap.size, 1, none⟩)) (by kernel_rfl) (fun Z hZ => ?_) ?_
  · simp [upC, go_sem]
    exact hZ
  simp only [Act.put, List.setIfInBounds_toArray, List.set_cons_succ, List.set_cons_zero]
  refine walkC_yes (.int .i64 a1) (by kernel_rfl) (fun Z hZ => ?_) ?_
  · simp [upC, go_sem, (hCc Z hZ).2.1]
    exact hZ
  simp only [Act.put, List.setIfInBounds_toArray, List.set_cons_succ, List.set_cons_zero]
  refine walkC_yes (.pointer (some ⟨w.heap.size + 1, 1, none⟩)) (by kernel_rfl) (fun Z hZ => ?_) ?_
  · simp [upC, go_sem]
    exact hZ
  simp only [Act.put, List.setIfInBounds_toArray, List.set_cons_succ, List.set_cons_zero]
  refine walkC_yes (.int .i64 b1) (by kernel_rfl) (fun Z hZ => ?_) ?_
  · simp [upC, go_sem, (hCc Z hZ).2.2.2]
    exact hZ
  simp only [Act.put, List.setIfInBounds_toArray, List.set_cons_succ, List.set_cons_zero]
  refine walkC_yes (.int .i64 q) (by kernel_rfl) (fun Z hZ => ?_) ?_
  · simp [upC, go_sem]
    exact unhide H2 Z hZ
  simp only [Act.put, List.setIfInBounds_toArray, List.set_cons_succ, List.set_cons_zero]
  intro Z hZ
  rw [hC] at hZ
  subst hZ
  clear C1 C2 H1 H2
  go_wp2_with fail
  refine (unhide CO _ _ (by exact unhide X0) (by exact unhide X1)).mono ?_
  rintro e w2 ⟨rfl, hw2⟩
  subst w2
  go_wp2
  go_ret
  exact ⟨rfl, (unhide HB).drew⟩
end Go.Proofs.Ytkeanlpgnnikjaa
