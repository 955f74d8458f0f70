import Derived.Test.YtbbbjpkomnhofaaL
import Derived.Test.YtbbbjpkomnhofaaK
namespace Go.Proofs.Ytbbbjpkomnhofaa
open Go.RowKit Go.Shelf
set_option maxRecDepth 100000 in
set_option maxHeartbeats 2000000 in
theorem answers_any (o0 o1 o2 o3 o4 o5 x y : Int) (w : World) :
    Calls Try.prog 28 #[.agg #[.int .i64 o0, .int .i64 o1, .int .i64 o2, .int .i64 o3, .int .i64 o4, .int .i64 o5], .int .i64 x, .int .i64 y] w fun e w' =>
      e = .returned (.agg #[.bool (abv [o0, o1, o2] x y), .bool (abv [o3, o4, o5] x y)]) ∧ Below w.heap.size w w' := by
  have mx : Try.prog.follows .mixedOrders = true := by kernel_rfl
  have AB : Hid (∀ (x y z u v : Int) (X : World), Calls Try.prog 29 #[.agg #[.int .i64 x, .int .i64 y, .int .i64 z], .int .i64 u, .int .i64 v] X fun e w'' => e = .returned (.bool (abv [x, y, z] u v)) ∧ Below X.heap.size X w'') := above_any
  obtain ⟨W0, hW0⟩ : ∃ y, y = (w.alloc (.cells #[.int .i64 o0, .int .i64 o1, .int .i64 o2, .int .i64 o3, .int .i64 o4, .int .i64 o5] 51)).alloc (.cells #[.bool false, .bool false] 34) := ⟨_, rfl⟩
  obtain ⟨C, hC⟩ : ∃ C : World → Prop, C = fun Z => Below w.heap.size w Z ∧ w.heap.size + 2 ≤ Z.heap.size ∧ Z.heap[w.heap.size]? = some (.cells #[.int .i64 o0, .int .i64 o1, .int .i64 o2, .int .i64 o3, .int .i64 o4, .int .i64 o5] 51 (0, 0)) ∧ Z.heap[w.heap.size + 1]? = some (.cells #[.bool false, .bool false] 34 (0, 0)) := ⟨_, rfl⟩
  have hC0 : C W0.drew := by
    rw [hC, hW0]
    refine ⟨(((Below.refl _ w).alloc (Nat.le_refl _) _).alloc (by simp) _).drew, by simp [World.drew], ?_, ?_⟩
    · show ((w.alloc _).alloc _).heap[_]? = _
      rw [Below.heap_alloc _ _ _ (by simp)]; exact World.alloc_heap_new _ _
    · show ((w.alloc _).alloc _).heap[_]? = _
      exact alloc_at _ (by simp)
  have hCc : ∀ Z, C Z → ∀ j v, (#[.int .i64 o0, .int .i64 o1, .int .i64 o2, .int .i64 o3, .int .i64 o4, .int .i64 o5] : Array Value)[j]? = some v → Z.cell? ⟨w.heap.size, j, none⟩ = some v := fun Z hZ j v hv => by
    rw [hC] at hZ
    exact (cell_in hZ.2.2.1 hv).1
  have hCb : ∀ Z Z', C Z → Below Z.heap.size Z Z' → C Z' := fun Z Z' hZ hb => by
    rw [hC] at hZ ⊢
    obtain ⟨z1, z2, z3, z4⟩ := hZ
    exact ⟨z1.trans (hb.mono (by omega)), Nat.le_trans z2 hb.size, (hb.block _ (by omega)).trans z3, (hb.block _ (by omega)).trans z4⟩
  go_enter Try.func28, Try.ntmps28
  go_wp2_with fail
  rw [← hW0]
  clear hW0
  generalize hv1 : abv [o0, o1, o2] x y = t1 at *
  generalize hv2 : abv [o3, o4, o5] x y = t2 at *
  refine wp_calm_tail C 11 (by kernel_rfl) (by kernel_rfl) hC0 ?_
  simp only [List.take_succ_cons, List.take_zero, List.drop_succ_cons, List.drop_zero]
  refine walkC_yes (.pointer (some ⟨w.heap.size, 0, none⟩)) (by kernel_rfl) (fun Z hZ => ?_) ?_
  · simp [upC, go_sem]
    exact hZ
  simp only [Act.put, List.setIfInBounds_toArray, List.set_cons_succ, List.set_cons_zero]
  refine walkC_yes (.agg #[.int .i64 o0, .int .i64 o1, .int .i64 o2]) (by kernel_rfl) (fun Z hZ => ?_) ?_
  · simp [upC, go_sem, hCc Z hZ 0 _ rfl, hCc Z hZ 1 _ rfl, hCc Z hZ 2 _ rfl]
    exact hZ
  simp only [Act.put, List.setIfInBounds_toArray, List.set_cons_succ, List.set_cons_zero]
  refine walkC_yes (.int .i64 x) (by kernel_rfl) (fun Z hZ => ?_) ?_
  · simp [upC, go_sem]
    exact hZ
  simp only [Act.put, List.setIfInBounds_toArray, List.set_cons_succ, List.set_cons_zero]
  refine walkC_yes (.int .i64 y) (by kernel_rfl) (fun Z hZ => ?_) ?_
  · simp [upC, go_sem]
    exact hZ
  simp only [Act.put, List.setIfInBounds_toArray, List.set_cons_succ, List.set_cons_zero]
  refine walkC_yes (.bool t1) (by kernel_rfl) (fun Z hZ => ?_) ?_
  · have c := unhide AB o0 o1 o2 x y Z
    rw [hv1] at c
    simp [upC, go_sem]
    exact c.mono fun e w' ⟨h1, h2⟩ => ⟨h1, hCb Z w' hZ h2⟩
  simp only [Act.put, List.setIfInBounds_toArray, List.set_cons_succ, List.set_cons_zero]
  refine walkC_yes (.pointer (some ⟨w.heap.size, 3, none⟩)) (by kernel_rfl) (fun Z hZ => ?_) ?_
  · simp [upC, go_sem]
    exact hZ
  simp only [Act.put, List.setIfInBounds_toArray, List.set_cons_succ, List.set_cons_zero]
  refine walkC_yes (.agg #[.int .i64 o3, .int .i64 o4, .int .i64 o5]) (by kernel_rfl) (fun Z hZ => ?_) ?_
  · simp [upC, go_sem, hCc Z hZ 3 _ rfl, hCc Z hZ 4 _ rfl, hCc Z hZ 5 _ rfl]
    exact hZ
  simp only [Act.put, List.setIfInBounds_toArray, List.set_cons_succ, List.set_cons_zero]
  refine walkC_yes (.int .i64 x) (by kernel_rfl) (fun Z hZ => ?_) ?_
  · simp [upC, go_sem]
    exact hZ
  simp only [Act.put, List.setIfInBounds_toArray, List.set_cons_succ, List.set_cons_zero]
  refine walkC_yes (.int .i64 y) (by kernel_rfl) (fun Z hZ => ?_) ?_
  · simp [upC, go_sem]
    exact hZ
  simp only [Act.put, List.setIfInBounds_toArray, List.set_cons_succ, List.set_cons_zero]
  refine walkC_yes (.bool t2) (by kernel_rfl) (fun Z hZ => ?_) ?_
  · have c := unhide AB o3 o4 o5 x y Z
    rw [hv2] at c
    simp [upC, go_sem]
    exact c.mono fun e w' ⟨h1, h2⟩ => ⟨h1, hCb Z w' hZ h2⟩
  simp only [Act.put, List.setIfInBounds_toArray, List.set_cons_succ, List.set_cons_zero]
  refine walkC_yes (.agg #[.bool t1, .bool t2]) (by kernel_rfl) (fun Z hZ => ?_) ?_
  · simp [upC, go_sem]
    exact hZ
  simp only [Act.put, List.setIfInBounds_toArray, List.set_cons_succ, List.set_cons_zero]
  intro Z hZ
  rw [hC] at hZ
  obtain ⟨z1, z2, z3, z4⟩ := hZ
  obtain ⟨e0, f0⟩ := cell_in z4 (j := 0) rfl
  obtain ⟨e1, f1⟩ := cell_in z4 (j := 1) rfl
  have HZ := hide (And.intro z1 (And.intro z2 (And.intro z3 z4)))
  clear z1 z2 z3 z4
  go_wp2_with fail
  obtain ⟨z1, z2, z3, z4⟩ := unhide HZ
  have hr : ((Z.setCell ⟨w.heap.size + 1, 0, none⟩ (.bool t1)).setCell ⟨w.heap.size + 1, 1, none⟩ (.bool t2)).heap[w.heap.size + 1]? = some (.cells #[.bool t1, .bool t2] 34 (0, 0)) := by
    rw [heap_setCell_same _ _ _ _ _ _ (heap_setCell_same _ _ _ _ _ _ z4)]; rfl
  refine bodyPost_ret (results_cell_row rfl _ _ (w.heap.size + 1) 34 #[.bool t1, .bool t2] (0, 0) _ rfl hr Try.underlying34 rfl (by show _ = some 2; kernel_rfl)) rfl ?_
  exact ⟨by rw [hv1, hv2], (z1.setCell (by show _ ≤ w.heap.size + 1; omega) _).setCell (by show _ ≤ w.heap.size + 1; omega) _⟩
end Go.Proofs.Ytbbbjpkomnhofaa
