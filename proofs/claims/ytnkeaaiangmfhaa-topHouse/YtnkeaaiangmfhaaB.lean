import Derived.Test.YtnkeaaiangmfhaaA
import Derived.Laws.Rows
namespace Go.Proofs.Ytnkeaaiangmfhaa
open Go.RowKit
/-- A claim, as the numbers stand. -/
def cl (r v s : Int) : Int × Int := if r = 1 then (v, s) else if r = 2 then (wrap64 (v * v), wrap64 (s * wrap64 (s + 1))) else if r = 3 then (wrap64 (2 * v), wrap64 (wrap64 (2 * s) + 1)) else (v, wrap64 (s + 1))
def clV (p : Int × Int) : Value := .agg #[.int .i64 p.1, .int .i64 p.2]
def abv (a b : Int × Int) : Bool := if a.2 = 0 ∧ b.2 = 0 then decide (a.1 > b.1) else decide (wrap64 (a.1 * b.2) > wrap64 (b.1 * a.2))
set_option maxHeartbeats 1000000 in
theorem claim_any (r v s : Int) (w : World) :
    Calls Try.prog 11 #[.int .i64 r, .int .i64 v, .int .i64 s] w fun e w' => e = .returned (clV (cl r v s)) ∧ Below w.heap.size w w' := by
  by_cases h1 : r = 1
  · subst h1
    go_enter Try.func11, Try.ntmps11
    go_wp2
    (try simp only [Exit.inBlock, Exit.then])
    refine bodyPost_ret (results_cell_row rfl _ _ w.heap.size 34 _ (0, 0) _ rfl (heap_alloc_new _ _) Try.underlying34 rfl (by kernel_rfl)) rfl ?_
    exact ⟨by simp [clV, cl], by go_grown⟩
  · by_cases h2 : r = 2
    · subst h2
      go_enter Try.func11, Try.ntmps11
      go_wp2
      (try simp only [Exit.inBlock, Exit.then])
      refine bodyPost_ret (results_cell_row rfl _ _ w.heap.size 34 _ (0, 0) _ rfl (heap_alloc_new _ _) Try.underlying34 rfl (by kernel_rfl)) rfl ?_
      exact ⟨by simp [clV, cl], by go_grown⟩
    · by_cases h3 : r = 3
      · subst h3
        go_enter Try.func11, Try.ntmps11
        go_wp2
        (try simp only [Exit.inBlock, Exit.then])
        refine bodyPost_ret (results_cell_row rfl _ _ w.heap.size 34 _ (0, 0) _ rfl (heap_alloc_new _ _) Try.underlying34 rfl (by kernel_rfl)) rfl ?_
        exact ⟨by simp [clV, cl], by go_grown⟩
      · go_enter Try.func11, Try.ntmps11
        go_wp2
        (try simp only [Exit.inBlock, Exit.then])
        refine bodyPost_ret (results_cell_row rfl _ _ w.heap.size 34 _ (0, 0) _ rfl (heap_alloc_new _ _) Try.underlying34 rfl (by kernel_rfl)) rfl ?_
        exact ⟨by simp [clV, cl, h1, h2, h3], by go_grown⟩
set_option maxHeartbeats 1000000 in
theorem above_any (p q : Int × Int) (w : World) :
    Calls Try.prog 12 #[clV p, clV q] w fun e w' => e = .returned (.bool (abv p q)) ∧ Below w.heap.size w w' := by
  obtain ⟨a, b⟩ := p
  obtain ⟨c, d⟩ := q
  unfold clV
  by_cases h1 : b = 0
  · subst h1
    by_cases h2 : d = 0
    · subst h2
      go_enter Try.func12, Try.ntmps12
      go_wp2
      go_ret
      exact ⟨ret_bool (by simp [abv]), by go_grown⟩
    · go_enter Try.func12, Try.ntmps12
      go_wp2
      go_ret
      exact ⟨ret_bool (by simp [abv, h2, show wrap64 0 = 0 by decide +kernel]), by go_grown⟩
  · go_enter Try.func12, Try.ntmps12
    go_wp2
    go_ret
    exact ⟨ret_bool (by simp [abv, h1]), by go_grown⟩
end Go.Proofs.Ytnkeaaiangmfhaa
