import Derived.Test.YtkeanlpgnnikjaaZC
namespace Go.Proofs.Ytkeanlpgnnikjaa
open Go.RowKit Go.Shelf
set_option maxRecDepth 100000 in
set_option maxHeartbeats 4000000 in
theorem even_err (a : Option Addr) (n c : Nat) (L : List Sl) (w : World) (h : Lsts w a n c L) (he : smE L ≠ 0) :
    Calls Try.prog 13 #[.slice a n c] w fun e w' => e = .returned (two (.slice none 0 0) (smE L)) ∧ Below w.heap.size w w' := by
  have hbA : Below w.heap.size w (w.alloc (.cells #[.slice a n c] 22)) := by go_grown
  have CM := hide (may_any a n c L _ (h.later hbA))
  have hz : (smE L == 0) = false := by simpa using he
  clear h he
  generalize smE L = E at *
  refine (callsIn_wide (n := 9)).1 ?_
  refine callsIn_of_wp_marks Try.func13 rfl trivial ?_
  simp only [Try.ntmps13, List.size_toArray, List.length_cons, List.length_nil, Nat.reduceAdd, Nat.reduceSub, Array.replicate_succ, Array.replicate_zero, List.push_toArray, List.append_toArray, List.nil_append, List.cons_append]
  refine wpIn_wide.2 ?_
  go_wp2_with fail
  refine (unhide CM).mono ?_
  rintro e w2 ⟨rfl, hw2⟩
  subst w2
  go_wp2
  exact ⟨_, results_tmp2 rfl _ _ _, rfl, hbA⟩
end Go.Proofs.Ytkeanlpgnnikjaa
