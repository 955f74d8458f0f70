import Derived.Test.YtcannknicfnkdaaS
import Derived.Test.YtcannknicfnkdaaRW
import Derived.Test.YtcannknicfnkdaaRows
import Derived.Deep.DeepHandedRow
import Derived.Lib.SmallJoins
namespace Go.Proofs.Ytcannknicfnkdaa
open Go.ChangeShapes Go.WideShapes Go.ChangeAt Go.RowKit Go.Deep
theorem ownTT : ownKnob Try.prog.godebug = none := by kernel_rfl
theorem laidOutTT : laidOutB Try.prog = true := by kernel_rfl
set_option maxRecDepth 100000 in
/-- A start that fits. -/
theorem fitsT (os : Os) {H : Type} (enc : TypeId × Value → H) : ∃ w0 : World, w0.os = os ∧ (w0.forCall (fun _ _ => 0) ⟨#[], #[.slice none 0 0, .int .i64 0, .int .i64 0, .slice none 0 0, .int .i64 0, .int .i64 0], []⟩).variablesB Try.prog = true ∧
    ((w0.forCall (fun _ _ => 0) ⟨#[], #[.slice none 0 0, .int .i64 0, .int .i64 0, .slice none 0 0, .int .i64 0, .int .i64 0], []⟩).heap.toList.drop Try.prog.globals.size).take ((begin Try.prog (fun _ _ => 0) default).world.heap.size - Try.prog.globals.size) =
      (begin Try.prog (fun _ _ => 0) default).world.heap.toList.drop Try.prog.globals.size ∧
    Input.okWideB Try.prog (w0.forCall (fun _ _ => 0) ⟨#[], #[.slice none 0 0, .int .i64 0, .int .i64 0, .slice none 0 0, .int .i64 0, .int .i64 0], []⟩) 4 ⟨#[], #[.slice none 0 0, .int .i64 0, .int .i64 0, .slice none 0 0, .int .i64 0, .int .i64 0], []⟩ = true ∧
    (OpenSpec.ofChange Rows.topRoadsSpec).preRow enc Try.prog Try.f4 Rows.topRoadsRow.domain false Rows.topRoadsRow.laid (w0.forCall (fun _ _ => 0) ⟨#[], #[.slice none 0 0, .int .i64 0, .int .i64 0, .slice none 0 0, .int .i64 0, .int .i64 0], []⟩).memory #[.slice none 0 0, .int .i64 0, .int .i64 0, .slice none 0 0, .int .i64 0, .int .i64 0] :=
  ⟨World.holding Try.prog os ⟨#[], #[], []⟩, rfl, by kernel_rfl, by kernel_rfl, by kernel_rfl,
    OpenSpec.preRow_of_cond 8 (x := ([.nil, .lit (.int .i64 0), .lit (.int .i64 0), .nil, .lit (.int .i64 0), .lit (.int .i64 0)], [], [])) (by kernel_rfl) (by kernel_rfl) (fun k hk => by cases hk) (by kernel_rfl) (laidMet_of_run' 8 (by kernel_rfl) (by kernel_rfl))⟩
set_option maxRecDepth 100000 in
set_option maxHeartbeats 1600000 in
/-- WHAT THE WALK GIVES, FOR EVERY ARGUMENT. -/
theorem contractT (H : Type) (enc : TypeId × Value → H) (W : World) (base : Nat) (args : Array Value) (ds gs : List (DataW H)) (before : List MemPlace)
    (hval0 : ∀ (j : Nat) t v, Try.f4.params[j]? = some t → args[j]? = some v → Value.okWide Try.prog W .any base t v)
    (hW : DataW.Whole enc Try.prog Try.f4.params.toList Rows.topRoadsSpec.vars false W args.toList ds gs before)
    (hsz0 : (DataW.weightsEach Try.prog (Try.f4.params.toList ++ (OpenSpec.ofChange Rows.topRoadsSpec).bare.plain.varTypes Try.prog) (ds ++ gs)).all (· ≤ reachBytes) = true) :
    Calls Try.prog 4 args W fun e W' => ∃ v, e = .returned v ∧ Rows.topRoadsSpec.post enc Try.prog Try.f4 false true false false W args v W' := by
  have hval := hval0
  have hW' := hW
  obtain ⟨p, q, hA0, hV, rfl, hfz, hnd⟩ := hW
  have hA : DataW.TrodAll enc Try.prog W 0 (fun _ => true) true Try.f4.params.toList args.toList ds p := hA0
  rw [Try.params4] at hA hval hsz0
  obtain ⟨v0, vs0, d0, ds0, p0, q0, hargs, rfl, rfl, h0, r0⟩ := trodAll_cons hA
  obtain ⟨v1, vs1, d1, ds1, p1, q1, rfl, rfl, rfl, h1, r1⟩ := trodAll_cons r0
  obtain ⟨v2, vs2, d2, ds2, p2, q2, rfl, rfl, rfl, h2, r2⟩ := trodAll_cons r1
  obtain ⟨v3, vs3, d3, ds3, p3, q3, rfl, rfl, rfl, h3, r3⟩ := trodAll_cons r2
  obtain ⟨v4, vs4, d4, ds4, p4, q4, rfl, rfl, rfl, h4, r4⟩ := trodAll_cons r3
  obtain ⟨v5, vs5, d5, ds5, p5, q5, rfl, rfl, rfl, h5, r5⟩ := trodAll_cons r4
  obtain ⟨rfl, rfl, rfl⟩ := trodAll_nil r5
  obtain rfl : args = #[v0, v1, v2, v3, v4, v5] := by cases args; simp_all
  obtain ⟨rfl, rfl⟩ := trodVars_none hV
  have k0 := h0
  have k1 := h1
  have k2 := h2
  have k3 := h3
  have k4 := h4
  have k5 := h5
  have lt0 : ∀ x ∈ p0, x.block < W.heap.size := by obtain ⟨m, hm⟩ := k0; exact DataW.trod_lt m _ _ _ hm
  have lt1 : ∀ x ∈ p1, x.block < W.heap.size := by obtain ⟨m, hm⟩ := k1; exact DataW.trod_lt m _ _ _ hm
  have lt2 : ∀ x ∈ p2, x.block < W.heap.size := by obtain ⟨m, hm⟩ := k2; exact DataW.trod_lt m _ _ _ hm
  have lt3 : ∀ x ∈ p3, x.block < W.heap.size := by obtain ⟨m, hm⟩ := k3; exact DataW.trod_lt m _ _ _ hm
  have lt4 : ∀ x ∈ p4, x.block < W.heap.size := by obtain ⟨m, hm⟩ := k4; exact DataW.trod_lt m _ _ _ hm
  have lt5 : ∀ x ∈ p5, x.block < W.heap.size := by obtain ⟨m, hm⟩ := k5; exact DataW.trod_lt m _ _ _ hm
  have hall : ∀ n ∈ DataW.weightsEach Try.prog [25, 3, 3, 25, 3, 3] [d0, d1, d2, d3, d4, d5], n ≤ reachBytes := by
    intro n hn
    exact of_decide_eq_true (List.all_eq_true.1 hsz0 n hn)
  obtain ⟨a0, n0, c0, l0, rfl, hI0, hR0, hm0⟩ : ∃ la ln lc likes, v0 = .slice la ln lc ∧ Ints W la ln lc likes ∧ (∀ x ∈ likes, InR x) ∧ ln ≤ 140737488351232 := by
    obtain ⟨sa, sn, sc, rfl⟩ := okWide_slice Try.underlying25 (hval 0 25 v0 rfl rfl)
    obtain ⟨m, hm⟩ := h0
    obtain ⟨la, ln, lc, likes, e, hI, hR, hw⟩ := ints_in (show DataW.trod enc Try.prog W 0 (fun _ => true) true m 25 [.slice sa sn sc] = _ from hm)
    exact ⟨la, ln, lc, likes, e, hI, hR, hw fun n hn => hall n (DataW.weights_mem_each (j := 0) rfl rfl n hn)⟩
  obtain ⟨x1, rfl, hR1⟩ : ∃ n, v1 = .int .i64 n ∧ InR n := by
    obtain ⟨sn, rfl⟩ := okWide_int Try.underlying3 (hval 1 3 v1 rfl rfl)
    obtain ⟨m, hm⟩ := h1
    exact int_in (show DataW.trod enc Try.prog W 0 (fun _ => true) true m 3 [.int .i64 sn] = _ from hm)
  obtain ⟨x2, rfl, hR2⟩ : ∃ n, v2 = .int .i64 n ∧ InR n := by
    obtain ⟨sn, rfl⟩ := okWide_int Try.underlying3 (hval 2 3 v2 rfl rfl)
    obtain ⟨m, hm⟩ := h2
    exact int_in (show DataW.trod enc Try.prog W 0 (fun _ => true) true m 3 [.int .i64 sn] = _ from hm)
  obtain ⟨a3, n3, c3, l3, rfl, hI3, hR3, hm3⟩ : ∃ la ln lc likes, v3 = .slice la ln lc ∧ Ints W la ln lc likes ∧ (∀ x ∈ likes, InR x) ∧ ln ≤ 140737488351232 := by
    obtain ⟨sa, sn, sc, rfl⟩ := okWide_slice Try.underlying25 (hval 3 25 v3 rfl rfl)
    obtain ⟨m, hm⟩ := h3
    obtain ⟨la, ln, lc, likes, e, hI, hR, hw⟩ := ints_in (show DataW.trod enc Try.prog W 0 (fun _ => true) true m 25 [.slice sa sn sc] = _ from hm)
    exact ⟨la, ln, lc, likes, e, hI, hR, hw fun n hn => hall n (DataW.weights_mem_each (j := 3) rfl rfl n hn)⟩
  obtain ⟨x4, rfl, hR4⟩ : ∃ n, v4 = .int .i64 n ∧ InR n := by
    obtain ⟨sn, rfl⟩ := okWide_int Try.underlying3 (hval 4 3 v4 rfl rfl)
    obtain ⟨m, hm⟩ := h4
    exact int_in (show DataW.trod enc Try.prog W 0 (fun _ => true) true m 3 [.int .i64 sn] = _ from hm)
  obtain ⟨x5, rfl, hR5⟩ : ∃ n, v5 = .int .i64 n ∧ InR n := by
    obtain ⟨sn, rfl⟩ := okWide_int Try.underlying3 (hval 5 3 v5 rfl rfl)
    obtain ⟨m, hm⟩ := h5
    exact int_in (show DataW.trod enc Try.prog W 0 (fun _ => true) true m 3 [.int .i64 sn] = _ from hm)
  clear hA0 hval0
  refine (top_any a0 n0 c0 l0 x1 x2 a3 n3 c3 l3 x4 x5 W hI0 hR0 hI3 hR3 hR1 hR2 hR4 hR5 hm0 hm3).mono fun e W' ⟨he, bel⟩ => ?_
  subst he
  exact ⟨_, rfl, _, _, _, [], _, [], hW', trodAll_mk1 (shut_bool Try.underlying4 _), (trodAll_cons_mk (Below.trod laidOutTT (by kernel_rfl) (of_decide_eq_true (by kernel_rfl)) k0 bel lt0) (trodAll_cons_mk (Below.trod laidOutTT (by kernel_rfl) (of_decide_eq_true (by kernel_rfl)) k1 bel lt1) (trodAll_cons_mk (Below.trod laidOutTT (by kernel_rfl) (of_decide_eq_true (by kernel_rfl)) k2 bel lt2) (trodAll_cons_mk (Below.trod laidOutTT (by kernel_rfl) (of_decide_eq_true (by kernel_rfl)) k3 bel lt3) (trodAll_cons_mk (Below.trod laidOutTT (by kernel_rfl) (of_decide_eq_true (by kernel_rfl)) k4 bel lt4) (trodAll_cons_mk (Below.trod laidOutTT (by kernel_rfl) (of_decide_eq_true (by kernel_rfl)) k5 bel lt5) trodAll_mk0)))))), rfl, bel.frame _, fun h => by cases h⟩
set_option maxRecDepth 100000 in
theorem liftedT (os : Os) (started : os.Started) (H : Type) (enc : TypeId × Value → H) (F : Stop.Interp) :
    ReturnsInHanded {} Try.checked os 4 .any ((OpenSpec.ofChange Rows.topRoadsSpec).preRow enc Try.prog Try.f4 Rows.topRoadsRow.domain false Rows.topRoadsRow.laid) (((OpenSpec.ofChange Rows.topRoadsSpec).at F).post enc Try.prog Try.f4 false true false false) := by
  obtain ⟨w0, f1, f2, f3, f4, f5⟩ := fitsT os enc
  refine returnsInHanded_of_row (C := Try.checked) (s := OpenSpec.ofChange Rows.topRoadsSpec) ownTT started (by kernel_rfl) Try.func4
    (witness_row_at (enc := enc) (C := Try.checked) false w0 #[.slice none 0 0, .int .i64 0, .int .i64 0, .slice none 0 0, .int .i64 0, .int .i64 0] f1 f2 f3 f4 f5) ?_
  intro W base args ds gs before hval hW _ _ hz _ _ _
  exact contractT H enc W base args ds gs before hval hW hz
/-- TOPROADS: ROSENTHAL, of every input. -/
theorem topRoads_holds : Rows.TopRoadsSaid :=
  OpenClaim.holds_of_cond 4 Try.f4 rfl rfl rfl rfl rfl rfl rfl ⟨rfl, rfl, rfl, rfl, rfl⟩ rfl rfl rfl rfl rfl (by kernel_rfl) Try.func4 (by kernel_rfl)
    (of_decide_eq_true (by kernel_rfl)) (by unfold Func.isWrapper; first | (rw [if_pos (by decide +kernel)]; kernel_rfl) | (rw [if_neg (by decide +kernel)]; exact ⟨rfl, rfl⟩))
    (fun os started H enc _ F => by rw [OpenClaim.pre_eq_preRow]; exact liftedT os started H enc F)
#print axioms topRoads_holds
end Go.Proofs.Ytcannknicfnkdaa
