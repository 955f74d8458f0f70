import Derived.Test.YtcannknicfnkdaaN
import Derived.Test.YtcannknicfnkdaaOP
import Derived.Test.YtcannknicfnkdaaRows
import Derived.Deep.DeepHandedRow
import Derived.Lib.SmallJoins
namespace Go.Proofs.Ytcannknicfnkdaa
open Go.ChangeShapes Go.WideShapes Go.ChangeAt Go.RowKit Go.Deep
theorem cells24 : Try.prog.cellsOf 24 = 2 := by kernel_rfl
theorem ownTR : ownKnob Try.prog.godebug = none := by kernel_rfl
theorem laidOutTR : laidOutB Try.prog = true := by kernel_rfl
set_option maxRecDepth 100000 in
/-- A start that fits. -/
theorem fitsR (os : Os) {H : Type} (enc : TypeId × Value → H) : ∃ w0 : World, w0.os = os ∧ (w0.forCall (fun _ _ => 0) ⟨#[], #[.agg #[.slice none 0 0, .slice none 0 0], .slice none 0 0], []⟩).variablesB Try.prog = true ∧
    ((w0.forCall (fun _ _ => 0) ⟨#[], #[.agg #[.slice none 0 0, .slice none 0 0], .slice none 0 0], []⟩).heap.toList.drop Try.prog.globals.size).take ((begin Try.prog (fun _ _ => 0) default).world.heap.size - Try.prog.globals.size) =
      (begin Try.prog (fun _ _ => 0) default).world.heap.toList.drop Try.prog.globals.size ∧
    Input.okWideB Try.prog (w0.forCall (fun _ _ => 0) ⟨#[], #[.agg #[.slice none 0 0, .slice none 0 0], .slice none 0 0], []⟩) 3 ⟨#[], #[.agg #[.slice none 0 0, .slice none 0 0], .slice none 0 0], []⟩ = true ∧
    (OpenSpec.ofChange Rows.roadsSaySpec).preRow enc Try.prog Try.f3 Rows.roadsSayRow.domain false Rows.roadsSayRow.laid (w0.forCall (fun _ _ => 0) ⟨#[], #[.agg #[.slice none 0 0, .slice none 0 0], .slice none 0 0], []⟩).memory #[.agg #[.slice none 0 0, .slice none 0 0], .slice none 0 0] :=
  ⟨World.holding Try.prog os ⟨#[], #[], []⟩, rfl, by kernel_rfl, by kernel_rfl, by kernel_rfl,
    OpenSpec.preRow_of_cond 8 (x := ([.agg [.nil, .nil], .nil], [], [])) (by kernel_rfl) (by kernel_rfl) (fun k hk => by cases hk) (by kernel_rfl) (laidMet_of_run' 8 (by kernel_rfl) (by kernel_rfl))⟩
set_option maxRecDepth 100000 in
set_option maxHeartbeats 1600000 in
/-- WHAT THE WALK GIVES, FOR EVERY ARGUMENT. -/
theorem contractR (H : Type) (enc : TypeId × Value → H) (W : World) (base : Nat) (args : Array Value) (ds gs : List (DataW H)) (before : List MemPlace)
    (hval0 : ∀ (j : Nat) t v, Try.f3.params[j]? = some t → args[j]? = some v → Value.okWide Try.prog W .any base t v)
    (hW : DataW.Whole enc Try.prog Try.f3.params.toList Rows.roadsSaySpec.vars false W args.toList ds gs before)
    (hsz0 : (DataW.weightsEach Try.prog (Try.f3.params.toList ++ (OpenSpec.ofChange Rows.roadsSaySpec).bare.plain.varTypes Try.prog) (ds ++ gs)).all (· ≤ reachBytes) = true) :
    Calls Try.prog 3 args W fun e W' => ∃ v, e = .returned v ∧ Rows.roadsSaySpec.post enc Try.prog Try.f3 false true false false W args v W' := by
  have hval := hval0
  have hW' := hW
  obtain ⟨p, q, hA0, hV, rfl, hfz, hnd⟩ := hW
  have hA : DataW.TrodAll enc Try.prog W 0 (fun _ => true) true Try.f3.params.toList args.toList ds p := hA0
  rw [Try.params3] at hA hval hsz0
  obtain ⟨v0, vs0, d0, ds0, p0, q0, hargs, rfl, rfl, h0, r0⟩ := trodAll_cons hA
  obtain ⟨v1, vs1, d1, ds1, p1, q1, rfl, rfl, rfl, h1, r1⟩ := trodAll_cons r0
  obtain ⟨rfl, rfl, rfl⟩ := trodAll_nil r1
  obtain rfl : args = #[v0, v1] := by cases args; simp_all
  obtain ⟨rfl, rfl⟩ := trodVars_none hV
  have k0 := h0
  have k1 := h1
  have lt0 : ∀ x ∈ p0, x.block < W.heap.size := by obtain ⟨m, hm⟩ := k0; exact DataW.trod_lt m _ _ _ hm
  have lt1 : ∀ x ∈ p1, x.block < W.heap.size := by obtain ⟨m, hm⟩ := k1; exact DataW.trod_lt m _ _ _ hm
  have hall : ∀ n ∈ DataW.weightsEach Try.prog [24, 25] [d0, d1], n ≤ reachBytes := by
    intro n hn
    exact of_decide_eq_true (List.all_eq_true.1 hsz0 n hn)
  obtain ⟨x0, x1, y0, y1, m0, rfl, rfl, e0, t0, t1⟩ := Joins.open_agg2 Try.underlying24 (by kernel_rfl) cells24 (hval 0 24 v0 rfl rfl) h0
  have ww0 : ∀ n ∈ y0.1.weights Try.prog 22, n ≤ reachBytes := fun n hn => hall n (DataW.weights_mem_each (j := 0) rfl rfl n (by
    simp only [DataW.weights, Try.underlying24]
    exact DataW.weights_mem_each (j := 0) rfl rfl n hn))
  have ww1 : ∀ n ∈ y1.1.weights Try.prog 22, n ≤ reachBytes := fun n hn => hall n (DataW.weights_mem_each (j := 0) rfl rfl n (by
    simp only [DataW.weights, Try.underlying24]
    exact DataW.weights_mem_each (j := 1) rfl rfl n hn))
  obtain ⟨ca, cn, cc, C, rfl, hC, hCs, hCn⟩ := lists_of t0 ww0
  obtain ⟨ka, kn, kc, K, rfl, hK, hKs, hKn⟩ := lists_of t1 ww1
  obtain ⟨a1, n1, c1, l1, rfl, hI1⟩ : ∃ la ln lc likes, v1 = .slice la ln lc ∧ Ints W la ln lc likes := by
    obtain ⟨sa, sn, sc, rfl⟩ := okWide_slice Try.underlying25 (hval 1 25 v1 rfl rfl)
    obtain ⟨m, hm⟩ := h1
    obtain ⟨la, ln, lc, likes, e, hI, _⟩ := ints_of (show DataW.trod enc Try.prog W 0 (fun _ => true) true m 25 [.slice sa sn sc] = _ from hm)
    exact ⟨la, ln, lc, likes, e, hI⟩
  clear hA0 hval0
  refine (says_any ca cn cc C ka kn kc K a1 n1 c1 l1 W hC hK hI1 hCs hCn hKs hKn).mono fun e W' ⟨he, bel⟩ => ?_
  subst he
  exact ⟨_, rfl, _, _, _, [], _, [], hW', trodAll_mk1 (shut_bool Try.underlying4 _), (trodAll_cons_mk (Below.trod laidOutTR (by kernel_rfl) (of_decide_eq_true (by kernel_rfl)) k0 bel lt0) (trodAll_cons_mk (Below.trod laidOutTR (by kernel_rfl) (of_decide_eq_true (by kernel_rfl)) k1 bel lt1) trodAll_mk0)), rfl, bel.frame _, fun h => by cases h⟩
set_option maxRecDepth 100000 in
theorem liftedR (os : Os) (started : os.Started) (H : Type) (enc : TypeId × Value → H) (F : Stop.Interp) :
    ReturnsInHanded {} Try.checked os 3 .any ((OpenSpec.ofChange Rows.roadsSaySpec).preRow enc Try.prog Try.f3 Rows.roadsSayRow.domain false Rows.roadsSayRow.laid) (((OpenSpec.ofChange Rows.roadsSaySpec).at F).post enc Try.prog Try.f3 false true false false) := by
  obtain ⟨w0, f1, f2, f3, f4, f5⟩ := fitsR os enc
  refine returnsInHanded_of_row (C := Try.checked) (s := OpenSpec.ofChange Rows.roadsSaySpec) ownTR started (by kernel_rfl) Try.func3
    (witness_row_at (enc := enc) (C := Try.checked) false w0 #[.agg #[.slice none 0 0, .slice none 0 0], .slice none 0 0] f1 f2 f3 f4 f5) ?_
  intro W base args ds gs before hval hW _ _ hz _ _ _
  exact contractR H enc W base args ds gs before hval hW hz
/-- ROADSSAY: A3, A4, of every input. -/
theorem roadsSay_holds : Rows.RoadsSaySaid :=
  OpenClaim.holds_of_cond 3 Try.f3 rfl rfl rfl rfl rfl rfl rfl ⟨rfl, rfl, rfl, rfl, rfl⟩ rfl rfl rfl rfl rfl (by kernel_rfl) Try.func3 (by kernel_rfl)
    (of_decide_eq_true (by kernel_rfl)) (by unfold Func.isWrapper; first | (rw [if_pos (by decide +kernel)]; kernel_rfl) | (rw [if_neg (by decide +kernel)]; exact ⟨rfl, rfl⟩))
    (fun os started H enc _ F => by rw [OpenClaim.pre_eq_preRow]; exact liftedR os started H enc F)
#print axioms roadsSay_holds
end Go.Proofs.Ytcannknicfnkdaa
