import Derived.Test.YtkeanlpgnnikjaaZK
import Derived.Test.YtkeanlpgnnikjaaOP
import Derived.Test.YtkeanlpgnnikjaaRows
import Derived.Deep.DeepHandedRow
import Derived.Lib.SmallJoins
namespace Go.Proofs.Ytkeanlpgnnikjaa
open Go.ChangeShapes Go.WideShapes Go.ChangeAt Go.RowKit Go.Deep
theorem ownTS : ownKnob Try.prog.godebug = none := by kernel_rfl
theorem laidOutTS : laidOutB Try.prog = true := by kernel_rfl
set_option maxRecDepth 100000 in
/-- A start that fits. -/
theorem fitsS (os : Os) {H : Type} (enc : TypeId × Value → H) : ∃ w0 : World, w0.os = os ∧ (w0.forCall (fun _ _ => 0) ⟨#[], #[.slice none 0 0, .slice none 0 0], []⟩).variablesB Try.prog = true ∧
    ((w0.forCall (fun _ _ => 0) ⟨#[], #[.slice none 0 0, .slice none 0 0], []⟩).heap.toList.drop Try.prog.globals.size).take ((begin Try.prog (fun _ _ => 0) default).world.heap.size - Try.prog.globals.size) =
      (begin Try.prog (fun _ _ => 0) default).world.heap.toList.drop Try.prog.globals.size ∧
    Input.okWideB Try.prog (w0.forCall (fun _ _ => 0) ⟨#[], #[.slice none 0 0, .slice none 0 0], []⟩) 3 ⟨#[], #[.slice none 0 0, .slice none 0 0], []⟩ = true ∧
    (OpenSpec.ofChange Rows.shareSaysSpec).preRow enc Try.prog Try.f3 Rows.shareSaysRow.domain false Rows.shareSaysRow.laid (w0.forCall (fun _ _ => 0) ⟨#[], #[.slice none 0 0, .slice none 0 0], []⟩).memory #[.slice none 0 0, .slice none 0 0] :=
  ⟨World.holding Try.prog os ⟨#[], #[], []⟩, rfl, by kernel_rfl, by kernel_rfl, by kernel_rfl,
    OpenSpec.preRow_of_cond 8 (x := ([.nil, .nil], [], [])) (by kernel_rfl) (by kernel_rfl) (fun k hk => by cases hk) (by kernel_rfl) (laidMet_of_run' 8 (by kernel_rfl) (by kernel_rfl))⟩
set_option maxRecDepth 100000 in
set_option maxHeartbeats 1600000 in
/-- WHAT THE WALK GIVES, FOR EVERY ARGUMENT. -/
theorem contractS (H : Type) (enc : TypeId × Value → H) (W : World) (base : Nat) (args : Array Value) (ds gs : List (DataW H)) (before : List MemPlace)
    (hval0 : ∀ (j : Nat) t v, Try.f3.params[j]? = some t → args[j]? = some v → Value.okWide Try.prog W .any base t v)
    (hW : DataW.Whole enc Try.prog Try.f3.params.toList Rows.shareSaysSpec.vars false W args.toList ds gs before)
    (hsz0 : (DataW.weightsEach Try.prog (Try.f3.params.toList ++ (OpenSpec.ofChange Rows.shareSaysSpec).bare.plain.varTypes Try.prog) (ds ++ gs)).all (· ≤ reachBytes) = true) :
    Calls Try.prog 3 args W fun e W' => ∃ v, e = .returned v ∧ Rows.shareSaysSpec.post enc Try.prog Try.f3 false true false false W args v W' := by
  have hval := hval0
  have hW' := hW
  obtain ⟨p, q, hA0, hV, rfl, hfz, hnd⟩ := hW
  have hA : DataW.TrodAll enc Try.prog W 0 (fun _ => true) true Try.f3.params.toList args.toList ds p := hA0
  rw [Try.params3] at hA hval hsz0
  obtain ⟨v0, vs0, d0, ds0, p0, q0, hargs, rfl, rfl, h0, r0⟩ := trodAll_cons hA
  obtain ⟨v1, vs1, d1, ds1, p1, q1, rfl, rfl, rfl, h1, r1⟩ := trodAll_cons r0
  obtain ⟨rfl, rfl, rfl⟩ := trodAll_nil r1
  obtain rfl : args = #[v0, v1] := by cases args; simp_all
  obtain ⟨rfl, rfl⟩ := trodVars_none hV
  have k0 := h0
  have k1 := h1
  have lt0 : ∀ x ∈ p0, x.block < W.heap.size := by obtain ⟨m, hm⟩ := k0; exact DataW.trod_lt m _ _ _ hm
  have lt1 : ∀ x ∈ p1, x.block < W.heap.size := by obtain ⟨m, hm⟩ := k1; exact DataW.trod_lt m _ _ _ hm
  have hall : ∀ n ∈ DataW.weightsEach Try.prog [22, 23] [d0, d1], n ≤ reachBytes := by
    intro n hn
    exact of_decide_eq_true (List.all_eq_true.1 hsz0 n hn)
  obtain ⟨a0, n0, c0, l0, rfl, hL0, hs0, hn0⟩ : ∃ a n c l, v0 = .slice a n c ∧ Lsts W a n c l ∧ (∀ s ∈ l, s.ln ≤ 140737488351232) ∧ n ≤ 140737488351232 := by
    obtain ⟨sa, sn, sc, rfl⟩ := okWide_slice Try.underlying22 (hval 0 22 v0 rfl rfl)
    obtain ⟨m, hm⟩ := h0
    exact lists_of (show DataW.trod enc Try.prog W 0 (fun _ => true) true m 22 [.slice sa sn sc] = _ from hm) fun n hn => hall n (DataW.weights_mem_each (j := 0) rfl rfl n hn)
  obtain ⟨a1, n1, c1, l1, rfl, hI1⟩ : ∃ la ln lc likes, v1 = .slice la ln lc ∧ Ints W la ln lc likes := by
    obtain ⟨sa, sn, sc, rfl⟩ := okWide_slice Try.underlying23 (hval 1 23 v1 rfl rfl)
    obtain ⟨m, hm⟩ := h1
    obtain ⟨la, ln, lc, likes, e, hI, _⟩ := ints_of (show DataW.trod enc Try.prog W 0 (fun _ => true) true m 23 [.slice sa sn sc] = _ from hm)
    exact ⟨la, ln, lc, likes, e, hI⟩
  clear hA0 hval0
  refine (shareSays_any a0 n0 c0 l0 a1 n1 c1 l1 W hL0 hI1 hs0 hn0).mono fun e W' ⟨he, bel⟩ => ?_
  subst he
  exact ⟨_, rfl, _, _, _, [], _, [], hW', trodAll_mk1 (shut_bool Try.underlying4 _), (trodAll_cons_mk (Below.trod laidOutTS (by kernel_rfl) (of_decide_eq_true (by kernel_rfl)) k0 bel lt0) (trodAll_cons_mk (Below.trod laidOutTS (by kernel_rfl) (of_decide_eq_true (by kernel_rfl)) k1 bel lt1) trodAll_mk0)), rfl, bel.frame _, fun h => by cases h⟩
set_option maxRecDepth 100000 in
theorem liftedS (os : Os) (started : os.Started) (H : Type) (enc : TypeId × Value → H) (F : Stop.Interp) :
    ReturnsInHanded {} Try.checked os 3 .any ((OpenSpec.ofChange Rows.shareSaysSpec).preRow enc Try.prog Try.f3 Rows.shareSaysRow.domain false Rows.shareSaysRow.laid) (((OpenSpec.ofChange Rows.shareSaysSpec).at F).post enc Try.prog Try.f3 false true false false) := by
  obtain ⟨w0, f1, f2, f3, f4, f5⟩ := fitsS os enc
  refine returnsInHanded_of_row (C := Try.checked) (s := OpenSpec.ofChange Rows.shareSaysSpec) ownTS started (by kernel_rfl) Try.func3
    (witness_row_at (enc := enc) (C := Try.checked) false w0 #[.slice none 0 0, .slice none 0 0] f1 f2 f3 f4 f5) ?_
  intro W base args ds gs before hval hW _ _ hz _ _ _
  exact contractS H enc W base args ds gs before hval hW hz
/-- SHARESAYS: F1, F2, of every input. -/
theorem shareSays_holds : Rows.ShareSaysSaid :=
  OpenClaim.holds_of_cond 3 Try.f3 rfl rfl rfl rfl rfl rfl rfl ⟨rfl, rfl, rfl, rfl, rfl⟩ rfl rfl rfl rfl rfl (by kernel_rfl) Try.func3 (by kernel_rfl)
    (of_decide_eq_true (by kernel_rfl)) (by unfold Func.isWrapper; first | (rw [if_pos (by decide +kernel)]; kernel_rfl) | (rw [if_neg (by decide +kernel)]; exact ⟨rfl, rfl⟩))
    (fun os started H enc _ F => by rw [OpenClaim.pre_eq_preRow]; exact liftedS os started H enc F)
#print axioms shareSays_holds
end Go.Proofs.Ytkeanlpgnnikjaa
