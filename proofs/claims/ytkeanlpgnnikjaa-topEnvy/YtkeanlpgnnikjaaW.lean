import Derived.Test.YtkeanlpgnnikjaaA
import Derived.RangeFuncNested
import Derived.RangeFuncBound
import Derived.RangeFuncCalls
import Derived.RangeFuncLeaves
import Derived.Shelf.Abstract
import Derived.Shelf.RegionOpen
import Derived.OwnWalkIn
import Derived.TacticsInMore
import Derived.LoopNIn
import Derived.LoopIn
namespace Go.Proofs.Ytkeanlpgnnikjaa
open Go.RowKit Go.Shelf
/-- What lies at the blocks of S lies as it lay. -/
structure Keep (S : Nat → Prop) (W W' : World) : Prop where
  os : W'.os = W.os
  tape : W'.tape = W.tape
  output : W'.output = W.output
  size : W.heap.size ≤ W'.heap.size
  block : ∀ b, S b → W'.heap[b]? = W.heap[b]?
theorem Keep.refl (S : Nat → Prop) (W : World) : Keep S W W := ⟨rfl, rfl, rfl, Nat.le_refl _, fun _ _ => rfl⟩
theorem Keep.trans {S : Nat → Prop} {A B C : World} (h : Keep S A B) (k : Keep S B C) : Keep S A C :=
  ⟨k.os.trans h.os, k.tape.trans h.tape, k.output.trans h.output, Nat.le_trans h.size k.size, fun b hb => (k.block b hb).trans (h.block b hb)⟩
theorem Keep.sub {S T : Nat → Prop} {A B : World} (h : Keep S A B) (hs : ∀ b, T b → S b) : Keep T A B := ⟨h.os, h.tape, h.output, h.size, fun b hb => h.block b (hs b hb)⟩
theorem Keep.putObj {S : Nat → Prop} {W : World} {l : Nat} (o : Obj) (h : ¬ S l) : Keep S W (W.putObj l o) :=
  ⟨rfl, rfl, rfl, by simp, fun b hb => World.putObj_heap_other (fun e => h (e ▸ hb))⟩
theorem Keep.of_below {S : Nat → Prop} {B : Nat} {W W' : World} (h : Below B W W') (hs : ∀ b, S b → b < B) : Keep S W W' := ⟨h.os, h.tape, h.output, h.size, fun b hb => h.block b (hs b hb)⟩
theorem Keep.below {B : Nat} {W W' : World} (h : Keep (fun b => b < B) W W') : Below B W W' := ⟨h.os, h.tape, h.output, h.size, h.block⟩
theorem Keep.cell {S : Nat → Prop} {W W' : World} (h : Keep S W W') {p : Addr} (hp : S p.block) : W'.cell? p = W.cell? p := World.cell?_of_block (h.block _ hp)
/-- A caller's invariant, and the blocks that it speaks of. -/
structure Inv (J : List (List Int) → (Nat → Prop) → World → Prop) : Prop where
  frame : ∀ {pre S W W'}, J pre S W → Keep S W W' → J pre S W'
  lt : ∀ {pre S W}, J pre S W → ∀ b, S b → b < W.heap.size
/-- What a round is asked: at a new list of one's own. -/
def Rounds (P : Program) (l : Nat) (Wy : List Int → Prop) (J : List (List Int) → (Nat → Prop) → World → Prop) : Prop :=
  ∀ (m : Nat) pre o S W (va : Option Addr) (c : Nat), J pre S W → Ints W va o.length c o → (∀ b, (Value.slice va o.length c).ownBlock = some b → ¬ S b ∧ b < W.heap.size) → Wy o →
    YieldAt Fence.wide m P l #[.slice va o.length c] W fun e W' =>
      e = .returned (.bool true) ∧ ∃ S', J (pre ++ [o]) S' W' ∧ (∀ b, S' b → S b ∨ (Value.slice va o.length c).ownBlock = some b ∨ W.heap.size ≤ b) ∧ Keep (fun b => b < W.heap.size ∧ ¬ S b) W W'
/-- How the body of a round is left: off its end. -/
def endPost (I : List (List Int) → (Nat → Prop) → World → Prop) (xs : List (List Int)) (S : Nat → Prop) (sv : Value) (W : World) : Exit → Act → World → Prop
  | .normal, _, W' => ∃ S', I xs S' W' ∧ (∀ b, S' b → S b ∨ sv.ownBlock = some b ∨ W.heap.size ≤ b) ∧ Keep (fun b => b < W.heap.size ∧ ¬ S b) W W'
  | _, _, _ => False
/-- THE STATEMENT 'for o := range seq { body }', seq writing memory of its own alone, the body never leaving. -/
theorem range_all {P : Program} {n : Nat} (Wy : List Int → Prop) {g : Operand} {ps : Array Tmp} {assign body : Code} {Q : Exit → Act → World → Prop} {a : Act} {w : World} (h1 : 1 ≤ n)
    {gf : Nat} {lb : Array Value} (hg : a.eval g = .func (.func gf) #[] lb) (eg : ∀ args w, (callFunc gf args).run P w = .ok (.enter gf args) w) (hps : ps.size = 1)
    (I : List (List Int) → (Nat → Prop) → World → Prop) (hI : Inv I) (S0 : Nat → Prop) (h0 : I [] S0 w) (all : List (List Int))
    (hiter : ∀ (l : Nat) (J : List (List Int) → (Nat → Prop) → World → Prop), Inv J → Rounds P l Wy J → ∀ (S : Nat → Prop) (W : World), J [] S W → Below w.heap.size w W → (∀ b, S b → S0 b ∨ w.heap.size ≤ b) →
      CallsIn Fence.wide (n - 1) P gf (#[.func (.yield l) #[] #[]] ++ lb) W fun e W' => (∃ v, e = .returned v) ∧ ∃ S', J all S' W')
    (a₁ : List Int → Option Addr → Nat → Act)
    (hassign : ∀ (l m : Nat) (o : List Int) (gb : Option Addr) (c : Nat) (W : World) (K : Act → World → Prop), K (a₁ o gb c) W →
      assign.wpIn (Fence.wide.inRound l) m P (Exit.then K (fun _ _ _ => False)) { tmps := (ps.zip #[.slice gb o.length c]).foldl (fun t (p, v) => t.setIfInBounds p v) a.tmps, defers := [] } W)
    (hbody : ∀ (l m : Nat) pre o S W (gb : Option Addr) (c : Nat), I pre S W → Ints W gb o.length c o → (∀ b, (Value.slice gb o.length c).ownBlock = some b → ¬ S b ∧ b < W.heap.size) → Wy o → body.wpIn (Fence.wide.inRound l) m P (endPost I (pre ++ [o]) S (.slice gb o.length c) W) (a₁ o gb c) W)
    (hdone : ∀ (D : Nat) S (W : World), w.heap.size ≤ D → I all S W → W.heap[D]? = some (.deferred (some [])) → ¬ S D → Q .normal { a with defers := { target := .collected D, args := #[] } :: a.defers } W) :
    (Code.rangeFunc g ps assign body).wpIn Fence.wide n P Q a w := by
  refine wpIn_rangeFunc ?_
  intro fn hfn
  show ∃ (l : Nat) (mark : List Deferred) (w₁ : World) (d : Deferred) (w₁' : World) (f : FuncId) (args : Array Value) (w₂ : World), (Instr.enterLoop fn a.tmps ps assign body none).run P w = .ok (l, mark) w₁ ∧ _
  obtain ⟨rec, hrec⟩ : ∃ rec : LoopState → Option Code → Loop, rec = fun st pe => { state := st, pending := pe, fn, tmps := a.tmps, params := ps, assign, body, defers := w.heap.size } := ⟨_, rfl⟩
  obtain ⟨W1, hW1⟩ : ∃ W1, (w.alloc (.deferred (some []))).alloc (.loop (rec .ready none)) = W1 := ⟨_, rfl⟩
  have hL1 : W1.heap[w.heap.size + 1]? = some (.loop (rec .ready none)) := by
    rw [← hW1]; have := World.alloc_heap_new (w.alloc (.deferred (some []))) (.loop (rec .ready none)); rwa [World.size_alloc] at this
  have hK1 : W1.heap[w.heap.size]? = some (.deferred (some [])) := by
    rw [← hW1]; exact (Below.heap_alloc _ _ _ (by simp)).trans (World.alloc_heap_new w _)
  have hb1 : Below w.heap.size w W1 := by
    rw [← hW1]; exact ((Below.refl _ w).alloc (Nat.le_refl _) _).alloc (by simp) _
  have hI1 : I [] S0 W1 := hI.frame h0 (Keep.of_below hb1 (hI.lt h0))
  have hs0 : ∀ b, S0 b → b < w.heap.size := hI.lt h0
  refine ⟨w.heap.size + 1, [{ target := .collected w.heap.size, args := #[] }], W1, { target := .fn (.func gf) lb, args := #[.func (.yield (w.heap.size + 1)) #[] #[]] }, W1, gf,
    #[.func (.yield (w.heap.size + 1)) #[] #[]] ++ lb, W1, ?_, ?_, ?_, ?_, fun _ => h1, ?_⟩
  · rw [← hW1, hrec]; exact run_enterLoop_outer _ _ _ _ _
  · simp only [resolve, hg]
    simp [go_sem]
  · intro f' hf'; trivial
  · simp [invoke, go_sem, eg]
  · obtain ⟨J, hJ⟩ : ∃ J : List (List Int) → (Nat → Prop) → World → Prop, J = fun pre S W => ∃ T, I pre T W ∧ (∀ b, S b ↔ T b ∨ b = w.heap.size + 1 ∨ b = w.heap.size) ∧ ¬ T (w.heap.size + 1) ∧ ¬ T w.heap.size ∧ W.heap[w.heap.size + 1]? = some (.loop (rec .ready none)) ∧ W.heap[w.heap.size]? = some (.deferred (some [])) := ⟨_, rfl⟩
    have JI : Inv J := by
      subst hJ
      refine ⟨fun {pre S W W'} ⟨T, t1, t2, t3, t4, t5, t6⟩ hk => ⟨T, hI.frame t1 (hk.sub fun b hb => (t2 b).2 (.inl hb)), t2, t3, t4, (hk.block _ ((t2 _).2 (.inr (.inl rfl)))).trans t5, (hk.block _ ((t2 _).2 (.inr (.inr rfl)))).trans t6⟩, fun {pre S W} ⟨T, t1, t2, t3, t4, t5, t6⟩ b hb => ?_⟩
      rcases (t2 b).1 hb with h | h | h
      · exact hI.lt t1 b h
      · rw [h]; exact (Array.getElem?_eq_some_iff.1 t5).1
      · rw [h]; exact (Array.getElem?_eq_some_iff.1 t6).1
    have hst : J [] (fun b => S0 b ∨ b = w.heap.size + 1 ∨ b = w.heap.size) W1 := by
      subst hJ
      exact ⟨S0, hI1, fun b => Iff.rfl, fun h => by have := hs0 _ h; omega, fun h => by have := hs0 _ h; omega, hL1, hK1⟩
    refine (hiter (w.heap.size + 1) J JI ?_ _ W1 hst hb1 (fun b hb => ?_)).mono ?_
    · -- one round
      intro m pre o S W gb c hj hin hgs hord
      rw [hJ] at hj
      obtain ⟨T, t1, t2, t3, t4, hl, hk⟩ := hj
      have hlt : w.heap.size + 1 < W.heap.size := (Array.getElem?_eq_some_iff.1 hl).1
      have hgl1 : (Value.slice gb o.length c).ownBlock ≠ some (w.heap.size + 1) := fun e => (hgs _ e).1 ((t2 _).2 (.inr (.inl rfl)))
      have hgl2 : (Value.slice gb o.length c).ownBlock ≠ some w.heap.size := fun e => (hgs _ e).1 ((t2 _).2 (.inr (.inr rfl)))
      have hy := run_yield (P := P) (args := #[.slice gb o.length c]) hl (by rw [hrec]; simp [hps])
      rw [hrec] at hy
      refine ⟨fn, _, assign, body, hy, roundIn_of_wpIn hfn (hassign _ _ o gb c W _ ⟨_, run_beginRound hl (by rw [hrec]), ?_⟩)⟩
      obtain ⟨W2, hW2⟩ : ∃ y, y = W.putObj (w.heap.size + 1) (.loop { rec .ready none with state := .busy }) := ⟨_, rfl⟩
      rw [← hW2]
      have hl2 : W2.heap[w.heap.size + 1]? = some (.loop { rec .ready none with state := .busy }) := by rw [hW2]; exact World.putObj_heap_same hlt
      have hk2 : W2.heap[w.heap.size]? = some (.deferred (some [])) := by rw [hW2]; exact (World.putObj_heap_other (by omega)).trans hk
      have hs2 : W2.heap.size = W.heap.size := by rw [hW2]; simp
      have kp : ∀ (U : Nat → Prop), ¬ U (w.heap.size + 1) → Keep U W W2 := fun U hU => by rw [hW2]; exact Keep.putObj _ hU
      have hin2 : Ints W2 gb o.length c o := by
        obtain ⟨i1, i2, i3, i4⟩ := hin
        refine ⟨i1, i2, i3, ?_⟩
        rcases i4 with h | ⟨b', off', e, hb', hc'⟩
        · exact .inl h
        · subst e
          exact .inr ⟨b', off', rfl, by omega, fun j hj => by
            rw [(kp (fun b => b = b') (fun e => hgl1 (by rw [e]; rfl))).cell (p := ⟨b', off' + j, none⟩) rfl]; exact hc' j hj⟩
      refine wpIn_mono (hbody _ _ pre o T W2 gb c (hI.frame t1 (kp T t3)) hin2 (fun b hb => ⟨fun h => (hgs b hb).1 ((t2 _).2 (.inl h)), by have := (hgs b hb).2; omega⟩) hord) ?_
      rintro e a3 W3 hp
      cases e with
      | normal =>
        obtain ⟨T', q1, q2, q3⟩ := hp
        have hl3 := (q3.block (w.heap.size + 1) ⟨by omega, t3⟩).trans hl2
        have hk3 := (q3.block w.heap.size ⟨by omega, t4⟩).trans hk2
        have hend := run_endRound (P := P) none hl3
        have n1 : ¬ T' (w.heap.size + 1) := fun h => by
          rcases q2 _ h with h | h | h
          · exact t3 h
          · exact hgl1 h
          · omega
        have n2 : ¬ T' w.heap.size := fun h => by
          rcases q2 _ h with h | h | h
          · exact t4 h
          · exact hgl2 h
          · omega
        have hlt3 : w.heap.size + 1 < W3.heap.size := (Array.getElem?_eq_some_iff.1 hl3).1
        refine ⟨_, _, hend, rfl, fun b => T' b ∨ b = w.heap.size + 1 ∨ b = w.heap.size, ?_, fun b hb => ?_, ?_⟩
        · rw [hJ]
          refine ⟨T', hI.frame q1 (Keep.putObj _ n1), fun b => Iff.rfl, n1, n2, ?_, (World.putObj_heap_other (by omega)).trans hk3⟩
          rw [World.putObj_heap_same hlt3, hrec]
          rfl
        · rcases hb with h | h | h
          · rcases q2 _ h with h | h | h
            · exact .inl ((t2 b).2 (.inl h))
            · exact .inr (.inl h)
            · exact .inr (.inr (by omega))
          · exact .inl ((t2 b).2 (.inr (.inl h)))
          · exact .inl ((t2 b).2 (.inr (.inr h)))
        · have k1 : Keep (fun b => b < W.heap.size ∧ ¬ S b) W W2 := kp _ (fun h => h.2 ((t2 _).2 (.inr (.inl rfl))))
          have k2 : Keep (fun b => b < W.heap.size ∧ ¬ S b) W2 W3 := q3.sub fun b hb => ⟨by omega, fun h => hb.2 ((t2 b).2 (.inl h))⟩
          exact (k1.trans k2).trans (Keep.putObj _ (fun h => h.2 ((t2 _).2 (.inr (.inl rfl)))))
      | ret => exact hp.elim
      | exit id => exact hp.elim
      | goto t => exact hp.elim
      | panic ch => exact hp.elim
      | outgrown => exact hp.elim
    · rcases hb with h | h | h
      · exact .inl h
      · exact .inr (by omega)
      · exact .inr (by omega)
    · -- behind the iterator
      rintro e W2 ⟨⟨v, rfl⟩, S', hj⟩
      rw [hJ] at hj
      obtain ⟨T, t1, t2, t3, t4, hl, hk⟩ := hj
      refine ⟨none, _, by have := run_endLoop (P := P) hl (by rw [hrec]; simp); rw [hrec] at this; exact this, hdone _ T _ (Nat.le_refl _) (hI.frame t1 (Keep.putObj _ t3)) ((World.putObj_heap_other (by omega)).trans hk) t4⟩
end Go.Proofs.Ytkeanlpgnnikjaa
