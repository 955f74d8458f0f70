import Derived.Test.YtbcchbhchfdbiaaG
import Derived.RangeFuncNested
import Derived.RangeFuncBound
import Derived.RangeFuncCalls
import Derived.RangeFuncLeaves
import Derived.Shelf.Abstract
import Derived.Shelf.RegionOpen
import Derived.OwnWalkIn
import Derived.TacticsInMore
import Derived.LoopNIn
import Derived.LoopIn
namespace Go.Proofs.Ytbcchbhchfdbiaa
open Go.RowKit Go.Shelf
/-- What lies at the blocks of S lies as it lay. -/
structure Keep (S : Nat → Prop) (W W' : World) : Prop where
  os : W'.os = W.os
  tape : W'.tape = W.tape
  output : W'.output = W.output
  size : W.heap.size ≤ W'.heap.size
  block : ∀ b, S b → W'.heap[b]? = W.heap[b]?
theorem Keep.refl (S : Nat → Prop) (W : World) : Keep S W W := ⟨rfl, rfl, rfl, Nat.le_refl _, fun _ _ => rfl⟩
theorem Keep.trans {S : Nat → Prop} {A B C : World} (h : Keep S A B) (k : Keep S B C) : Keep S A C :=
  ⟨k.os.trans h.os, k.tape.trans h.tape, k.output.trans h.output, Nat.le_trans h.size k.size, fun b hb => (k.block b hb).trans (h.block b hb)⟩
theorem Keep.sub {S T : Nat → Prop} {A B : World} (h : Keep S A B) (hs : ∀ b, T b → S b) : Keep T A B := ⟨h.os, h.tape, h.output, h.size, fun b hb => h.block b (hs b hb)⟩
theorem Keep.putObj {S : Nat → Prop} {W : World} {l : Nat} (o : Obj) (h : ¬ S l) : Keep S W (W.putObj l o) :=
  ⟨rfl, rfl, rfl, by simp, fun b hb => World.putObj_heap_other (fun e => h (e ▸ hb))⟩
theorem Keep.of_below {S : Nat → Prop} {B : Nat} {W W' : World} (h : Below B W W') (hs : ∀ b, S b → b < B) : Keep S W W' := ⟨h.os, h.tape, h.output, h.size, fun b hb => h.block b (hs b hb)⟩
theorem Keep.below {B : Nat} {W W' : World} (h : Keep (fun b => b < B) W W') : Below B W W' := ⟨h.os, h.tape, h.output, h.size, h.block⟩
theorem Keep.cell {S : Nat → Prop} {W W' : World} (h : Keep S W W') {p : Addr} (hp : S p.block) : W'.cell? p = W.cell? p := World.cell?_of_block (h.block _ hp)
/-- How the body of a round is left: off its end. -/
def endK (I : Nat → World → Prop) (B k : Nat) (W : World) : Exit → Act → World → Prop
  | .normal, _, W' => I (k + 1) W' ∧ Keep (fun b => B ≤ b ∧ b < W.heap.size) W W'
  | _, _, _ => False
/-- THE STATEMENT 'for x, y := range seq { body }', seq reading alone, the body writing below B or what is new, and never leaving. -/
theorem range_k {P : Program} {n : Nat} {g : Operand} {ps : Array Tmp} {assign body : Code} {Q : Exit → Act → World → Prop} {a : Act} {w : World} (h1 : 1 ≤ n)
    {gf : Nat} {lb : Array Value} (hg : a.eval g = .func (.func gf) #[] lb) (eg : ∀ args w, (callFunc gf args).run P w = .ok (.enter gf args) w)
    (N : Nat) (vals : Nat → Array Value) (hps : ∀ k, (vals k).size = ps.size)
    (I : Nat → World → Prop) (hI : ∀ k W W', I k W → Keep (fun b => b < w.heap.size) W W' → I k W') (h0 : I 0 w)
    (hiter : ∀ (l : Nat) (J : Nat → World → Prop), (∀ k W, J k W → I k W) → (∀ (m k : Nat) W, k < N → J k W → YieldAt Fence.wide m P l (vals k) W fun e W' => e = .returned (.bool true) ∧ J (k + 1) W') → ∀ W, J 0 W →
      CallsIn Fence.wide (n - 1) P gf (#[.func (.yield l) #[] #[]] ++ lb) W fun e W' => (∃ v, e = .returned v) ∧ J N W')
    (hround : ∀ (l m k : Nat) W, w.heap.size ≤ l → l < w.heap.size + 2 → k < N → I k W → w.heap.size + 2 ≤ W.heap.size →
      ∃ (a₁ : Act) (W₁ : World), Keep (fun b => b < W.heap.size) W W₁ ∧
        (∀ K' : Act → World → Prop, K' a₁ W₁ → assign.wpIn (Fence.wide.inRound l) m P (Exit.then K' (fun _ _ _ => False)) { tmps := (ps.zip (vals k)).foldl (fun t (p, v) => t.setIfInBounds p v) a.tmps, defers := [] } W) ∧
        (∀ W₂, Keep (fun b => b ≠ l) W₁ W₂ → W₂.heap.size = W₁.heap.size → body.wpIn (Fence.wide.inRound l) m P (endK I w.heap.size k W₂) a₁ W₂))
    (hdone : ∀ (D : Nat) (W : World), w.heap.size ≤ D → I N W → W.heap[D]? = some (.deferred (some [])) → Q .normal { a with defers := { target := .collected D, args := #[] } :: a.defers } W) :
    (Code.rangeFunc g ps assign body).wpIn Fence.wide n P Q a w := by
  refine wpIn_rangeFunc ?_
  intro fn hfn
  show ∃ (l : Nat) (mark : List Deferred) (w₁ : World) (d : Deferred) (w₁' : World) (f : FuncId) (args : Array Value) (w₂ : World), (Instr.enterLoop fn a.tmps ps assign body none).run P w = .ok (l, mark) w₁ ∧ _
  obtain ⟨rec, hrec⟩ : ∃ rec : LoopState → Option Code → Loop, rec = fun st pe => { state := st, pending := pe, fn, tmps := a.tmps, params := ps, assign, body, defers := w.heap.size } := ⟨_, rfl⟩
  obtain ⟨W1, hW1⟩ : ∃ W1, (w.alloc (.deferred (some []))).alloc (.loop (rec .ready none)) = W1 := ⟨_, rfl⟩
  have hL1 : W1.heap[w.heap.size + 1]? = some (.loop (rec .ready none)) := by
    rw [← hW1]; have := World.alloc_heap_new (w.alloc (.deferred (some []))) (.loop (rec .ready none)); rwa [World.size_alloc] at this
  have hK1 : W1.heap[w.heap.size]? = some (.deferred (some [])) := by
    rw [← hW1]; exact (Below.heap_alloc _ _ _ (by simp)).trans (World.alloc_heap_new w _)
  have hb1 : Below w.heap.size w W1 := by
    rw [← hW1]; exact ((Below.refl _ w).alloc (Nat.le_refl _) _).alloc (by simp) _
  have hI1 : I 0 W1 := hI 0 w W1 h0 (Keep.of_below hb1 (fun b hb => hb))
  refine ⟨w.heap.size + 1, [{ target := .collected w.heap.size, args := #[] }], W1, { target := .fn (.func gf) lb, args := #[.func (.yield (w.heap.size + 1)) #[] #[]] }, W1, gf,
    #[.func (.yield (w.heap.size + 1)) #[] #[]] ++ lb, W1, ?_, ?_, ?_, ?_, fun _ => h1, ?_⟩
  · rw [← hW1, hrec]; exact run_enterLoop_outer _ _ _ _ _
  · simp only [resolve, hg]
    simp [go_sem]
  · intro f' hf'; trivial
  · simp [invoke, go_sem, eg]
  · obtain ⟨J, hJ⟩ : ∃ J : Nat → World → Prop, J = fun k W => I k W ∧ W.heap[w.heap.size + 1]? = some (.loop (rec .ready none)) ∧ W.heap[w.heap.size]? = some (.deferred (some [])) := ⟨_, rfl⟩
    refine (hiter (w.heap.size + 1) J (fun k W hj => by rw [hJ] at hj; exact hj.1) ?_ W1 (by rw [hJ]; exact ⟨hI1, hL1, hK1⟩)).mono ?_
    · intro m k W hk hj
      rw [hJ] at hj
      obtain ⟨t1, hl, hkd⟩ := hj
      have hlt : w.heap.size + 1 < W.heap.size := (Array.getElem?_eq_some_iff.1 hl).1
      have hy := run_yield (P := P) (args := vals k) hl (by rw [hrec]; simp [hps])
      rw [hrec] at hy
      obtain ⟨a₁, W₁, kp1, has, hbd⟩ := hround (w.heap.size + 1) m k W (by omega) (by omega) hk t1 (by omega)
      have hl1 : W₁.heap[w.heap.size + 1]? = some (.loop (rec .ready none)) := (kp1.block _ hlt).trans hl
      have hk1 : W₁.heap[w.heap.size]? = some (.deferred (some [])) := (kp1.block _ (by omega)).trans hkd
      have hlt1 : w.heap.size + 1 < W₁.heap.size := (Array.getElem?_eq_some_iff.1 hl1).1
      refine ⟨fn, _, assign, body, hy, roundIn_of_wpIn hfn (has _ ⟨_, run_beginRound hl1 (by rw [hrec]), ?_⟩)⟩
      obtain ⟨W2, hW2⟩ : ∃ y, y = W₁.putObj (w.heap.size + 1) (.loop { rec .ready none with state := .busy }) := ⟨_, rfl⟩
      rw [← hW2]
      have hl2 : W2.heap[w.heap.size + 1]? = some (.loop { rec .ready none with state := .busy }) := by rw [hW2]; exact World.putObj_heap_same hlt1
      have hk2 : W2.heap[w.heap.size]? = some (.deferred (some [])) := by rw [hW2]; exact (World.putObj_heap_other (by omega)).trans hk1
      have hs2 : W2.heap.size = W₁.heap.size := by rw [hW2]; simp
      have kp : Keep (fun b => b ≠ w.heap.size + 1) W₁ W2 := by rw [hW2]; exact Keep.putObj _ (fun q => q rfl)
      refine wpIn_mono (hbd W2 kp hs2) ?_
      rintro e a3 W3 hp
      cases e with
      | normal =>
        obtain ⟨q1, q3⟩ := hp
        have hl3 := (q3.block (w.heap.size + 1) ⟨by omega, by omega⟩).trans hl2
        have hk3 := (q3.block w.heap.size ⟨Nat.le_refl _, by omega⟩).trans hk2
        have hend := run_endRound (P := P) none hl3
        have hlt3 : w.heap.size + 1 < W3.heap.size := (Array.getElem?_eq_some_iff.1 hl3).1
        refine ⟨_, _, hend, rfl, ?_⟩
        rw [hJ]
        refine ⟨hI _ _ _ q1 (Keep.putObj _ (by omega)), ?_, (World.putObj_heap_other (by omega)).trans hk3⟩
        rw [World.putObj_heap_same hlt3, hrec]
        rfl
      | ret => exact hp.elim
      | exit id => exact hp.elim
      | goto t => exact hp.elim
      | panic ch => exact hp.elim
      | outgrown => exact hp.elim
    · rintro e W2 ⟨⟨v, rfl⟩, hj⟩
      rw [hJ] at hj
      obtain ⟨t1, hl, hkd⟩ := hj
      refine ⟨none, _, by have := run_endLoop (P := P) hl (by rw [hrec]; simp); rw [hrec] at this; exact this, hdone _ _ (Nat.le_refl _) (hI _ _ _ t1 (Keep.putObj _ (by omega))) ((World.putObj_heap_other (by omega)).trans hkd)⟩
end Go.Proofs.Ytbcchbhchfdbiaa
