import Derived.Test.YtbcchbhchfdbiaaWG2
import Derived.RangeFuncNested
import Derived.RangeFuncBound
import Derived.RangeFuncCalls
import Derived.RangeFuncLeaves
import Derived.Shelf.Abstract
import Derived.Shelf.RegionOpen
import Derived.OwnWalkIn
import Derived.TacticsInMore
import Derived.LoopNIn
import Derived.LoopIn
import Derived.OrdersIn
import Derived.StillTail
namespace Go.Proofs.Ytbcchbhchfdbiaa
open Go.RowKit Go.Shelf
/-- What lies at the blocks of S lies as it lay. -/
structure Keep (S : Nat → Prop) (W W' : World) : Prop where
  os : W'.os = W.os
  tape : W'.tape = W.tape
  output : W'.output = W.output
  size : W.heap.size ≤ W'.heap.size
  block : ∀ b, S b → W'.heap[b]? = W.heap[b]?
theorem Keep.refl (S : Nat → Prop) (W : World) : Keep S W W := ⟨rfl, rfl, rfl, Nat.le_refl _, fun _ _ => rfl⟩
theorem Keep.trans {S : Nat → Prop} {A B C : World} (h : Keep S A B) (k : Keep S B C) : Keep S A C :=
  ⟨k.os.trans h.os, k.tape.trans h.tape, k.output.trans h.output, Nat.le_trans h.size k.size, fun b hb => (k.block b hb).trans (h.block b hb)⟩
theorem Keep.sub {S T : Nat → Prop} {A B : World} (h : Keep S A B) (hs : ∀ b, T b → S b) : Keep T A B := ⟨h.os, h.tape, h.output, h.size, fun b hb => h.block b (hs b hb)⟩
theorem Keep.putObj {S : Nat → Prop} {W : World} {l : Nat} (o : Obj) (h : ¬ S l) : Keep S W (W.putObj l o) :=
  ⟨rfl, rfl, rfl, by simp, fun b hb => World.putObj_heap_other (fun e => h (e ▸ hb))⟩
theorem Keep.of_below {S : Nat → Prop} {B : Nat} {W W' : World} (h : Below B W W') (hs : ∀ b, S b → b < B) : Keep S W W' := ⟨h.os, h.tape, h.output, h.size, fun b hb => h.block b (hs b hb)⟩
theorem Keep.below {B : Nat} {W W' : World} (h : Keep (fun b => b < B) W W') : Below B W W' := ⟨h.os, h.tape, h.output, h.size, h.block⟩
theorem Keep.cell {S : Nat → Prop} {W W' : World} (h : Keep S W W') {p : Addr} (hp : S p.block) : W'.cell? p = W.cell? p := World.cell?_of_block (h.block _ hp)
/-- How the body of a round is left: off its end. -/
def endK (I : Nat → World → Prop) (B k : Nat) (W : World) : Exit → Act → World → Prop
  | .normal, _, W' => I (k + 1) W' ∧ Keep (fun b => B ≤ b ∧ b < W.heap.size) W W'
  | _, _, _ => False
/-- THE STATEMENT 'for x, y := range seq { body }', seq reading alone, the body writing below B or what is new, and never leaving. -/
theorem range_k {P : Program} {n : Nat} {g : Operand} {ps : Array Tmp} {assign body : Code} {Q : Exit → Act → World → Prop} {a : Act} {w : World} (h1 : 1 ≤ n)
    {gf : Nat} {lb : Array Value} (hg : a.eval g = .func (.func gf) #[] lb) (eg : ∀ args w, (callFunc gf args).run P w = .ok (.enter gf args) w)
    (N : Nat) (vals : Nat → Array Value) (hps : ∀ k, (vals k).size = ps.size)
    (I : Nat → World → Prop) (hI : ∀ k W W', I k W → Keep (fun b => b < w.heap.size) W W' → I k W') (h0 : I 0 w)
    (hiter : ∀ (l : Nat) (J : Nat → World → Prop), (∀ k W, J k W → I k W) → (∀ (m k : Nat) W, k < N → J k W → YieldAt Fence.wide m P l (vals k) W fun e W' => e = .returned (.bool true) ∧ J (k + 1) W') → ∀ W, J 0 W →
      CallsIn Fence.wide (n - 1) P gf (#[.func (.yield l) #[] #[]] ++ lb) W fun e W' => (∃ v, e = .returned v) ∧ J N W')
    (hround : ∀ (l m k : Nat) W, w.heap.size ≤ l → l < w.heap.size + 2 → k < N → I k W → w.heap.size + 2 ≤ W.heap.size →
      ∃ (a₁ : Act) (W₁ : World), Keep (fun b => b < W.heap.size) W W₁ ∧
        (∀ K' : Act → World → Prop, K' a₁ W₁ → assign.wpIn (Fence.wide.inRound l) m P (Exit.then K' (fun _ _ _ => False)) { tmps := (ps.zip (vals k)).foldl (fun t (p, v) => t.setIfInBounds p v) a.tmps, defers := [] } W) ∧
        (∀ W₂, Keep (fun b => b ≠ l) W₁ W₂ → W₂.heap.size = W₁.heap.size → body.wpIn (Fence.wide.inRound l) m P (endK I w.heap.size k W₂) a₁ W₂))
    (hdone : ∀ (D : Nat) (W : World), w.heap.size ≤ D → I N W → W.heap[D]? = some (.deferred (some [])) → Q .normal { a with defers := { target := .collected D, args := #[] } :: a.defers } W) :
    (Code.rangeFunc g ps assign body).wpIn Fence.wide n P Q a w := by
  refine wpIn_rangeFunc ?_
  intro fn hfn
  show ∃ (l : Nat) (mark : List Deferred) (w₁ : World) (d : Deferred) (w₁' : World) (f : FuncId) (args : Array Value) (w₂ : World), (Instr.enterLoop fn a.tmps ps assign body none).run P w = .ok (l, mark) w₁ ∧ _
  obtain ⟨rec, hrec⟩ : ∃ rec : LoopState → Option Code → Loop, rec = fun st pe => { state := st, pending := pe, fn, tmps := a.tmps, params := ps, assign, body, defers := w.heap.size } := ⟨_, rfl⟩
  obtain ⟨W1, hW1⟩ : ∃ W1, (w.alloc (.deferred (some []))).alloc (.loop (rec .ready none)) = W1 := ⟨_, rfl⟩
  have hL1 : W1.heap[w.heap.size + 1]? = some (.loop (rec .ready none)) := by
    rw [← hW1]; have := World.alloc_heap_new (w.alloc (.deferred (some []))) (.loop (rec .ready none)); rwa [World.size_alloc] at this
  have hK1 : W1.heap[w.heap.size]? = some (.deferred (some [])) := by
    rw [← hW1]; exact (Below.heap_alloc _ _ _ (by simp)).trans (World.alloc_heap_new w _)
  have hb1 : Below w.heap.size w W1 := by
    rw [← hW1]; exact ((Below.refl _ w).alloc (Nat.le_refl _) _).alloc (by simp) _
  have hI1 : I 0 W1 := hI 0 w W1 h0 (Keep.of_below hb1 (fun b hb => hb))
  refine ⟨w.heap.size + 1, [{ target := .collected w.heap.size, args := #[] }], W1, { target := .fn (.func gf) lb, args := #[.func (.yield (w.heap.size + 1)) #[] #[]] }, W1, gf,
    #[.func (.yield (w.heap.size + 1)) #[] #[]] ++ lb, W1, ?_, ?_, ?_, ?_, fun _ => h1, ?_⟩
  · rw [← hW1, hrec]; exact run_enterLoop_outer _ _ _ _ _
  · simp only [resolve, hg]
    simp [go_sem]
  · intro f' hf'; trivial
  · simp [invoke, go_sem, eg]
  · obtain ⟨J, hJ⟩ : ∃ J : Nat → World → Prop, J = fun k W => I k W ∧ W.heap[w.heap.size + 1]? = some (.loop (rec .ready none)) ∧ W.heap[w.heap.size]? = some (.deferred (some [])) := ⟨_, rfl⟩
    refine (hiter (w.heap.size + 1) J (fun k W hj => by rw [hJ] at hj; exact hj.1) ?_ W1 (by rw [hJ]; exact ⟨hI1, hL1, hK1⟩)).mono ?_
    · intro m k W hk hj
      rw [hJ] at hj
      obtain ⟨t1, hl, hkd⟩ := hj
      have hlt : w.heap.size + 1 < W.heap.size := (Array.getElem?_eq_some_iff.1 hl).1
      have hy := run_yield (P := P) (args := vals k) hl (by rw [hrec]; simp [hps])
      rw [hrec] at hy
      obtain ⟨a₁, W₁, kp1, has, hbd⟩ := hround (w.heap.size + 1) m k W (by omega) (by omega) hk t1 (by omega)
      have hl1 : W₁.heap[w.heap.size + 1]? = some (.loop (rec .ready none)) := (kp1.block _ hlt).trans hl
      have hk1 : W₁.heap[w.heap.size]? = some (.deferred (some [])) := (kp1.block _ (by omega)).trans hkd
      have hlt1 : w.heap.size + 1 < W₁.heap.size := (Array.getElem?_eq_some_iff.1 hl1).1
      refine ⟨fn, _, assign, body, hy, roundIn_of_wpIn hfn (has _ ⟨_, run_beginRound hl1 (by rw [hrec]), ?_⟩)⟩
      obtain ⟨W2, hW2⟩ : ∃ y, y = W₁.putObj (w.heap.size + 1) (.loop { rec .ready none with state := .busy }) := ⟨_, rfl⟩
      rw [← hW2]
      have hl2 : W2.heap[w.heap.size + 1]? = some (.loop { rec .ready none with state := .busy }) := by rw [hW2]; exact World.putObj_heap_same hlt1
      have hk2 : W2.heap[w.heap.size]? = some (.deferred (some [])) := by rw [hW2]; exact (World.putObj_heap_other (by omega)).trans hk1
      have hs2 : W2.heap.size = W₁.heap.size := by rw [hW2]; simp
      have kp : Keep (fun b => b ≠ w.heap.size + 1) W₁ W2 := by rw [hW2]; exact Keep.putObj _ (fun q => q rfl)
      refine wpIn_mono (hbd W2 kp hs2) ?_
      rintro e a3 W3 hp
      cases e with
      | normal =>
        obtain ⟨q1, q3⟩ := hp
        have hl3 := (q3.block (w.heap.size + 1) ⟨by omega, by omega⟩).trans hl2
        have hk3 := (q3.block w.heap.size ⟨Nat.le_refl _, by omega⟩).trans hk2
        have hend := run_endRound (P := P) none hl3
        have hlt3 : w.heap.size + 1 < W3.heap.size := (Array.getElem?_eq_some_iff.1 hl3).1
        refine ⟨_, _, hend, rfl, ?_⟩
        rw [hJ]
        refine ⟨hI _ _ _ q1 (Keep.putObj _ (by omega)), ?_, (World.putObj_heap_other (by omega)).trans hk3⟩
        rw [World.putObj_heap_same hlt3, hrec]
        rfl
      | ret => exact hp.elim
      | exit id => exact hp.elim
      | goto t => exact hp.elim
      | panic ch => exact hp.elim
      | outgrown => exact hp.elim
    · rintro e W2 ⟨⟨v, rfl⟩, hj⟩
      rw [hJ] at hj
      obtain ⟨t1, hl, hkd⟩ := hj
      refine ⟨none, _, by have := run_endLoop (P := P) hl (by rw [hrec]; simp); rw [hrec] at this; exact this, hdone _ _ (Nat.le_refl _) (hI _ _ _ t1 (Keep.putObj _ (by omega))) ((World.putObj_heap_other (by omega)).trans hkd)⟩
end Go.Proofs.Ytbcchbhchfdbiaa
namespace Go.Proofs.Ytbcchbhchfdbiaa
open Go.RowKit Go.Shelf
attribute [local go_sem] Oper.semAt_some
/-- What the k-th round is handed: from the end. -/
def bkV (n : Nat) (L : List Nd) (k : Nat) : Array Value := #[.int .i64 ((n - 1 - k : Nat) : Int), nV (ndAt L (n - 1 - k)).pl (ndAt L (n - 1 - k)).k.la (ndAt L (n - 1 - k)).k.ln (ndAt L (n - 1 - k)).k.lc (ndAt L (n - 1 - k)).p.la (ndAt L (n - 1 - k)).p.ln (ndAt L (n - 1 - k)).p.lc]
set_option maxRecDepth 100000 in
set_option maxHeartbeats 2000000 in
theorem back56 (b off : Nat) (n c : Nat) (L : List Nd) (bx l m : Nat) (hn1 : 1 ≤ n) (hn40 : n ≤ 40) (J : Nat → World → Prop)
    (hJ : ∀ k W, J k W → W.cell? ⟨bx, 0, none⟩ = some (.slice (some ⟨b, off, none⟩) n c) ∧ ∀ j, j < n → W.cell? ⟨b, off + j * 3, none⟩ = some (.int .i64 (ndAt L j).pl) ∧ W.cell? ⟨b, off + j * 3 + 1, none⟩ = some (.slice (ndAt L j).k.la (ndAt L j).k.ln (ndAt L j).k.lc) ∧ W.cell? ⟨b, off + j * 3 + 2, none⟩ = some (.slice (ndAt L j).p.la (ndAt L j).p.ln (ndAt L j).p.lc))
    (hY : ∀ (m k : Nat) W, k < n → J k W → YieldAt Fence.wide m Try.prog l (bkV n L k) W fun e W' => e = .returned (.bool true) ∧ J (k + 1) W') (W : World) (h0 : J 0 W) :
    CallsIn Fence.wide m Try.prog 56 (#[.func (.yield l) #[] #[]] ++ #[.pointer (some ⟨bx, 0, none⟩)]) W fun e W' => (∃ v, e = .returned v) ∧ J n W' := by
  refine callsIn_of_wp Try.func56 rfl trivial ?_ rfl
  simp only [Try.ntmps56, List.size_toArray, List.length_cons, List.length_nil, Nat.reduceAdd, Nat.reduceSub, Array.replicate_succ, Array.replicate_zero, List.push_toArray, List.append_toArray, List.nil_append, List.cons_append]
  have HJ := hide hJ
  have HY := hide hY
  have H0 := hide h0
  have x0 := (hJ 0 W h0).1
  have hwn : IntKind.i64.wrap ((n : Int) - 1) = (n : Int) - 1 := wrap_in _ (by omega) (by omega)
  clear hJ hY h0
  gi_wp2
  gi_loopw [3] (fun i wr => ∃ k : Nat, k ≤ n ∧ i = .int .i64 ((n : Int) - 1 - (k : Int)) ∧ Hid (J k wr)) (fun i _ => (intOf i + 1).toNat)
  case atStart => exact ⟨0, Nat.zero_le _, by simp, H0⟩
  case round =>
    clear H0 x0
    obtain ⟨k, hk, rfl, HJr⟩ := hrel
    by_cases hlt : k < n
    · obtain ⟨j, ej⟩ : ∃ j : Nat, n - 1 - k = j := ⟨_, rfl⟩
      have eji : (n : Int) - 1 - (k : Int) = (j : Int) := by omega
      have hjn : j < n := by omega
      obtain ⟨x0, hcells⟩ := unhide HJ k wr (unhide HJr)
      obtain ⟨c0, c1, c2⟩ := hcells j hjn
      have hy := unhide HY (m - 1) k wr hlt (unhide HJr)
      unfold bkV nV at hy
      rw [ej] at hy
      have HE : Hid ((n : Int) - 1 - ((k + 1 : Nat) : Int) = (j : Int) - 1) := by show _ = _; omega
      rw [eji]
      generalize ndAt L j = d at *
      obtain ⟨pl, ⟨ka, kn, kc, kids⟩, ⟨qa, qn, qc, pay⟩⟩ := d
      simp only at c0 c1 c2 hy
      obtain ⟨fn, tmps, assign, body, hy', hR⟩ := hy
      have HR := hide hR
      have hdj : decide (0 ≤ (j : Int)) = true := by simp
      have hwj : IntKind.i64.wrap ((j : Int) - 1) = (j : Int) - 1 := wrap_in _ (by omega) (by omega)
      clear hR hcells eji ej
      gi_wp2
      refine ⟨fun h => by simp [Fence.wide] at h, (unhide HR).mono ?_⟩
      rintro e W' ⟨rfl, h1⟩
      have HJ2 := hide h1
      clear h1 hy'
      gi_wp2
      go_roundw
      case rel => exact ⟨k + 1, by omega, by rw [unhide HE], HJ2⟩
      case measure => simp [intOf]
    · obtain rfl : n = k := by omega
      have e0 : (n : Int) - 1 - (n : Int) = -1 := by omega
      rw [e0]
      gi_wp2
      go_end0
      exact ⟨⟨_, rfl⟩, HJr⟩
end Go.Proofs.Ytbcchbhchfdbiaa
namespace Go.Proofs.Ytbcchbhchfdbiaa
open Go.RowKit Go.Shelf
attribute [local go_sem] Oper.semAt_some
theorem mk25 {n : Nat} (hn : n ≤ 40) (X : World) : (Instr.makeSlice 25 (.int .i64 (n : Int)) (.int .i64 (n : Int))).run Try.prog X = .ok (.slice (some ⟨X.heap.size, 0, none⟩) n n) (X.alloc (.cells (madeCells (Value.int .i64 0).cells n) 3)) := by
  obtain ⟨i3, hi3, hz0, hz1, hz2⟩ := info_parts info3
  have := run_makeSlice (P := Try.prog) (w := X) 25 3 i3 _ Try.underlying25 hi3 hz0 .i64 .i64 (n : Int) (n : Int) (by omega) (Int.le_refl _) (by rw [hz1]; simp; omega) (by rw [hz2]; omega) (by omega)
  rw [hz1, Int.toNat_natCast, Nat.mul_one] at this
  exact this
theorem mk53 {n : Nat} (hn : n ≤ 40) (X : World) : (Instr.makeSlice 53 (.int .i64 (n : Int)) (.int .i64 (n : Int))).run Try.prog X = .ok (.slice (some ⟨X.heap.size, 0, none⟩) n n) (X.alloc (.cells (madeCells (Value.slice none 0 0).cells n) 25)) := by
  obtain ⟨i3, hi3, hz0, hz1, hz2⟩ := info_parts info25
  have := run_makeSlice (P := Try.prog) (w := X) 53 25 i3 _ Try.underlying53 hi3 hz0 .i64 .i64 (n : Int) (n : Int) (by omega) (Int.le_refl _) (by rw [hz1]; simp; omega) (by rw [hz2]; omega) (by omega)
  rw [hz1, Int.toNat_natCast, Nat.mul_one] at this
  exact this
theorem back46 (a : Option Addr) (n c : Nat) (w : World) : Calls Try.prog 46 #[.slice a n c] w fun e w' => e = .returned (.func (.func 56) #[] #[.pointer (some ⟨w.heap.size, 0, none⟩)]) ∧ w' = w.alloc (.cells #[.slice a n c] 22) := by
  go_enter Try.func46, Try.ntmps46
  go_wp2
  go_ret
  exact ⟨rfl, rfl⟩
/-- A row of ints, of slices, that is written. -/
def RowI (W : World) (g n : Nat) (f : Nat → Int) : Prop := g < W.heap.size ∧ ∀ j, j < n → W.cell? ⟨g, j, none⟩ = some (.int .i64 (f j)) ∧ W.frozen? ⟨g, j, none⟩ = false
def RowG (W : World) (g n : Nat) (f : Nat → Sl) : Prop := g < W.heap.size ∧ ∀ j, j < n → W.cell? ⟨g, j, none⟩ = some (.slice (f j).la (f j).ln (f j).lc) ∧ W.frozen? ⟨g, j, none⟩ = false
theorem RowI.keep {W W' : World} {g n : Nat} {f : Nat → Int} (h : RowI W g n f) (he : W'.heap[g]? = W.heap[g]?) (hs : W.heap.size ≤ W'.heap.size) : RowI W' g n f :=
  ⟨Nat.lt_of_lt_of_le h.1 hs, fun j hj => ⟨(World.cell?_of_block (a := ⟨g, j, none⟩) he).trans (h.2 j hj).1, (World.frozen?_of_block (a := ⟨g, j, none⟩) he).trans (h.2 j hj).2⟩⟩
theorem RowG.keep {W W' : World} {g n : Nat} {f : Nat → Sl} (h : RowG W g n f) (he : W'.heap[g]? = W.heap[g]?) (hs : W.heap.size ≤ W'.heap.size) : RowG W' g n f :=
  ⟨Nat.lt_of_lt_of_le h.1 hs, fun j hj => ⟨(World.cell?_of_block (a := ⟨g, j, none⟩) he).trans (h.2 j hj).1, (World.frozen?_of_block (a := ⟨g, j, none⟩) he).trans (h.2 j hj).2⟩⟩
def updS (v : Nat → Sl) (i : Nat) (b : Sl) (j : Nat) : Sl := if j = i then b else v j
theorem RowI.set {W : World} {g n i : Nat} {f : Nat → Int} {x : Int} (h : RowI W g n f) (hi : i < n) : RowI (W.setCell ⟨g, i, none⟩ (.int .i64 x)) g n (upd f i x) := by
  refine ⟨by simpa using h.1, fun j hj => ⟨?_, by rw [World.frozen?_setCell]; exact (h.2 j hj).2⟩⟩
  by_cases e : j = i
  · subst e
    rw [upd_at]
    exact World.cell?_setCell_same' _ _ _ (by rw [(h.2 j hj).1]; rfl)
  · rw [upd_ne e, World.cell?_setCell_other _ _ _ _ (by intro hh; cases hh; exact e rfl)]
    exact (h.2 j hj).1
theorem RowG.set {W : World} {g n i : Nat} {f : Nat → Sl} {x : Sl} (h : RowG W g n f) (hi : i < n) : RowG (W.setCell ⟨g, i, none⟩ (.slice x.la x.ln x.lc)) g n (updS f i x) := by
  refine ⟨by simpa using h.1, fun j hj => ⟨?_, by rw [World.frozen?_setCell]; exact (h.2 j hj).2⟩⟩
  unfold updS
  by_cases e : j = i
  · subst e
    rw [if_pos rfl]
    exact World.cell?_setCell_same' _ _ _ (by rw [(h.2 j hj).1]; rfl)
  · rw [if_neg e, World.cell?_setCell_other _ _ _ _ (by intro hh; cases hh; exact e rfl)]
    exact (h.2 j hj).1
/-- A tree as it may be: the kid of node i at place j is s i j. -/
structure GT (P n : Nat) (L : List Nd) (s : Nat → Nat → Nat) : Prop where
  len : L.length = n
  P1 : 1 ≤ P
  P5 : P ≤ 5
  n1 : 1 ≤ n
  n40 : n ≤ 40
  pos : ∀ i, i < n → ∀ j, i < s i j
  klt : ∀ i, i < n → ∀ j, j < (ndAt L i).k.ln → s i j < n
  kid : ∀ i, i < n → ∀ j, j < (ndAt L i).k.ln → nth (ndAt L i).k.ints j = ((s i j : Nat) : Int)
  k5 : ∀ i, i < n → (ndAt L i).k.ln ≤ 5
  ender : ∀ i, i < n → (ndAt L i).k.ln = 0 → (ndAt L i).pl = 0 ∧ (ndAt L i).p.ln = P
  mover : ∀ i, i < n → 0 < (ndAt L i).k.ln → 0 ≤ (ndAt L i).pl ∧ (ndAt L i).pl < P ∧ (ndAt L i).p.ln = 0
/-- What was settled, from node lo on. -/
def Done (L : List Nd) (n lo : Nat) (CH : Nat → (Nat → List Int) → Nat → Prop) (s : Nat → Nat → Nat) (ch : Nat → Int) (ge : Nat → Sl) : Prop :=
  ∀ j, lo ≤ j → j < n → ((ndAt L j).k.ln = 0 → ch j = 0 ∧ ge j = (ndAt L j).p) ∧ (0 < (ndAt L j).k.ln → ∃ v : Nat, ch j = v ∧ v < (ndAt L j).k.ln ∧ CH j (fun i => (ge (s j i)).ints) v ∧ ge j = ge (s j v))
/-- Where settle stands behind k rounds. -/
structure SI (w : World) (P a n c L) (F : Value) (gc gg : Nat) (CH : Nat → (Nat → List Int) → Nat → Prop) (s : Nat → Nat → Nat) (k : Nat) (W : World) : Prop where
  bel : Below w.heap.size w W
  sz : w.heap.size + 7 ≤ W.heap.size
  h0 : W.heap[w.heap.size]? = some (.cells #[.int .i64 (P : Nat), .slice a n c] 24 (0, 0))
  h1 : W.heap[w.heap.size + 1]? = some (.cells #[F] 57 (0, 0))
  h2 : W.heap[w.heap.size + 2]? = some (.cells #[.slice (some ⟨gc, 0, none⟩) n n] 25 (0, 0))
  h3 : W.heap[w.heap.size + 3]? = some (.cells #[.slice (some ⟨gg, 0, none⟩) n n] 53 (0, 0))
  h6 : W.heap[w.heap.size + 6]? = some (.cells #[.slice a n c] 22 (0, 0))
  rows : ∃ ch ge, RowI W gc n ch ∧ RowG W gg n ge ∧ Done L n (n - k) CH s ch ge ∧ (∀ j, j < n - k → ch j = 0) ∧ ∀ j, n - k ≤ j → j < n → (ge j).ln = P ∧ SlIn w (ge j)
theorem SI.frame {w : World} {P : Nat} {a : Option Addr} {n c : Nat} {L : List Nd} {F : Value} {gc gg : Nat} {CH : Nat → (Nat → List Int) → Nat → Prop} {s : Nat → Nat → Nat} {k : Nat} {W W' : World} (hc : gc < w.heap.size + 7) (hg : gg < w.heap.size + 7)
    (h : SI w P a n c L F gc gg CH s k W) (kp : Keep (fun b => b < w.heap.size + 7) W W') : SI w P a n c L F gc gg CH s k W' := by
  obtain ⟨ch, ge, r1, r2, r3⟩ := h.rows
  refine ⟨⟨kp.os.trans h.bel.os, kp.tape.trans h.bel.tape, kp.output.trans h.bel.output, Nat.le_trans h.bel.size kp.size, fun b hb => (kp.block b (by omega)).trans (h.bel.block b hb)⟩, Nat.le_trans h.sz kp.size, (kp.block _ (by omega)).trans h.h0, (kp.block _ (by omega)).trans h.h1, (kp.block _ (by omega)).trans h.h2, (kp.block _ (by omega)).trans h.h3, (kp.block _ (by omega)).trans h.h6, ch, ge, r1.keep (kp.block _ hc) kp.size, r2.keep (kp.block _ hg) kp.size, r3⟩
end Go.Proofs.Ytbcchbhchfdbiaa
namespace Go.Proofs.Ytbcchbhchfdbiaa
open Go.RowKit Go.Shelf
section
variable {P : Program} {ops : Array Oper} {C : World → Prop} {l n : Nat}
/-- An operation, or a call, that leaves this value and a world of the class. -/
def upC (P : Program) (C : World → Prop) (v : Value) : Result Next → Prop
  | .ok (.value u) w' => C w' ∧ u = v
  | .ok .skip w' => C w' ∧ v = undef
  | .ok (.enter f args) w' => Calls P f args w' fun e w'' => e = .returned v ∧ C w''
  | _ => False
def OneC (P : Program) (ops : Array Oper) (C : World → Prop) (o : Oper) (v : Value) (a : Act) : Prop :=
  (Region.wanted o (yielded ops a.tmps) = true ∧ ∀ w, C w → upC P C v ((execOp a.eval o).run P w)) ∨ (Region.wanted o (yielded ops a.tmps) = false ∧ v = undef)
def walkC (P : Program) (ops : Array Oper) (C : World → Prop) (Q : Act → Prop) : List Oper → Act → Prop
  | [], a => Q a
  | o :: rest, a => ∃ v, OneC P ops C o v a ∧ walkC P ops C Q rest (a.put o.dst v)
theorem walkC_yes {Q : Act → Prop} {o : Oper} {rest : List Oper} {a : Act} (v : Value) (hw : Region.wanted o (yielded ops a.tmps) = true) (h : ∀ w, C w → upC P C v ((execOp a.eval o).run P w)) (hr : walkC P ops C Q rest (a.put o.dst v)) : walkC P ops C Q (o :: rest) a := ⟨v, .inl ⟨hw, h⟩, hr⟩
theorem walkC_no {Q : Act → Prop} {o : Oper} {rest : List Oper} {a : Act} (hw : Region.wanted o (yielded ops a.tmps) = false) (hr : walkC P ops C Q rest (a.put o.dst undef)) : walkC P ops C Q (o :: rest) a := ⟨undef, .inr ⟨hw, rfl⟩, hr⟩
/-- The first m in whatever order. -/
def anyC (P : Program) (ops : Array Oper) (C : World → Prop) (m : Nat) (L : Array Bool → Act → Prop) : Nat → Array Bool → Act → Prop
  | 0, listed, a => L listed a
  | f + 1, listed, a => Region.ready .any ops listed ≠ [] ∧
    ∀ i ∈ Region.ready .any ops listed, i < m ∧ ∃ o v, ops[i]? = some o ∧ OneC P ops C o v a ∧ anyC P ops C m L f (listed.setIfInBounds i true) (a.put o.dst v)
theorem OneC.same {o : Oper} {v : Value} {a a' : Act} (h : OneC P ops C o v a) (he : execOp a'.eval o = execOp a.eval o) (hw : Region.wanted o (yielded ops a'.tmps) = Region.wanted o (yielded ops a.tmps)) : OneC P ops C o v a' := by
  unfold OneC at *
  rw [he, hw]
  exact h
theorem anyC_first {m i : Nat} {oi : Oper} {v : Value} {L : Array Bool → Act → Prop} (hi : ops[i]? = some oi) (hsel : ∀ (j : Nat) (o : Oper) cs b, ops[j]? = some o → o.op ≠ .select cs b)
    (hs : Region.sinkB .any ops m = true) (hc : Region.chainB .any ops m = true) (hn : m < ops.size) (him : i < m) (hdone : ∀ listed a, L listed a → ∀ j ∈ Region.ready .any ops listed, m ≤ j) :
    ∀ (f : Nat) (listed : Array Bool) (a : Act), HeadInv .any ops m listed →
      (∀ j oj, ops[j]? = some oj → j ≠ i → listed.getD j true = false → (∀ e ∈ oj.after, Region.binds .any e = true → e.on ≠ i) → oi.apart ops oj = true) →
      i ∈ Region.ready .any ops listed → OneC P ops C oi v a → anyC P ops C m L f (listed.setIfInBounds i true) (a.put oi.dst v) → anyC P ops C m L (f + 1) listed a := by
  intro f
  induction f with
  | zero =>
    intro listed a inv _ hr hy H
    have hi0 := (mem_ready.1 hr).1
    refine ⟨fun h => (by rw [h] at hr; cases hr), fun j hj => ?_⟩
    have hjm : j < m := Nat.lt_of_not_le fun h => tail_waits hs hc hn inv _ i rfl him hi0 j h hj
    by_cases e : j = i
    · subst e; exact ⟨hjm, oi, v, hi, hy, H⟩
    · have := hdone _ _ H j (ready_mono hj e)
      omega
  | succ f ih =>
    intro listed a inv hfree hr hy H
    have hi0 := (mem_ready.1 hr).1
    refine ⟨fun h => (by rw [h] at hr; cases hr), fun j hj => ?_⟩
    have hjm : j < m := Nat.lt_of_not_le fun h => tail_waits hs hc hn inv _ i rfl him hi0 j h hj
    by_cases e : j = i
    · subst e; exact ⟨hjm, oi, v, hi, hy, H⟩
    · obtain ⟨_, oj, u, hoj, cj, hrest⟩ := H.2 j (ready_mono hj e)
      obtain ⟨hun, oj', hoj', hall⟩ := mem_ready.1 hj
      rw [hoj] at hoj'
      cases hoj'
      have hnot : ∀ e ∈ oj.after, Region.binds .any e = true → e.on ≠ i := fun e he hb heq => by
        have h1 := hall e he hb
        rw [heq] at h1
        rcases Nat.lt_or_ge i listed.size with h' | h'
        · simp [h'] at hi0 h1
          rw [hi0] at h1
          cases h1
        · simp [Array.getElem?_eq_none h'] at h1
      obtain ⟨h1, h2, h3⟩ := Oper.apart_spec (hfree j oj hoj e hun hnot)
      have si := fun cs b => hsel i oi cs b hi
      have sj := fun cs b => hsel j oj cs b hoj
      refine ⟨hjm, oj, u, hoj, cj.same (execOp_put oj sj a oi.dst v h1).symm (wanted_put oj a oi.dst v h1).symm, ih _ _ (inv.set hj hjm) ?_ (ready_mono hr (Ne.symm e)) (hy.same (execOp_put oi si a oj.dst u h3) (wanted_put oi a oj.dst u h3)) ?_⟩
      · intro k ok hk hki hu hno
        refine hfree k ok hk hki ?_ hno
        by_cases ejk : j = k
        · subst ejk; exact hun
        · rw [getD_set_ne true ejk] at hu; exact hu
      · rw [← Act.put_comm a v u h2, Array.setIfInBounds_comm _ _ e]
        exact hrest
theorem anyC_lex {m g : Nat} {Lq : Act → Prop} (hsel : Region.noSelect ops = true) (hs : Region.sinkB .any ops m = true) (hc : Region.chainB .any ops m = true) (hn : m < ops.size) :
    ∀ (os : List Oper) (k : Nat) (listed : Array Bool) (a : Act), (∀ j, j < os.length → os[j]? = ops[k + j]?) → k + os.length = m → HeadInv .any ops m listed →
    Region.lexHead .any ops g os.length k listed = true → walkC P ops C Lq os a →
    anyC P ops C m (fun listed' a' => Region.seqB .any ops g m listed' = true ∧ Lq a') os.length listed a
  | [], k, listed, a, _, hk, _, hB, h => by
    have : k = m := by simpa using hk
    subst this
    exact ⟨by simpa [Region.lexHead] using hB, h⟩
  | o :: os, k, listed, a, hl, hk, inv, hB, h => by
    have h0 : ops[k]? = some o := by simpa using (hl 0 (by simp)).symm
    simp only [List.length_cons, Region.lexHead, Bool.and_eq_true] at hB
    obtain ⟨⟨hr, hf⟩, hB'⟩ := hB
    have hkn : k < m := by simp only [List.length_cons] at hk; omega
    have hr' : k ∈ Region.ready .any ops listed := by simpa using hr
    obtain ⟨v, hy, hK⟩ := h
    exact anyC_first h0 (Region.noSelect_spec hsel) hs hc hn hkn (fun listed' a' hL => seqB_ready hL.1) os.length listed a inv (Region.free_spec h0 hf) hr' hy
      (anyC_lex hsel hs hc hn os (k + 1) _ _ (fun j hj => by have := hl (j + 1) (by simp; omega); simpa [Nat.add_assoc, Nat.add_comm 1 j] using this) (by simp only [List.length_cons] at hk; omega) (inv.set hr' hkn) hB' hK)
theorem head_in {lp N : Nat} {m g : Nat} {L : Array Bool → Act → Prop} {Q' : Exit → Act → World → Prop} (hd : ∀ (j : Nat) (o : Oper) c, ops[j]? = some o → o.op ≠ .defer c) (hL : ∀ listed a w, C w → L listed a → wpAnyIn (Fence.wide.inRound lp) N P .any ops Q' g listed a w) :
    ∀ (f : Nat) (listed : Array Bool) (a : Act) (w : World), C w → anyC P ops C m L f listed a → wpAnyIn (Fence.wide.inRound lp) N P .any ops Q' (f + g) listed a w
  | 0, listed, a, w, hw, h => by rw [Nat.zero_add]; exact hL _ _ _ hw h
  | f + 1, listed, a, w, hw, h => by
    rw [show f + 1 + g = (f + g) + 1 by omega]
    refine ⟨fun h0 => absurd h0 h.1, fun i hi => ?_⟩
    obtain ⟨_, o, v, ho, hc, hrest⟩ := h.2 i hi
    unfold wpOpIn
    rw [ho]
    dsimp only
    rcases hc with ⟨hx, hc⟩ | ⟨hx, rfl⟩
    · rw [if_pos hx]
      refine ⟨fun _ _ => trivial, ?_⟩
      rw [Oper.semAt_eq _ _ _ (fun c => hd i o c ho)]
      have h3 := hc w hw
      revert h3
      generalize (execOp a.eval o).run P w = r
      intro h3
      rcases r with ⟨x, w'⟩ | ⟨x, w'⟩
      · cases x <;> first | (exact h3.elim) | skip
        · obtain ⟨h4, rfl⟩ := h3
          exact head_in hd hL f _ _ _ h4 hrest
        · obtain ⟨h4, rfl⟩ := h3
          exact head_in hd hL f _ _ _ h4 hrest
        · refine ⟨fun h => by simp [Fence.wide] at h, ?_⟩
          refine (CallsIn.inRound lp (callsIn_wide.2 h3)).mono ?_
          rintro e w2 ⟨rfl, hw2⟩
          exact head_in hd hL f _ _ _ hw2 hrest
      · exact h3.elim
    · rw [if_neg (by rw [hx]; exact Bool.false_ne_true)]
      exact ⟨fun _ _ => trivial, head_in hd hL f _ _ _ hw hrest⟩
theorem anyIn_of_seq {lp N : Nat} {md : Region.Mode} {Q' : Exit → Act → World → Prop} : ∀ (l : List Oper) (k : Nat) (listed : Array Bool) (a : Act) (w : World), (∀ j, l[j]? = ops[k + j]?) →
    Region.seqB md ops l.length k listed = true → wpListIn (Fence.wide.inRound lp) N P ops Q' l a w → wpAnyIn (Fence.wide.inRound lp) N P md ops Q' l.length listed a w
  | [], _, _, _, _, _, hB, h => ⟨by simpa [Region.seqB] using hB, h⟩
  | o :: l, k, listed, a, w, hl, hB, h => by
    have h0 : ops[k]? = some o := by simpa using (hl 0).symm
    simp only [List.length_cons, Region.seqB, Bool.and_eq_true, decide_eq_true_eq] at hB
    refine ⟨fun h1 => (by rw [hB.1] at h1; cases h1), fun i hi => ?_⟩
    rw [hB.1] at hi
    have hik : i = k := by simpa using hi
    subst hik
    have hw : wpOpIn (Fence.wide.inRound lp) N P ops Q' i (wpListIn (Fence.wide.inRound lp) N P ops Q' l) a w := by unfold wpOpIn; simp only [h0]; exact h
    exact wpOpIn_mono (fun a' w' h' => anyIn_of_seq l (i + 1) _ a' w' (fun j => by have := hl (j + 1); simpa [Nat.add_assoc, Nat.add_comm 1 j] using this) hB.2 h') hw
theorem inv_first (os : List Oper) (m : Nat) : HeadInv .any os.toArray m (Array.replicate os.toArray.size false) :=
  ⟨by simp, fun j oj _ hl => (by rw [getD_replicate_false] at hl; cases hl), fun t _ ht => getD_in (by simpa using ht) (getD_replicate_false _ _)⟩
/-- The same in a round: a region that draws its order reads and calls, within a class of worlds; then it stores, one thing behind the other. -/
theorem wpIn_calm_tail {lp N : Nat} {id : Nat} {Q : Exit → Act → World → Prop} {a : Act} {w : World} {os : List Oper} (C : World → Prop) (m : Nat) (hm : P.follows .mixedOrders = true) (hB : Region.lexTailB .any os.toArray m = true) (hd : ∀ o ∈ os, ∀ c, o.op ≠ .defer c) (hC : C w.drew)
    (h : walkC P os.toArray C (fun a' => ∀ w', C w' → wpListIn (Fence.wide.inRound lp) N P os.toArray Q (os.drop m) a' w') (os.take m) a) : (Code.region id os.toArray true).wpIn (Fence.wide.inRound lp) N P Q a w := by
  simp only [Region.lexTailB, Bool.and_eq_true, decide_eq_true_eq] at hB
  obtain ⟨⟨⟨⟨hsel, hn⟩, hs⟩, hc⟩, hlex⟩ := hB
  have hn' : m < os.length := by simpa using hn
  have htl : (os.take m).length = m := by simp; omega
  have hdl : (os.drop m).length = os.toArray.size - m := by simp
  have H := anyC_lex (g := os.toArray.size - m) hsel hs hc hn (os.take m) 0 _ a (fun j hj => by
    have hj' : j < m := by rw [htl] at hj; exact hj
    simp [hj']) (by simpa using htl) (inv_first os m) (by rw [htl]; exact hlex) h
  refine wpIn_region_any hm ?_
  have := head_in (lp := lp) (N := N) (Q' := Q) (g := os.toArray.size - m) (fun j o c hj => hd o (by
    have : os[j]? = some o := by simpa using hj
    exact List.mem_of_getElem? this) c) (fun listed a' w' hw' hL => by
    have := anyIn_of_seq (lp := lp) (N := N) (md := .any) (Q' := Q) (os.drop m) m listed a' w' (fun j => by simp [List.getElem?_drop]) (by rw [hdl]; exact hL.1) (hL.2 w' hw')
    rwa [hdl] at this) _ _ _ _ hC H
  rw [htl, show m + (os.toArray.size - m) = os.toArray.size by omega] at this
  exact this
end
end Go.Proofs.Ytbcchbhchfdbiaa
namespace Go.Proofs.Ytbcchbhchfdbiaa
open Go.RowKit Go.Shelf
/-- What each operation waits for. -/
def depsL (os : List Oper) : List (List Nat) := os.map (fun o => (o.after.toList.filter (Region.binds .any)).map (·.on))
def updB (l : Nat → Bool) (i : Nat) : Nat → Bool := fun j => if j = i then true else l j
/-- One step of a region that draws its order, whatever has come up. -/
def StepI (P : Program) (Q : Exit → Act → World → Prop) (I : (Nat → Bool) → Act → World → Prop) (D : List (List Nat)) (i : Nat) (o : Oper) : Prop :=
  ∀ l a w, I l a w → l i = false → (∀ k, l k = true → ∀ j ∈ D.getD k [], l j = true) → (∀ j ∈ D.getD i [], l j = true) → o.wp P a w (fun a' w' => I (updB l i) a' w') Q
def StepsI (P : Program) (Q : Exit → Act → World → Prop) (I : (Nat → Bool) → Act → World → Prop) (D : List (List Nat)) : Nat → List Oper → Prop
  | _, [] => True
  | i, o :: rest => StepI P Q I D i o ∧ StepsI P Q I D (i + 1) rest
theorem StepsI.get {P : Program} {Q : Exit → Act → World → Prop} {I : (Nat → Bool) → Act → World → Prop} {D : List (List Nat)} : ∀ {os : List Oper} {k i : Nat} {o : Oper}, StepsI P Q I D k os → os[i]? = some o → StepI P Q I D (k + i) o
  | [], _, _, _, _, h => by simp at h
  | o :: rest, k, 0, o', hs, h => by simp at h; subst h; exact hs.1
  | o :: rest, k, i + 1, o', hs, h => by
    have := StepsI.get hs.2 (i := i) (o := o') (by simpa using h)
    rw [show k + (i + 1) = k + 1 + i by omega]
    exact this
theorem deps_get {os : List Oper} {i : Nat} {o : Oper} (h : os[i]? = some o) : (depsL os).getD i [] = (o.after.toList.filter (Region.binds .any)).map (·.on) := by
  unfold depsL
  simp [h]
theorem mem_deps {os : List Oper} {i : Nat} {o : Oper} (h : os[i]? = some o) {e : Edge} (he : e ∈ o.after) (hb : Region.binds .any e = true) : e.on ∈ (depsL os).getD i [] := by
  rw [deps_get h]
  exact List.mem_map.2 ⟨e, List.mem_filter.2 ⟨by simpa using he, hb⟩, rfl⟩
def cntF (n : Nat) (l : Nat → Bool) : Nat := ((List.range n).filter (fun i => !l i)).length
theorem cnt_upd {l : Nat → Bool} {i : Nat} (hi : l i = false) : ∀ n, cntF n l = cntF n (updB l i) + if i < n then 1 else 0
  | 0 => by simp [cntF]
  | n + 1 => by
    have ih := cnt_upd (l := l) hi n
    unfold cntF at *
    rw [List.range_succ, List.filter_append, List.filter_append, List.length_append, List.length_append, ih]
    by_cases e : n = i
    · subst e
      simp [updB, hi]
    · have : updB l i n = l n := by simp [updB, e]
      rw [show ([n].filter (fun i_1 => !updB l i i_1)) = ([n].filter (fun i => !l i)) by simp [List.filter_cons, this]]
      by_cases h1 : i < n
      · rw [if_pos h1, if_pos (by omega)]; omega
      · rw [if_neg h1, if_neg (by omega)]; omega
theorem cnt_zero {l : Nat → Bool} {n : Nat} (h : cntF n l = 0) (i : Nat) (hi : i < n) : l i = true := by
  unfold cntF at h
  have := List.eq_nil_of_length_eq_zero h
  have h2 := List.filter_eq_nil_iff.1 this i (List.mem_range.2 hi)
  simpa using h2
/-- A region that draws its order, by what holds of what has come up. -/
theorem wp_region_inv {P : Program} {id : Nat} {Q : Exit → Act → World → Prop} {a : Act} {w : World} {os : List Oper} (D : List (List Nat)) (I : (Nat → Bool) → Act → World → Prop) (hm : P.follows .mixedOrders = true) (hD : depsL os = D) (hg : os.all (fun o => o.guard.isNone) = true)
    (hB : ((List.range os.length).all (fun i => (D.getD i []).all (fun j => decide (j < i)))) = true) (h0 : I (fun _ => false) a w.drew) (hs : StepsI P Q I D 0 os) (hd : ∀ l a w, I l a w → (∀ i, i < os.length → l i = true) → Q .normal a w) : (Code.region id os.toArray true).wp P Q a w := by
  subst hD
  refine wp_region_any hm ?_
  have hB' : ∀ i, i < os.length → ∀ j ∈ (depsL os).getD i [], j < i := fun i hi j hj => by
    have := List.all_eq_true.1 (List.all_eq_true.1 hB i (List.mem_range.2 hi)) j hj
    simpa using this
  have key : ∀ (fuel : Nat) (listed : Array Bool) (l : Nat → Bool) (a : Act) (w : World), listed.size = os.length → (∀ i, i < os.length → listed.getD i true = l i ∧ listed.getD i false = l i) → (∀ i, os.length ≤ i → l i = false) → cntF os.length l = fuel → (∀ k, l k = true → ∀ j ∈ (depsL os).getD k [], l j = true) → I l a w → wpAny P .any os.toArray Q fuel listed a w := by
    intro fuel
    induction fuel with
    | zero =>
      intro listed l a w hsz hl hout hc hdn hI
      have hall := cnt_zero hc
      refine ⟨?_, hd l a w hI hall⟩
      refine List.eq_nil_iff_forall_not_mem.2 (fun i hi => ?_)
      obtain ⟨h1, o, ho, -⟩ := mem_ready.1 hi
      have hlt : i < os.length := by
        have := (Array.getElem?_eq_some_iff.1 ho).1
        simpa using this
      rw [(hl i hlt).1, hall i hlt] at h1
      cases h1
    | succ fuel ih =>
      intro listed l a w hsz hl hout hc hdn hI
      refine ⟨fun hr => ?_, fun i hi => ?_⟩
      · exfalso
        have hex : ∀ i, i < os.length → l i = true := by
          intro i
          induction i using Nat.strongRecOn with
          | ind i ihi =>
            intro hi
            cases hli : l i with
            | true => rfl
            | false =>
              exfalso
              have hm : i ∈ Region.ready .any os.toArray listed := by
                refine mem_ready.2 ⟨by rw [(hl i hi).1]; exact hli, os[i], by simp [hi], fun e he hb => ?_⟩
                have hlt := hB' i hi e.on (mem_deps (by simp [hi]) he hb)
                rw [(hl e.on (by omega)).2]
                exact ihi e.on hlt (by omega)
              rw [hr] at hm
              cases hm
        have : cntF os.length l = 0 := by
          unfold cntF
          rw [List.filter_eq_nil_iff.2 (fun i hi => by simp [hex i (List.mem_range.1 hi)])]
          rfl
        omega
      · obtain ⟨h1, o, ho, hall⟩ := mem_ready.1 hi
        have hoL : os[i]? = some o := by simpa using ho
        have hlt : i < os.length := (List.getElem?_eq_some_iff.1 hoL).1
        have hli : l i = false := by rw [← (hl i hlt).1]; exact h1
        have hdi : ∀ j ∈ (depsL os).getD i [], l j = true := fun j hj => by
          have hlj := hB' i hlt j hj
          rw [deps_get hoL] at hj
          obtain ⟨e, he, rfl⟩ := List.mem_map.1 hj
          obtain ⟨he1, he2⟩ := List.mem_filter.1 he
          have := hall e (by simpa using he1) he2
          rw [← (hl e.on (by omega)).2]
          exact this
        have hst := (StepsI.get hs hoL) l a w hI (by simpa using hli) hdn (by simpa using hdi)
        rw [Nat.zero_add] at hst
        unfold wpOp
        rw [ho]
        dsimp only
        have hgd : o.guard = none := by
          have := List.all_eq_true.1 hg o (List.mem_of_getElem? hoL)
          simpa using this
        rw [if_pos (by simp [Region.wanted, hgd])]
        refine .inl (Oper.wp_mono (fun a' w' hI' => ?_) hst)
        refine ih _ (updB l i) a' w' (by simpa using hsz) (fun k hk => ?_) (fun k hk => ?_) ?_ (fun k hk j hj => ?_) hI'
        · by_cases e : k = i
          · subst e
            simp [updB, hsz, hlt]
          · rw [getD_set_ne true (Ne.symm e), getD_set_ne false (Ne.symm e)]
            simp only [updB, if_neg e]
            exact hl k hk
        · have : k ≠ i := by omega
          simp [updB, this, hout k hk]
        · have := cnt_upd hli os.length
          rw [if_pos hlt] at this
          omega
        · by_cases e : k = i
          · subst e
            have := hdi j hj
            unfold updB
            split
            · rfl
            · exact this
          · have hk' : l k = true := by simpa [updB, e] using hk
            have := hdn k hk' j hj
            unfold updB
            split
            · rfl
            · exact this
  refine key os.toArray.size _ (fun _ => false) a w.drew (by simp) (fun i hi => ?_) (fun _ _ => rfl) ?_ (fun k hk => (by cases hk)) h0
  · simp [hi]
  · unfold cntF
    simp
    rw [List.filter_eq_self.2 (fun _ _ => rfl)]
    simp
/-- An act, by what has changed. -/
theorem act_chain (S : List Nat) (a a0 : Act) (hd : a.defers = a0.defers) (hs : a.tmps.size = a0.tmps.size) (ho : ∀ s, s ∉ S → a.tmps[s]? = a0.tmps[s]?) : a = S.foldl (fun b s => b.put (some s) (a.tmps.getD s undef)) a0 := by
  have key : ∀ (S : List Nat) (b : Act), b.defers = a0.defers → b.tmps.size = a0.tmps.size → (∀ s, s ∉ S → a.tmps[s]? = b.tmps[s]?) → a = S.foldl (fun b s => b.put (some s) (a.tmps.getD s undef)) b := by
    intro S
    induction S with
    | nil =>
      intro b h1 h2 h3
      have ht : a.tmps = b.tmps := Array.ext_getElem? (fun i => h3 i (by simp))
      cases a
      cases b
      simp only at ht h1 hd
      subst ht
      rw [List.foldl_nil]
      congr 1
      exact hd.trans h1.symm
    | cons s S ih =>
      intro b h1 h2 h3
      rw [List.foldl_cons]
      refine ih _ (by simpa [Act.put] using h1) (by simpa [Act.put] using h2) (fun t ht => ?_)
      by_cases e : t = s
      · subst e
        simp only [Act.put]
        rcases Nat.lt_or_ge t b.tmps.size with h | h
        · rw [Array.getElem?_setIfInBounds_self_of_lt h]
          have h' : t < a.tmps.size := by omega
          simp [h']
        · rw [Array.getElem?_eq_none (by omega), Array.getElem?_eq_none (by simp; omega)]
      · simp only [Act.put]
        rw [Array.getElem?_setIfInBounds_ne (Ne.symm e)]
        exact h3 t (by simp [e, ht])
  exact key S a0 rfl rfl ho
end Go.Proofs.Ytbcchbhchfdbiaa
namespace Go.Proofs.Ytbcchbhchfdbiaa
open Go.RowKit Go.Shelf
def updV (vals : Nat → Value) (i : Nat) (v : Value) : Nat → Value := fun j => if j = i then v else vals j
/-- What has come up into a slot. -/
def lookV (vals : Nat → Value) (l : Nat → Bool) : Nat → List (Option Tmp) → Tmp → Option Value
  | _, [], _ => none
  | k, x :: rest, s => if x = some s ∧ l k = true then some (vals k) else lookV vals l (k + 1) rest s
def evV (ds : List (Option Tmp)) (l : Nat → Bool) (vals : Nat → Value) (t0 : Array Value) : Operand → Value
  | .tmp s => (lookV vals l 0 ds s).getD (t0.getD s undef)
  | .const v => v
  | .global g => .pointer (some ⟨g, 0, none⟩)
  | .func f => .func (.func f) #[] #[]
def upV (P : Program) (K : Value → World → Prop) : Result Next → Prop
  | .ok (.value v) w' => K v w'
  | .ok .skip w' => K undef w'
  | .ok (.enter f args) w' => Calls P f args w' fun e w'' => ∃ v, e = .returned v ∧ K v w''
  | _ => False
def StepV (P : Program) (J : (Nat → Bool) → (Nat → Value) → World → Prop) (D : List (List Nat)) (ds : List (Option Tmp)) (t0 : Array Value) (i : Nat) (o : Oper) : Prop :=
  ∀ l vals w, J l vals w → l i = false → (∀ k, l k = true → ∀ j ∈ D.getD k [], l j = true) → (∀ j ∈ D.getD i [], l j = true) → upV P (fun v w' => J (updB l i) (updV vals i v) w') ((execOp (evV ds l vals t0) o).run P w)
def StepsV (P : Program) (J : (Nat → Bool) → (Nat → Value) → World → Prop) (D : List (List Nat)) (ds : List (Option Tmp)) (t0 : Array Value) : Nat → List Oper → Prop
  | _, [] => True
  | i, o :: rest => StepV P J D ds t0 i o ∧ StepsV P J D ds t0 (i + 1) rest
def dstB : List (Option Tmp) → Bool
  | [] => true
  | none :: r => dstB r
  | some s :: r => !r.contains (some s) && dstB r
theorem dst_one : ∀ {ds : List (Option Tmp)}, dstB ds = true → ∀ {i j : Nat} {s : Tmp}, ds[i]? = some (some s) → ds[j]? = some (some s) → i = j
  | [], _, i, j, s, h, _ => by simp at h
  | none :: r, hd, i, j, s, hi, hj => by
    cases i with
    | zero => simp at hi
    | succ i =>
      cases j with
      | zero => simp at hj
      | succ j => rw [dst_one (ds := r) hd (i := i) (j := j) (s := s) (by simpa using hi) (by simpa using hj)]
  | some t :: r, hd, i, j, s, hi, hj => by
    simp only [dstB, Bool.and_eq_true, Bool.not_eq_true', List.contains_eq_mem, decide_eq_false_iff_not] at hd
    cases i with
    | zero =>
      simp at hi
      subst hi
      cases j with
      | zero => rfl
      | succ j => exact absurd (List.mem_of_getElem? (by simpa using hj)) hd.1
    | succ i =>
      cases j with
      | zero => simp at hj; subst hj; exact absurd (List.mem_of_getElem? (by simpa using hi)) hd.1
      | succ j => rw [dst_one (ds := r) hd.2 (i := i) (j := j) (s := s) (by simpa using hi) (by simpa using hj)]
theorem look_same {vals : Nat → Value} {l : Nat → Bool} {t : Nat} {v : Value} {s : Tmp} : ∀ (ds : List (Option Tmp)) (k : Nat), (∀ j, k + j = t → ds[j]? ≠ some (some s)) → lookV (updV vals t v) (updB l t) k ds s = lookV vals l k ds s
  | [], _, _ => rfl
  | x :: rest, k, h => by
    simp only [lookV]
    rw [look_same rest (k + 1) (fun j hj => by have := h (j + 1) (by omega); simpa using this)]
    by_cases e : x = some s
    · have hk : k ≠ t := fun q => h 0 (by omega) (by simp [e])
      simp [updB, updV, hk]
    · simp [e]
theorem look_new {vals : Nat → Value} {l : Nat → Bool} {t : Nat} {v : Value} {s : Tmp} : ∀ (ds : List (Option Tmp)) (k : Nat), dstB ds = true → (∃ j, k + j = t ∧ ds[j]? = some (some s)) → lookV (updV vals t v) (updB l t) k ds s = some v
  | [], _, _, h => by obtain ⟨j, -, h⟩ := h; simp at h
  | x :: rest, k, hd, h => by
    obtain ⟨j, hj, hx⟩ := h
    simp only [lookV]
    cases j with
    | zero =>
      simp at hx
      have : k = t := by omega
      simp [hx, this, updB, updV]
    | succ j =>
      have hne : x ≠ some s := fun e => by
        have := dst_one hd (i := 0) (j := j + 1) (s := s) (by simp [e]) hx
        omega
      rw [if_neg (fun q => hne q.1)]
      refine look_new rest (k + 1) ?_ ⟨j, by omega, by simpa using hx⟩
      cases x with
      | none => exact hd
      | some y => simp only [dstB, Bool.and_eq_true] at hd; exact hd.2
theorem look_all {vals : Nat → Value} {l : Nat → Bool} {s : Tmp} : ∀ (ds : List (Option Tmp)) (k : Nat), (∀ i, k ≤ i → i < k + ds.length → l i = true) → lookV vals l k ds s = lookV vals (fun _ => true) k ds s
  | [], _, _ => rfl
  | x :: rest, k, h => by
    simp only [lookV]
    rw [look_all rest (k + 1) (fun i h1 h2 => h i (by omega) (by simp; omega)), h k (Nat.le_refl _) (by simp)]
    simp
theorem look_not {vals : Nat → Value} {l : Nat → Bool} {s : Tmp} : ∀ (ds : List (Option Tmp)) (k : Nat), ds.contains (some s) = false → lookV vals l k ds s = none
  | [], _, _ => rfl
  | x :: rest, k, h => by
    simp only [List.contains_cons, Bool.or_eq_false_iff] at h
    simp only [lookV]
    rw [if_neg (fun q => by rw [q.1] at h; simp at h), look_not rest (k + 1) h.2]
/-- The act behind all. -/
def finA (vals : Nat → Value) : Nat → List (Option Tmp) → Act → Act
  | _, [], b => b
  | k, x :: rest, b => finA vals (k + 1) rest (b.put x (vals k))
theorem fin_act {vals : Nat → Value} : ∀ (ds : List (Option Tmp)) (k : Nat) (b : Act), dstB ds = true → (∀ x ∈ ds, ∀ s, x = some s → s < b.tmps.size) → (finA vals k ds b).defers = b.defers ∧ (finA vals k ds b).tmps.size = b.tmps.size ∧ ∀ s : Nat, (finA vals k ds b).tmps[s]? = match lookV vals (fun _ => true) k ds s with | some v => some v | none => b.tmps[s]?
  | [], _, _, _, _ => ⟨rfl, rfl, fun _ => rfl⟩
  | x :: rest, k, b, hd, hin => by
    have hd' : dstB rest = true := by
      cases x with
      | none => exact hd
      | some y => simp only [dstB, Bool.and_eq_true] at hd; exact hd.2
    have hsz : (b.put x (vals k)).tmps.size = b.tmps.size := by cases x <;> simp [Act.put]
    have hdf : (b.put x (vals k)).defers = b.defers := by cases x <;> rfl
    obtain ⟨h1, h2, h3⟩ := fin_act (vals := vals) rest (k + 1) (b.put x (vals k)) hd' (fun y hy s hs => by rw [hsz]; exact hin y (List.mem_cons_of_mem _ hy) s hs)
    refine ⟨h1.trans hdf, h2.trans hsz, fun s => ?_⟩
    show (finA vals (k + 1) rest (b.put x (vals k))).tmps[s]? = _
    rw [h3 s]
    simp only [lookV]
    by_cases e : x = some s
    · subst e
      simp only [dstB, Bool.and_eq_true, Bool.not_eq_true'] at hd
      rw [look_not rest (k + 1) hd.1]
      have hlt := hin (some s) (List.mem_cons_self ..) s rfl
      simp [Act.put, hlt]
    · simp only [e, false_and, if_false]
      cases hl : lookV vals (fun _ => true) (k + 1) rest s with
      | some v => rfl
      | none =>
        cases x with
        | none => rfl
        | some y =>
          have : y ≠ s := fun q => e (by rw [q])
          simp only [Act.put]
          rw [Array.getElem?_setIfInBounds_ne this]
theorem act_eq {a b : Act} (hd : a.defers = b.defers) (ht : ∀ s : Nat, a.tmps[s]? = b.tmps[s]?) : a = b := by
  have ht' : a.tmps = b.tmps := Array.ext_getElem? ht
  cases a
  cases b
  simp only at ht' hd
  subst ht'
  congr 1
theorem StepsV.to {P : Program} {Q : Exit → Act → World → Prop} {J : (Nat → Bool) → (Nat → Value) → World → Prop} {D : List (List Nat)} {ds : List (Option Tmp)} {t0 : Array Value} {I : (Nat → Bool) → Act → World → Prop} : ∀ {os : List Oper} {i : Nat}, (∀ k o, os[k]? = some o → StepV P J D ds t0 (i + k) o → StepI P Q I D (i + k) o) → StepsV P J D ds t0 i os → StepsI P Q I D i os
  | [], _, _, _ => trivial
  | o :: rest, i, h, hs => ⟨h 0 o rfl hs.1, StepsV.to (fun k o' hk h1 => by have := h (k + 1) o' (by simpa using hk); rw [show i + (k + 1) = i + 1 + k by omega] at this; exact this h1) hs.2⟩
/-- A region that draws its order, by what holds of the values that have come up. -/
theorem wp_region_vals {P : Program} {id : Nat} {Q : Exit → Act → World → Prop} {a : Act} {w : World} {os : List Oper} (D : List (List Nat)) (ds : List (Option Tmp)) (J : (Nat → Bool) → (Nat → Value) → World → Prop) (hm : P.follows .mixedOrders = true) (hD : depsL os = D) (hg : os.all (fun o => o.guard.isNone) = true)
    (hB : ((List.range os.length).all (fun i => (D.getD i []).all (fun j => decide (j < i)))) = true) (hds : os.map (·.dst) = ds) (hnd : dstB ds = true) (hin : ds.all (fun x => x.all (fun s => decide (s < a.tmps.size))) = true)
    (h0 : J (fun _ => false) (fun _ => undef) w.drew) (hs : StepsV P J D ds a.tmps 0 os) (hd : ∀ l vals w, J l vals w → (∀ i, i < os.length → l i = true) → Q .normal (finA vals 0 ds a) w) : (Code.region id os.toArray true).wp P Q a w := by
  have hin' : ∀ x ∈ ds, ∀ s, x = some s → s < a.tmps.size := fun x hx s e => by
    have := List.all_eq_true.1 hin x hx
    subst e
    simpa using this
  refine wp_region_inv D (fun l b w => ∃ vals, (b.defers = a.defers ∧ b.tmps.size = a.tmps.size ∧ ∀ s : Nat, b.tmps[s]? = match lookV vals l 0 ds s with | some v => some v | none => a.tmps[s]?) ∧ J l vals w) hm hD hg hB ?_ ?_ ?_
  · refine ⟨fun _ => undef, ⟨rfl, rfl, fun s => ?_⟩, h0⟩
    have : ∀ (ds : List (Option Tmp)) k, lookV (fun _ => undef) (fun _ => false) k ds s = none := by
      intro ds
      induction ds with
      | nil => intro k; rfl
      | cons x r ih => intro k; simp [lookV, ih]
    rw [this]
  · refine StepsV.to (fun k o hk hst => ?_) hs
    rw [Nat.zero_add] at hst ⊢
    rintro l b w ⟨vals, ⟨hb1, hb2, hb3⟩, hJ⟩ hl hdn hdi
    have hev : b.eval = evV ds l vals a.tmps := by
      funext x
      cases x with
      | tmp s =>
        simp only [Act.eval, evV, Array.getD_eq_getD_getElem?, hb3 s]
        cases lookV vals l 0 ds s <;> rfl
      | const v => rfl
      | global g => rfl
      | func f => rfl
    have h := hst l vals w hJ hl hdn hdi
    have hdk : ds[k]? = some o.dst := by rw [← hds]; simp [hk]
    have hput : ∀ v w', J (updB l k) (updV vals k v) w' → ∃ vals', ((b.put o.dst v).defers = a.defers ∧ (b.put o.dst v).tmps.size = a.tmps.size ∧ ∀ s : Nat, (b.put o.dst v).tmps[s]? = match lookV vals' (updB l k) 0 ds s with | some v => some v | none => a.tmps[s]?) ∧ J (updB l k) vals' w' := fun v w' hJ' => by
      refine ⟨updV vals k v, ⟨by rw [← hb1]; cases o.dst <;> rfl, by rw [← hb2]; cases o.dst <;> simp [Act.put], fun s => ?_⟩, hJ'⟩
      by_cases e : o.dst = some s
      · rw [look_new ds 0 hnd ⟨k, by omega, by rw [hdk, e]⟩, e]
        have hlt := hin' (some s) (by rw [← e]; exact List.mem_of_getElem? hdk) s rfl
        simp [Act.put, hb2, hlt]
      · rw [look_same ds 0 (fun j hj q => e (by obtain rfl : j = k := (by omega); rw [hdk] at q; exact Option.some.inj q)), ← hb3 s]
        cases hdst : o.dst with
        | none => rfl
        | some y =>
          rw [hdst] at e
          have : y ≠ s := fun q => e (by rw [q])
          simp only [Act.put]
          rw [Array.getElem?_setIfInBounds_ne this]
    unfold Oper.wp
    rw [hev]
    revert h
    generalize (execOp (evV ds l vals a.tmps) o).run P w = r
    intro h
    rcases r with ⟨x, w'⟩ | ⟨x, w'⟩
    · cases x <;> first | (exact h.elim) | skip
      · exact hput _ _ h
      · exact hput _ _ h
      · refine Calls.mono h ?_
        rintro e w2 ⟨v, rfl, hK⟩
        exact hput _ _ hK
    · exact h.elim
  · rintro l b w ⟨vals, ⟨hb1, hb2, hb3⟩, hJ⟩ hall
    obtain ⟨f1, f2, f3⟩ := fin_act (vals := vals) ds 0 a hnd hin'
    have hb : b = finA vals 0 ds a := act_eq (hb1.trans f1.symm) (fun s => by
      rw [hb3 s, f3 s, look_all ds 0 (fun i _ h2 => hall i (by rw [← hds] at h2; simpa using h2))])
    rw [hb]
    exact hd l vals w hJ hall
end Go.Proofs.Ytbcchbhchfdbiaa
