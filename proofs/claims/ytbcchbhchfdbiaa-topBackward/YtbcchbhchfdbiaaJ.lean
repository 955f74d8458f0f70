import Derived.Test.YtbcchbhchfdbiaaI
namespace Go.Proofs.Ytbcchbhchfdbiaa
open Go.RowKit Go.Shelf
attribute [local go_sem] Oper.semAt_some
theorem mk25 {n : Nat} (hn : n ≤ 40) (X : World) : (Instr.makeSlice 25 (.int .i64 (n : Int)) (.int .i64 (n : Int))).run Try.prog X = .ok (.slice (some ⟨X.heap.size, 0, none⟩) n n) (X.alloc (.cells (madeCells (Value.int .i64 0).cells n) 3)) := by
  obtain ⟨i3, hi3, hz0, hz1, hz2⟩ := info_parts info3
  have := run_makeSlice (P := Try.prog) (w := X) 25 3 i3 _ Try.underlying25 hi3 hz0 .i64 .i64 (n : Int) (n : Int) (by omega) (Int.le_refl _) (by rw [hz1]; simp; omega) (by rw [hz2]; omega) (by omega)
  rw [hz1, Int.toNat_natCast, Nat.mul_one] at this
  exact this
theorem mk53 {n : Nat} (hn : n ≤ 40) (X : World) : (Instr.makeSlice 53 (.int .i64 (n : Int)) (.int .i64 (n : Int))).run Try.prog X = .ok (.slice (some ⟨X.heap.size, 0, none⟩) n n) (X.alloc (.cells (madeCells (Value.slice none 0 0).cells n) 25)) := by
  obtain ⟨i3, hi3, hz0, hz1, hz2⟩ := info_parts info25
  have := run_makeSlice (P := Try.prog) (w := X) 53 25 i3 _ Try.underlying53 hi3 hz0 .i64 .i64 (n : Int) (n : Int) (by omega) (Int.le_refl _) (by rw [hz1]; simp; omega) (by rw [hz2]; omega) (by omega)
  rw [hz1, Int.toNat_natCast, Nat.mul_one] at this
  exact this
theorem back46 (a : Option Addr) (n c : Nat) (w : World) : Calls Try.prog 46 #[.slice a n c] w fun e w' => e = .returned (.func (.func 56) #[] #[.pointer (some ⟨w.heap.size, 0, none⟩)]) ∧ w' = w.alloc (.cells #[.slice a n c] 22) := by
  go_enter Try.func46, Try.ntmps46
  go_wp2
  go_ret
  exact ⟨rfl, rfl⟩
/-- A row of ints, of slices, that is written. -/
def RowI (W : World) (g n : Nat) (f : Nat → Int) : Prop := g < W.heap.size ∧ ∀ j, j < n → W.cell? ⟨g, j, none⟩ = some (.int .i64 (f j)) ∧ W.frozen? ⟨g, j, none⟩ = false
def RowG (W : World) (g n : Nat) (f : Nat → Sl) : Prop := g < W.heap.size ∧ ∀ j, j < n → W.cell? ⟨g, j, none⟩ = some (.slice (f j).la (f j).ln (f j).lc) ∧ W.frozen? ⟨g, j, none⟩ = false
theorem RowI.keep {W W' : World} {g n : Nat} {f : Nat → Int} (h : RowI W g n f) (he : W'.heap[g]? = W.heap[g]?) (hs : W.heap.size ≤ W'.heap.size) : RowI W' g n f :=
  ⟨Nat.lt_of_lt_of_le h.1 hs, fun j hj => ⟨(World.cell?_of_block (a := ⟨g, j, none⟩) he).trans (h.2 j hj).1, (World.frozen?_of_block (a := ⟨g, j, none⟩) he).trans (h.2 j hj).2⟩⟩
theorem RowG.keep {W W' : World} {g n : Nat} {f : Nat → Sl} (h : RowG W g n f) (he : W'.heap[g]? = W.heap[g]?) (hs : W.heap.size ≤ W'.heap.size) : RowG W' g n f :=
  ⟨Nat.lt_of_lt_of_le h.1 hs, fun j hj => ⟨(World.cell?_of_block (a := ⟨g, j, none⟩) he).trans (h.2 j hj).1, (World.frozen?_of_block (a := ⟨g, j, none⟩) he).trans (h.2 j hj).2⟩⟩
def updS (v : Nat → Sl) (i : Nat) (b : Sl) (j : Nat) : Sl := if j = i then b else v j
theorem RowI.set {W : World} {g n i : Nat} {f : Nat → Int} {x : Int} (h : RowI W g n f) (hi : i < n) : RowI (W.setCell ⟨g, i, none⟩ (.int .i64 x)) g n (upd f i x) := by
  refine ⟨by simpa using h.1, fun j hj => ⟨?_, by rw [World.frozen?_setCell]; exact (h.2 j hj).2⟩⟩
  by_cases e : j = i
  · subst e
    rw [upd_at]
    exact World.cell?_setCell_same' _ _ _ (by rw [(h.2 j hj).1]; rfl)
  · rw [upd_ne e, World.cell?_setCell_other _ _ _ _ (by intro hh; cases hh; exact e rfl)]
    exact (h.2 j hj).1
theorem RowG.set {W : World} {g n i : Nat} {f : Nat → Sl} {x : Sl} (h : RowG W g n f) (hi : i < n) : RowG (W.setCell ⟨g, i, none⟩ (.slice x.la x.ln x.lc)) g n (updS f i x) := by
  refine ⟨by simpa using h.1, fun j hj => ⟨?_, by rw [World.frozen?_setCell]; exact (h.2 j hj).2⟩⟩
  unfold updS
  by_cases e : j = i
  · subst e
    rw [if_pos rfl]
    exact World.cell?_setCell_same' _ _ _ (by rw [(h.2 j hj).1]; rfl)
  · rw [if_neg e, World.cell?_setCell_other _ _ _ _ (by intro hh; cases hh; exact e rfl)]
    exact (h.2 j hj).1
/-- A tree as it may be: the kid of node i at place j is s i j. -/
structure GT (P n : Nat) (L : List Nd) (s : Nat → Nat → Nat) : Prop where
  len : L.length = n
  P1 : 1 ≤ P
  P5 : P ≤ 5
  n1 : 1 ≤ n
  n40 : n ≤ 40
  pos : ∀ i, i < n → ∀ j, i < s i j
  klt : ∀ i, i < n → ∀ j, j < (ndAt L i).k.ln → s i j < n
  kid : ∀ i, i < n → ∀ j, j < (ndAt L i).k.ln → nth (ndAt L i).k.ints j = ((s i j : Nat) : Int)
  k5 : ∀ i, i < n → (ndAt L i).k.ln ≤ 5
  ender : ∀ i, i < n → (ndAt L i).k.ln = 0 → (ndAt L i).pl = 0 ∧ (ndAt L i).p.ln = P
  mover : ∀ i, i < n → 0 < (ndAt L i).k.ln → 0 ≤ (ndAt L i).pl ∧ (ndAt L i).pl < P ∧ (ndAt L i).p.ln = 0
/-- What was settled, from node lo on. -/
def Done (L : List Nd) (n lo : Nat) (CH : Nat → (Nat → List Int) → Nat → Prop) (s : Nat → Nat → Nat) (ch : Nat → Int) (ge : Nat → Sl) : Prop :=
  ∀ j, lo ≤ j → j < n → ((ndAt L j).k.ln = 0 → ch j = 0 ∧ ge j = (ndAt L j).p) ∧ (0 < (ndAt L j).k.ln → ∃ v : Nat, ch j = v ∧ v < (ndAt L j).k.ln ∧ CH j (fun i => (ge (s j i)).ints) v ∧ ge j = ge (s j v))
/-- Where settle stands behind k rounds. -/
structure SI (w : World) (P a n c L) (F : Value) (gc gg : Nat) (CH : Nat → (Nat → List Int) → Nat → Prop) (s : Nat → Nat → Nat) (k : Nat) (W : World) : Prop where
  bel : Below w.heap.size w W
  sz : w.heap.size + 7 ≤ W.heap.size
  h0 : W.heap[w.heap.size]? = some (.cells #[.int .i64 (P : Nat), .slice a n c] 24 (0, 0))
  h1 : W.heap[w.heap.size + 1]? = some (.cells #[F] 57 (0, 0))
  h2 : W.heap[w.heap.size + 2]? = some (.cells #[.slice (some ⟨gc, 0, none⟩) n n] 25 (0, 0))
  h3 : W.heap[w.heap.size + 3]? = some (.cells #[.slice (some ⟨gg, 0, none⟩) n n] 53 (0, 0))
  h6 : W.heap[w.heap.size + 6]? = some (.cells #[.slice a n c] 22 (0, 0))
  rows : ∃ ch ge, RowI W gc n ch ∧ RowG W gg n ge ∧ Done L n (n - k) CH s ch ge ∧ (∀ j, j < n - k → ch j = 0) ∧ ∀ j, n - k ≤ j → j < n → (ge j).ln = P ∧ SlIn w (ge j)
theorem SI.frame {w : World} {P : Nat} {a : Option Addr} {n c : Nat} {L : List Nd} {F : Value} {gc gg : Nat} {CH : Nat → (Nat → List Int) → Nat → Prop} {s : Nat → Nat → Nat} {k : Nat} {W W' : World} (hc : gc < w.heap.size + 7) (hg : gg < w.heap.size + 7)
    (h : SI w P a n c L F gc gg CH s k W) (kp : Keep (fun b => b < w.heap.size + 7) W W') : SI w P a n c L F gc gg CH s k W' := by
  obtain ⟨ch, ge, r1, r2, r3⟩ := h.rows
  refine ⟨⟨kp.os.trans h.bel.os, kp.tape.trans h.bel.tape, kp.output.trans h.bel.output, Nat.le_trans h.bel.size kp.size, fun b hb => (kp.block b (by omega)).trans (h.bel.block b hb)⟩, Nat.le_trans h.sz kp.size, (kp.block _ (by omega)).trans h.h0, (kp.block _ (by omega)).trans h.h1, (kp.block _ (by omega)).trans h.h2, (kp.block _ (by omega)).trans h.h3, (kp.block _ (by omega)).trans h.h6, ch, ge, r1.keep (kp.block _ hc) kp.size, r2.keep (kp.block _ hg) kp.size, r3⟩
end Go.Proofs.Ytbcchbhchfdbiaa
