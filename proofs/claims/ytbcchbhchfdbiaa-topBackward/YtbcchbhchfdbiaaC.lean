import Derived.Test.YtbcchbhchfdbiaaB
namespace Go.Proofs.Ytbcchbhchfdbiaa
open Go.RowKit
/-- A node: whose it is, its kids, what all get there. -/
structure Nd where
  pl : Int
  k : Sl
  p : Sl
def ndNone : Nd := ⟨0, slNone, slNone⟩
def ndAt (L : List Nd) (j : Nat) : Nd := L[j]?.getD ndNone
def ndV (d : Nd) : Value := .agg #[.int .i64 d.pl, d.k.val, d.p.val]
theorem ndAt_mem {L : List Nd} {j : Nat} (h : j < L.length) : ndAt L j ∈ L := by
  unfold ndAt
  rw [List.getElem?_eq_getElem h]
  exact List.getElem_mem h
def SlIn (w : World) (s : Sl) : Prop := Ints w s.la s.ln s.lc s.ints
theorem SlIn.later {w w' : World} {s : Sl} (h : SlIn w s) (hb : Below w.heap.size w w') : SlIn w' s := Ints.later h hb
/-- A slice of nodes as it lies: three cells a node. -/
def Nodes (w : World) (a : Option Addr) (n c : Nat) (L : List Nd) : Prop :=
  n = L.length ∧ n ≤ c ∧ c ≤ maxLen ∧ (∀ d ∈ L, SlIn w d.k ∧ SlIn w d.p) ∧
  (n = 0 ∨ ∃ b off, a = some ⟨b, off, none⟩ ∧ b < w.heap.size ∧ ∀ j, j < n →
    w.cell? ⟨b, off + j * 3, none⟩ = some (.int .i64 (ndAt L j).pl) ∧ w.cell? ⟨b, off + j * 3 + 1, none⟩ = some (.slice (ndAt L j).k.la (ndAt L j).k.ln (ndAt L j).k.lc) ∧
    w.cell? ⟨b, off + j * 3 + 2, none⟩ = some (.slice (ndAt L j).p.la (ndAt L j).p.ln (ndAt L j).p.lc))
theorem Nodes.later {w w' : World} {a : Option Addr} {n c : Nat} {L : List Nd} (h : Nodes w a n c L) (hb : Below w.heap.size w w') : Nodes w' a n c L := by
  obtain ⟨hn, hc, hm, hg, h⟩ := h
  refine ⟨hn, hc, hm, fun g m => ⟨(hg g m).1.later hb, (hg g m).2.later hb⟩, ?_⟩
  rcases h with h0 | ⟨b, off, rfl, hlt, hcell⟩
  · exact Or.inl h0
  · refine Or.inr ⟨b, off, rfl, Nat.lt_of_lt_of_le hlt hb.size, fun j hj => ?_⟩
    obtain ⟨h1, h2, h3⟩ := hcell j hj
    exact ⟨(hb.cell (p := ⟨b, off + j * 3, none⟩) hlt).trans h1, (hb.cell (p := ⟨b, off + j * 3 + 1, none⟩) hlt).trans h2, (hb.cell (p := ⟨b, off + j * 3 + 2, none⟩) hlt).trans h3⟩
theorem Nodes.mem {w : World} {a : Option Addr} {n c : Nat} {L : List Nd} (h : Nodes w a n c L) {j : Nat} (hj : j < n) : SlIn w (ndAt L j).k ∧ SlIn w (ndAt L j).p := h.2.2.2.1 _ (ndAt_mem (by have := h.1; omega))
theorem Nodes.cellAt {w : World} {a : Option Addr} {n c : Nat} {L : List Nd} (h : Nodes w a n c L) (hn : 0 < n) : ∃ b off, a = some ⟨b, off, none⟩ ∧ b < w.heap.size ∧ ∀ wr, Below w.heap.size w wr → ∀ j, j < n →
    wr.cell? ⟨b, off + j * 3, none⟩ = some (.int .i64 (ndAt L j).pl) ∧ wr.cell? ⟨b, off + j * 3 + 1, none⟩ = some (.slice (ndAt L j).k.la (ndAt L j).k.ln (ndAt L j).k.lc) ∧
    wr.cell? ⟨b, off + j * 3 + 2, none⟩ = some (.slice (ndAt L j).p.la (ndAt L j).p.ln (ndAt L j).p.lc) := by
  rcases h.2.2.2.2 with h0 | ⟨b, off, e, hlt, hcell⟩
  · omega
  · refine ⟨b, off, e, hlt, fun wr hb j hj => ?_⟩
    obtain ⟨h1, h2, h3⟩ := hcell j hj
    exact ⟨(hb.cell (p := ⟨b, off + j * 3, none⟩) hlt).trans h1, (hb.cell (p := ⟨b, off + j * 3 + 1, none⟩) hlt).trans h2, (hb.cell (p := ⟨b, off + j * 3 + 2, none⟩) hlt).trans h3⟩
/-- A tree as TreeOf numbers its nodes: those of node i are s i, .., s (i + 1) - 1. -/
structure BT (P n : Nat) (L : List Nd) (s : Nat → Nat) : Prop where
  len : L.length = n
  P1 : 1 ≤ P
  P5 : P ≤ 5
  n1 : 1 ≤ n
  n40 : n ≤ 40
  s0 : s 0 = 1
  sn : s n = n
  sS : ∀ i, i < n → s (i + 1) = s i + (ndAt L i).k.ln
  pos : ∀ i, i < n → i < s i
  kid : ∀ i, i < n → ∀ j, j < (ndAt L i).k.ln → nth (ndAt L i).k.ints j = ((s i + j : Nat) : Int)
  k5 : ∀ i, i < n → (ndAt L i).k.ln ≤ 5
  ender : ∀ i, i < n → (ndAt L i).k.ln = 0 → (ndAt L i).pl = 0 ∧ (ndAt L i).p.ln = P ∧ ∀ j, j < P → -999 ≤ nth (ndAt L i).p.ints j ∧ nth (ndAt L i).p.ints j ≤ 999
  mover : ∀ i, i < n → 0 < (ndAt L i).k.ln → 0 ≤ (ndAt L i).pl ∧ (ndAt L i).pl < P ∧ (ndAt L i).p.ln = 0
section
variable {P n : Nat} {L : List Nd} {s : Nat → Nat}
theorem BT.mono (h : BT P n L s) : ∀ d i, i + d ≤ n → s i ≤ s (i + d)
  | 0, i, _ => Nat.le_refl _
  | d + 1, i, hd => by
    have h1 := h.mono d i (by omega)
    have h2 := h.sS (i + d) (by omega)
    rw [show i + (d + 1) = i + d + 1 by omega, h2]
    omega
theorem BT.s_le (h : BT P n L s) {i : Nat} (hi : i ≤ n) : s i ≤ n := by
  have := h.mono (n - i) i (by omega)
  rw [show i + (n - i) = n by omega, h.sn] at this
  exact this
/-- A kid's number. -/
theorem BT.kid_lt (h : BT P n L s) {i j : Nat} (hi : i < n) (hj : j < (ndAt L i).k.ln) : i < s i + j ∧ s i + j < n := by
  have h1 := h.pos i hi
  have h2 := h.sS i hi
  have h3 := h.s_le (i := i + 1) (by omega)
  omega
end
def tV (P : Int) (a : Option Addr) (n c : Nat) : Value := .agg #[.int .i64 P, .slice a n c]
/-- The box in which a function has laid the tree, in a later world. -/
theorem tbox {w : World} (P : Int) (a : Option Addr) (n c : Nat) : ∃ W, w.alloc (.cells #[.int .i64 P, .slice a n c] 24) = W ∧ Below w.heap.size w W ∧ w.heap.size < W.heap.size ∧ (∀ wr, Below W.heap.size W wr → wr.cell? ⟨w.heap.size, 0, none⟩ = some (.int .i64 P) ∧ wr.cell? ⟨w.heap.size, 1, none⟩ = some (.slice a n c)) := by
  refine ⟨_, rfl, by go_grown, by simp, fun wr hb => ⟨(hb.cell (p := ⟨w.heap.size, 0, none⟩) (by simp)).trans (by simp [World.cell?_alloc_at]), (hb.cell (p := ⟨w.heap.size, 1, none⟩) (by simp)).trans (by simp [World.cell?_alloc_at])⟩⟩
end Go.Proofs.Ytbcchbhchfdbiaa
