import Derived.Test.YtodbnjainpjkcaaMM
namespace Go.Proofs.Ytodbnjainpjkcaa
open Go.RowKit
/-- A slice of ints in a block of its own, behind B1. -/
def T4 (B1 : Nat) (w : World) (a : Option Addr) (n : Nat) : Prop := n = 0 ∨ ∃ b off arr fz, a = some ⟨b, off, none⟩ ∧ B1 ≤ b ∧ w.heap[b]? = some (.cells arr 3 fz)
theorem T4.later {B1 : Nat} {w w' : World} {a : Option Addr} {n : Nat} (h : T4 B1 w a n) (hb : Below w.heap.size w w') : T4 B1 w' a n := by
  rcases h with h | ⟨b, off, arr, fz, h1, h0, h2⟩
  · exact Or.inl h
  · exact Or.inr ⟨b, off, arr, fz, h1, h0, by rw [hb.block b (Array.getElem?_eq_some_iff.1 h2).1]; exact h2⟩
theorem T4.grown {B1 : Nat} {w w' : World} {base k : Nat} {v : Value} {xs : List Value} {a : Option Addr} {n c : Nat} {l : List Int} (h : T4 B1 w a n) (hI : Ints w a n c l) (ho : w.ownsRow base 22 1 v k xs) (hg : w.grownBy w' v.ownBlock) : Ints w' a n c l ∧ T4 B1 w' a n := by
  rcases h with h | ⟨b, off, arr, fz, h1, h0, h2⟩
  · exact ⟨⟨hI.1, hI.2.1, hI.2.2.1, Or.inl h⟩, Or.inl h⟩
  · have hlt := (Array.getElem?_eq_some_iff.1 h2).1
    have hb := hg.block b hlt (T3.apart ho h2)
    refine ⟨⟨hI.1, hI.2.1, hI.2.2.1, ?_⟩, Or.inr ⟨b, off, arr, fz, h1, h0, by rw [hb]; exact h2⟩⟩
    rcases hI.2.2.2 with h0 | ⟨b', off', e, hlt', hc⟩
    · exact Or.inl h0
    · rw [h1] at e
      cases e
      exact Or.inr ⟨b, off, h1, Nat.lt_of_lt_of_le hlt hg.size, fun j hj => (World.cell?_of_block (a := ⟨b, off + j, none⟩) hb).trans (hc j hj)⟩
theorem T4.set {B1 q o : Nat} {u : Value} {w : World} {a : Option Addr} {n c : Nat} {l : List Int} (h : T4 B1 w a n) (hI : Ints w a n c l) (hq : q < B1) : Ints (w.setCell ⟨q, o, none⟩ u) a n c l ∧ T4 B1 (w.setCell ⟨q, o, none⟩ u) a n := by
  rcases h with h | ⟨b, off, arr, fz, h1, h0, h2⟩
  · exact ⟨⟨hI.1, hI.2.1, hI.2.2.1, Or.inl h⟩, Or.inl h⟩
  · have hne : b ≠ q := by omega
    have hb := Below.heap_setCell w ⟨q, o, none⟩ u b hne
    refine ⟨⟨hI.1, hI.2.1, hI.2.2.1, ?_⟩, Or.inr ⟨b, off, arr, fz, h1, h0, by rw [hb]; exact h2⟩⟩
    rcases hI.2.2.2 with h0 | ⟨b', off', e, hlt', hc⟩
    · exact Or.inl h0
    · rw [h1] at e
      cases e
      exact Or.inr ⟨b, off, h1, by simpa [World.setCell] using hlt', fun j hj => (World.cell?_of_block (a := ⟨b, off + j, none⟩) hb).trans (hc j hj)⟩
theorem T4.of_owns {B1 : Nat} {w : World} {B n m : Nat} {a : Option Addr} {c : Nat} {xs : List Value} (h : w.ownsRow B 3 1 (.slice a n c) m xs) (hB : B1 ≤ B) : T4 B1 w a n := by
  rcases h.2 with ⟨e, _⟩ | ⟨g, cap, cur, e, hg0, hg, _⟩
  · cases e; exact Or.inl rfl
  · cases e; exact Or.inr ⟨g, 0, cur, (0, 0), rfl, Nat.le_trans hB hg0, hg⟩
/-- Where All stands: its boxes, who goes with whom so far, and what was found. -/
structure St (w0 : World) (nL g Bw Bp Ba Bs B1 : Nat) (W : World) (full : List Int) (v : Value) (L : List Sl) : Prop where
  below : Below w0.heap.size w0 W
  cw : W.cell? ⟨Bw, 0, none⟩ = some (.slice (some ⟨g, 0, none⟩) nL nL)
  cs : W.cell? ⟨Bs, 0, none⟩ = some (.func (.func 39) #[] #[.pointer (some ⟨Bw, 0, none⟩), .pointer (some ⟨Bp, 0, none⟩), .pointer (some ⟨Ba, 0, none⟩), .pointer (some ⟨Bs, 0, none⟩)])
  row : Row w0.heap.size W (some ⟨g, 0, none⟩) nL (atL full)
  ca : W.cell? ⟨Ba, 0, none⟩ = some v
  fa : W.frozen? ⟨Ba, 0, none⟩ = false
  own : W.ownsRow B1 22 1 v L.length (slVals L)
  size : B1 ≤ W.heap.size
  lst : ∀ s ∈ L, Ints W s.la s.ln s.lc s.ints ∧ T4 B1 W s.la s.ln
theorem St.later {w0 W W' : World} {nL g Bw Bp Ba Bs B1 : Nat} {full : List Int} {v : Value} {L : List Sl} (h : St w0 nL g Bw Bp Ba Bs B1 W full v L) (hb : Below W.heap.size W W') : St w0 nL g Bw Bp Ba Bs B1 W' full v L where
  below := h.below.trans (hb.mono h.below.size)
  cw := (hb.cell (p := ⟨Bw, 0, none⟩) (World.block_lt_of_cell? W _ h.cw)).trans h.cw
  cs := (hb.cell (p := ⟨Bs, 0, none⟩) (World.block_lt_of_cell? W _ h.cs)).trans h.cs
  row := h.row.later hb
  ca := (hb.cell (p := ⟨Ba, 0, none⟩) (World.block_lt_of_cell? W _ h.ca)).trans h.ca
  fa := (hb.frozen (p := ⟨Ba, 0, none⟩) (World.block_lt_of_cell? W _ h.ca)).trans h.fa
  own := owns_later h.own hb
  size := Nat.le_trans h.size hb.size
  lst := fun s hs => ⟨(h.lst s hs).1.later hb, (h.lst s hs).2.later hb⟩
theorem St.set {w0 W : World} {nL g Bw Bp Ba Bs B1 : Nat} {full : List Int} {v : Value} {L : List Sl} (h : St w0 nL g Bw Bp Ba Bs B1 W full v L) (h1 : g ≠ Bw) (h2 : g ≠ Bs) (h3 : g ≠ Ba) (h4 : g < B1) (h5 : w0.heap.size ≤ g) (hn : nL = full.length) {k : Nat} (hk : k < nL) (x : Int) : St w0 nL g Bw Bp Ba Bs B1 (W.setCell ⟨g, k, none⟩ (.int .i64 x)) (full.set k x) v L where
  below := h.below.setCell h5 _
  cw := by rw [World.cell?_setCell_far _ _ _ _ h1]; exact h.cw
  cs := by rw [World.cell?_setCell_far _ _ _ _ h2]; exact h.cs
  row := h.row.set hk (fun j _ hj => by rw [set_at full k x j (by omega), if_neg hj]) (by rw [set_at full k x k (by omega), if_pos rfl])
  ca := by rw [World.cell?_setCell_far _ _ _ _ h3]; exact h.ca
  fa := by rw [World.frozen?_setCell]; exact h.fa
  own := ownsRow_setCell_below h.own h4 _
  size := by simpa [World.setCell] using h.size
  lst := fun s hs => (h.lst s hs).2.set (h.lst s hs).1 h4
/-- The prefix, and then nobody. -/
def fullOf (nL : Nat) (pre : List Int) : List Int := pre ++ List.replicate (nL - pre.length) (-1)
theorem fullOf_len {nL : Nat} {pre : List Int} (h : pre.length ≤ nL) : (fullOf nL pre).length = nL := by unfold fullOf; simp; omega
theorem fullOf_alone {nL : Nat} {pre : List Int} (h : pre.length < nL) : fullOf nL (pre ++ [-1]) = fullOf nL pre := by
  unfold fullOf
  rw [List.length_append, List.length_singleton, List.append_assoc, show nL - pre.length = (nL - (pre.length + 1)) + 1 by omega, List.replicate_succ]
  rfl
theorem fullOf_set {nL : Nat} {pre : List Int} (x : Int) (h : pre.length < nL) : (fullOf nL pre).set pre.length x = fullOf nL (pre ++ [x]) := by
  unfold fullOf
  rw [List.length_append, List.length_singleton, List.append_assoc, show nL - pre.length = (nL - (pre.length + 1)) + 1 by omega, List.replicate_succ, List.set_append_right _ _ (Nat.le_refl _), Nat.sub_self]
  rfl
theorem fullOf_back {nL : Nat} {pre : List Int} (x : Int) (h : pre.length < nL) : (fullOf nL (pre ++ [x])).set pre.length (-1) = fullOf nL pre := by
  rw [← fullOf_set x h, List.set_set, fullOf_set (-1) h, fullOf_alone h]
theorem count_full {nL : Nat} {pre : List Int} (r : Nat) : (fullOf nL pre).count (r : Int) = pre.count (r : Int) := by
  unfold fullOf
  rw [List.count_append, List.count_replicate]
  simp
theorem fullOf_whole {pre : List Int} : fullOf pre.length pre = pre := by unfold fullOf; simp
end Go.Proofs.Ytodbnjainpjkcaa
