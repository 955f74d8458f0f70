import Derived.Test.YtloandcndnmkhaaXX
import Derived.Test.YtloandcndnmkhaaYY
namespace Go.Proofs.Ytloandcndnmkhaa
open Go.RowKit
theorem gb_refl (w : World) (g : Nat) : w.grownBy w (some g) := ⟨rfl, rfl, rfl, Nat.le_refl _, fun _ _ _ => rfl⟩
theorem gb_trans {a b c : World} {g : Nat} (h : a.grownBy b (some g)) (k : b.grownBy c (some g)) : a.grownBy c (some g) :=
  ⟨k.os.trans h.os, k.tape.trans h.tape, k.output.trans h.output, Nat.le_trans h.size k.size, fun i hi hne => (k.block i (Nat.lt_of_lt_of_le hi h.size) hne).trans (h.block i hi hne)⟩
theorem gb_below {a b : World} {g : Nat} (h : Below a.heap.size a b) : a.grownBy b (some g) := ⟨h.os, h.tape, h.output, h.size, fun i hi _ => h.block i hi⟩
theorem gb_set (w : World) (g k : Nat) (v : Value) : w.grownBy (w.setCell ⟨g, k, none⟩ v) (some g) :=
  ⟨rfl, rfl, rfl, by simp [World.setCell], fun i _ hne => Below.heap_setCell _ _ _ _ (fun e => hne (by rw [e]))⟩
theorem gb_to {a b : World} {g : Nat} (h : a.grownBy b (some g)) {B : Nat} (hB : B ≤ a.heap.size) (hg : B ≤ g) : Below B a b := ⟨h.os, h.tape, h.output, h.size, fun i hi => h.block i (by omega) (fun e => by cases e; omega)⟩
/-- A slice of ints that does not lie in block g. -/
def Off (g : Nat) (a : Option Addr) (n : Nat) : Prop := n = 0 ∨ ∃ b off, a = some ⟨b, off, none⟩ ∧ b ≠ g
theorem Ints.gb {w w' : World} {a : Option Addr} {n c g : Nat} {l : List Int} (h : Ints w a n c l) (hb : w.grownBy w' (some g)) (ho : Off g a n) : Ints w' a n c l := by
  obtain ⟨hn, hc, hm, h⟩ := h
  refine ⟨hn, hc, hm, ?_⟩
  rcases h with h0 | ⟨b, off, rfl, hlt, hcell⟩
  · exact Or.inl h0
  · rcases ho with ho | ⟨b', off', e, hne⟩
    · exact Or.inl ho
    · cases e
      exact Or.inr ⟨b, off, rfl, Nat.lt_of_lt_of_le hlt hb.size, fun j hj => (World.cell?_of_block (w := w) (hb.block b hlt (fun e => hne (by cases e; rfl)))).trans (hcell j hj)⟩
theorem Row.grow {base : Nat} {W W' : World} {g n : Nat} {f : Nat → Int} (h : Row base W (some ⟨g, 0, none⟩) n f) (hb : Below W.heap.size W W') : Row base W' (some ⟨g, 0, none⟩) n f := h.later hb
end Go.Proofs.Ytloandcndnmkhaa
