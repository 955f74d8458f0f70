import Derived.Test.YtffnhflbhckhbaaDoorQ1
import Derived.Test.YtffnhflbhckhbaaDoorRG
import Derived.Test.YtffnhflbhckhbaaDoorG
import Derived.Test.YtffnhflbhckhbaaDoorPV
namespace Go.Proofs.YtffnhflbhckhbaaDoor
open Go.RowKit Go.Shelf
/-- The iterator's four boxes. -/
structure Bx (W : World) (Bm Bs By Bg fm ly : Nat) (gv rd rw : Int) (fa : Option Addr) (fn fc : Nat) : Prop where
  lm : Bm < W.heap.size
  ls : Bs < W.heap.size
  lY : By < W.heap.size
  lg : Bg < W.heap.size
  cm : W.cell? ⟨Bm, 0, none⟩ = some (.func (.func fm) #[] #[])
  bs : SBox W Bs gv rd rw fa fn fc
  cy : W.cell? ⟨By, 0, none⟩ = some (.func (.yield ly) #[] #[])
  cg : W.cell? ⟨Bg, 0, none⟩ = some (.func (.func 32) #[] #[.pointer (some ⟨Bm, 0, none⟩), .pointer (some ⟨Bs, 0, none⟩), .pointer (some ⟨By, 0, none⟩), .pointer (some ⟨Bg, 0, none⟩)])
theorem Bx.keep {W W' : World} {Bm Bs By Bg fm ly : Nat} {gv rd rw : Int} {fa : Option Addr} {fn fc : Nat} {S : Nat → Prop} (h : Bx W Bm Bs By Bg fm ly gv rd rw fa fn fc) (k : Keep S W W') (h1 : S Bm) (h2 : S Bs) (h3 : S By) (h4 : S Bg) : Bx W' Bm Bs By Bg fm ly gv rd rw fa fn fc :=
  ⟨Nat.lt_of_lt_of_le h.lm k.size, Nat.lt_of_lt_of_le h.ls k.size, Nat.lt_of_lt_of_le h.lY k.size, Nat.lt_of_lt_of_le h.lg k.size, (k.cell (p := ⟨Bm, 0, none⟩) h1).trans h.cm,
    ⟨(k.cell (p := ⟨Bs, 0, none⟩) h2).trans h.bs.c0, (k.cell (p := ⟨Bs, 1, none⟩) h2).trans h.bs.c1, (k.cell (p := ⟨Bs, 2, none⟩) h2).trans h.bs.c2, (k.cell (p := ⟨Bs, 3, none⟩) h2).trans h.bs.c3⟩,
    (k.cell (p := ⟨By, 0, none⟩) h3).trans h.cy, (k.cell (p := ⟨Bg, 0, none⟩) h4).trans h.cg⟩
theorem Bx.below {W W' : World} {Bm Bs By Bg fm ly : Nat} {gv rd rw : Int} {fa : Option Addr} {fn fc : Nat} (h : Bx W Bm Bs By Bg fm ly gv rd rw fa fn fc) (k : Below W.heap.size W W') : Bx W' Bm Bs By Bg fm ly gv rd rw fa fn fc :=
  h.keep (Keep.of_below (S := fun b => b < W.heap.size) k (fun _ h => h)) h.lm h.ls h.lY h.lg
theorem owns_mono {w : World} {B B' : Nat} {e sz : Nat} {v : Value} {n : Nat} {xs : List Value} (h : w.ownsRow B' e sz v n xs) (hb : B ≤ B') : w.ownsRow B e sz v n xs := by
  refine ⟨h.1, ?_⟩
  rcases h.2 with q | ⟨g, cap, cur, rfl, hbg, r⟩
  · exact .inl q
  · exact .inr ⟨g, cap, cur, rfl, Nat.le_trans hb hbg, r⟩
end Go.Proofs.YtffnhflbhckhbaaDoor
