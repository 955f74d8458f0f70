import Derived.Test.YtffnhflbhckhbaaDoorQL
import Derived.Test.YtffnhflbhckhbaaDoorJ
import Derived.Laws.EntriesVeiled
import Derived.Laws.NewBlocks
namespace Go.Proofs.YtffnhflbhckhbaaDoor
open Go.RowKit Go.Shelf
attribute [local go_sem] Oper.semAt_some
/-- The four boxes of the iterator. -/
structure It (W : World) (Bm Bs Bf Bu : Nat) (gv rd rw a0 : Int) (fa : Option Addr) (fn fc u : Nat) : Prop where
  lm : Bm < W.heap.size
  ls : Bs < W.heap.size
  lf : Bf < W.heap.size
  lu : Bu < W.heap.size
  cm : W.cell? ⟨Bm, 0, none⟩ = some (.func (.func (fmOf gv a0)) #[] #[])
  bs : SBox W Bs gv rd rw fa fn fc
  cf : W.cell? ⟨Bf, 0, none⟩ = some (.int .i64 a0)
  cu : W.cell? ⟨Bu, 0, none⟩ = some (.int .i64 (u : Int))
theorem cell_alloc {w : World} {o : Obj} {p : Addr} {u : Value} (h : w.cell? p = some u) : (w.alloc o).cell? p = some u := (World.grownBy_alloc w o none).cell h (by simp)
theorem cell_new {w : World} {cs : Array Value} {ty : TypeId} {n i : Nat} {u : Value} (hn : n = w.heap.size) (h : cs[i]? = some u) : (w.alloc (.cells cs ty)).cell? ⟨n, i, none⟩ = some u := by rw [World.cell?_alloc_at _ _ _ _ hn]; exact h
theorem It.later {W W' : World} {Bm Bs Bf Bu : Nat} {gv rd rw a0 : Int} {fa : Option Addr} {fn fc u : Nat} (h : It W Bm Bs Bf Bu gv rd rw a0 fa fn fc u) (hb : Below W.heap.size W W') : It W' Bm Bs Bf Bu gv rd rw a0 fa fn fc u :=
  ⟨Nat.lt_of_lt_of_le h.lm hb.size, Nat.lt_of_lt_of_le h.ls hb.size, Nat.lt_of_lt_of_le h.lf hb.size, Nat.lt_of_lt_of_le h.lu hb.size, (hb.cell (p := ⟨Bm, 0, none⟩) h.lm).trans h.cm, h.bs.later hb, (hb.cell (p := ⟨Bf, 0, none⟩) h.lf).trans h.cf, (hb.cell (p := ⟨Bu, 0, none⟩) h.lu).trans h.cu⟩
set_option maxRecDepth 100000 in
set_option maxHeartbeats 2000000 in
theorem chains_any (gv rd rw a0 : Int) (fa : Option Addr) (fn fc u : Nat) (w : World) :
    Calls Tryd.prog 25 #[swV gv rd rw fa fn fc, .int .i64 (u : Int), .int .i64 a0] w fun e w' => ∃ Bm Bs Bf Bu, e = .returned (.func (.func 31) #[] #[.pointer (some ⟨Bm, 0, none⟩), .pointer (some ⟨Bs, 0, none⟩), .pointer (some ⟨Bf, 0, none⟩), .pointer (some ⟨Bu, 0, none⟩)]) ∧ w.heap.size ≤ Bm ∧ w.heap.size ≤ Bs ∧ w.heap.size ≤ Bf ∧ w.heap.size ≤ Bu ∧ It w' Bm Bs Bf Bu gv rd rw a0 fa fn fc u ∧ Below w.heap.size w w' := by
  obtain ⟨wA, hwA⟩ : ∃ y, y = (((w.alloc (.cells #[.int .i64 gv, .slice fa fn fc, .int .i64 rd, .int .i64 rw] 24)).alloc (.cells #[.int .i64 (u : Int)] 3)).alloc (.cells #[.int .i64 a0] 3)).alloc (.cells #[.func (.func 22) #[] #[]] 44) := ⟨_, rfl⟩
  have hbA : Below w.heap.size w wA := by rw [hwA]; go_grown
  have hsA : wA.heap.size = w.heap.size + 1 + 1 + 1 + 1 := by rw [hwA]; simp
  have n0 : ∀ (i : Nat) (v : Value), (#[.int .i64 gv, .slice fa fn fc, .int .i64 rd, .int .i64 rw] : Array Value)[i]? = some v → wA.cell? ⟨w.heap.size, i, none⟩ = some v := fun i v h => by rw [hwA]; exact cell_alloc (cell_alloc (cell_alloc (cell_new rfl h)))
  have b0 : SBox wA w.heap.size gv rd rw fa fn fc := ⟨n0 0 _ rfl, n0 1 _ rfl, n0 2 _ rfl, n0 3 _ rfl⟩
  have b1 : wA.cell? ⟨w.heap.size + 1, 0, none⟩ = some (.int .i64 (u : Int)) := by rw [hwA]; exact cell_alloc (cell_alloc (cell_new (by simp) rfl))
  have b2 : wA.cell? ⟨w.heap.size + 1 + 1, 0, none⟩ = some (.int .i64 a0) := by rw [hwA]; exact cell_alloc (cell_new (by simp) rfl)
  have b3 : wA.cell? ⟨w.heap.size + 1 + 1 + 1, 0, none⟩ = some (.func (.func 22) #[] #[]) := by rw [hwA]; exact cell_new (by simp) rfl
  have b4 : wA.frozen? ⟨w.heap.size + 1 + 1 + 1, 0, none⟩ = false := by rw [hwA]; exact World.frozen?_alloc_at _ _ _ _ (by simp)
  have HW := hide hwA
  clear hwA
  have c0 := b0.c0
  have c1 := b0.c1
  have c2 := b0.c2
  have c3 := b0.c3
  have hmf : ∀ (fn : Fn) (first cap : Array Value) (w : World), (Instr.makeFunc fn first cap).run Tryd.prog w = .ok (.func fn first cap) w := fun _ _ _ _ => rfl
  unfold swV
  go_enter Tryd.func25, Tryd.ntmps25
  go_wp2_with fail
  rw [← unhide HW]
  refine (gives_any gv rd rw fa fn fc a0 wA).mono ?_
  rintro e w1 ⟨rfl, hb1⟩
  have hs1 := hb1.size
  have k3 := (hb1.cell (p := ⟨w.heap.size + 1 + 1 + 1, 0, none⟩) (by show w.heap.size + 1 + 1 + 1 < wA.heap.size; omega)).trans b3
  have k4 := (hb1.frozen (p := ⟨w.heap.size + 1 + 1 + 1, 0, none⟩) (by show w.heap.size + 1 + 1 + 1 < wA.heap.size; omega)).trans b4
  have hb1w : Below w.heap.size w w1 := hbA.trans (hb1.mono hbA.size)
  have i0 := b0.later hb1
  have i1 := (hb1.cell (p := ⟨w.heap.size + 1, 0, none⟩) (by show w.heap.size + 1 < wA.heap.size; omega)).trans b1
  have i2 := (hb1.cell (p := ⟨w.heap.size + 1 + 1, 0, none⟩) (by show w.heap.size + 1 + 1 < wA.heap.size; omega)).trans b2
  by_cases h : a0 < gv
  · have hd : decide (a0 < gv) = true := decide_eq_true h
    have hfm : fmOf gv a0 = 23 := by unfold fmOf; rw [if_pos h]
    have HI : Hid (It (w1.setCell ⟨w.heap.size + 1 + 1 + 1, 0, none⟩ (.func (.func 23) #[] #[])) (w.heap.size + 1 + 1 + 1) w.heap.size (w.heap.size + 1 + 1) (w.heap.size + 1) gv rd rw a0 fa fn fc u) := by
      refine ⟨by simp; omega, by simp; omega, by simp; omega, by simp; omega, ?_, i0.apart (by omega) _, ?_, ?_⟩
      · rw [hfm]; exact World.cell?_setCell_same _ _ _ k3
      · exact (World.cell?_setCell_far w1 ⟨w.heap.size + 1 + 1 + 1, 0, none⟩ ⟨w.heap.size + 1 + 1, 0, none⟩ _ (by show w.heap.size + 1 + 1 + 1 ≠ w.heap.size + 1 + 1; omega)).trans i2
      · exact (World.cell?_setCell_far w1 ⟨w.heap.size + 1 + 1 + 1, 0, none⟩ ⟨w.heap.size + 1, 0, none⟩ _ (by show w.heap.size + 1 + 1 + 1 ≠ w.heap.size + 1; omega)).trans i1
    have HBB : Hid (Below w.heap.size w (w1.setCell ⟨w.heap.size + 1 + 1 + 1, 0, none⟩ (.func (.func 23) #[] #[]))) := hb1w.setCell (p := ⟨w.heap.size + 1 + 1 + 1, 0, none⟩) (by show w.heap.size ≤ w.heap.size + 1 + 1 + 1; omega) _
    clear i0 i1 i2 b0 b1 b2 b3 b4 c0 c1 c2 c3
    go_wp2_with fail
    go_ret
    exact ⟨_, _, _, _, rfl, by omega, Nat.le_refl _, by omega, by omega, unhide HI, unhide HBB⟩
  · have hd : decide (a0 < gv) = false := decide_eq_false h
    have hfm : fmOf gv a0 = 22 := by unfold fmOf; rw [if_neg h]
    have HI : Hid (It w1 (w.heap.size + 1 + 1 + 1) w.heap.size (w.heap.size + 1 + 1) (w.heap.size + 1) gv rd rw a0 fa fn fc u) := ⟨by omega, by omega, by omega, by omega, by rw [hfm]; exact k3, i0, i2, i1⟩
    clear i0 i1 i2 b0 b1 b2 b3 b4 c0 c1 c2 c3
    go_wp2_with fail
    go_ret
    exact ⟨_, _, _, _, rfl, by omega, Nat.le_refl _, by omega, by omega, unhide HI, hb1w⟩
end Go.Proofs.YtffnhflbhckhbaaDoor
