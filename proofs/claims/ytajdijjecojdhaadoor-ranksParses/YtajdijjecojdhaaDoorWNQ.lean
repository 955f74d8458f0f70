import Derived.Test.YtajdijjecojdhaaDoorWNK
import Derived.Laws.Rows
namespace Go.Proofs.YtajdijjecojdhaaDoor
open Go.RowKit
attribute [local go_sem] Oper.semAt_some
theorem results_row_tmp {fn : Func} {p : Tmp} {ty : TypeId} {u : Tmp} (h : fn.results = #[.cell p ty, .tmp u]) (tmps : Array Value) (P : Program) (w : World) (g : Nat) (cs : Array Value)
    (hp : tmps.getD p undef = .pointer (some ⟨g, 0, none⟩)) (hl : (loadVar ty ⟨g, 0, none⟩).run P w = .ok (.agg cs) w) :
    (results fn tmps).run P w = .ok (.tuple #[.agg cs, tmps.getD u undef]) w := by
  have hp' : tmps[p]?.getD undef = .pointer (some ⟨g, 0, none⟩) := by simpa using hp
  simp [results, h, hp', asAddr, hl]
/-- The sides that were read, as they lie. -/
def Sds (w : World) (a : Option Addr) (n c : Nat) (all : List Ent) : Prop := n = all.length ∧ n ≤ c ∧ c ≤ maxLen ∧ (n = 0 ∨ ∃ b off, a = some ⟨b, off, none⟩ ∧ b < w.heap.size ∧ ∀ j (h : j < all.length), w.cell? ⟨b, off + j * 5, none⟩ = some (.bool all[j].left) ∧ w.cell? ⟨b, off + j * 5 + 1, none⟩ = some (.string all[j].name))
theorem Sds.later {w w' : World} {a : Option Addr} {n c : Nat} {all : List Ent} (h : Sds w a n c all) (hb : Below w.heap.size w w') : Sds w' a n c all := by
  obtain ⟨h1, h2, h3, h4⟩ := h
  refine ⟨h1, h2, h3, ?_⟩
  rcases h4 with h4 | ⟨b, off, e, hlt, hc⟩
  · exact .inl h4
  · exact .inr ⟨b, off, e, Nat.lt_of_lt_of_le hlt hb.size, fun j hj => ⟨(hb.cell (p := ⟨b, off + j * 5, none⟩) hlt).trans (hc j hj).1, (hb.cell (p := ⟨b, off + j * 5 + 1, none⟩) hlt).trans (hc j hj).2⟩⟩
/-- Why not, beside a side that says nothing. -/
def SvE (e : Ending) (k : Int) : Prop := ∃ l0 nm r la ln lc, e = .returned (.tuple #[.agg #[.bool l0, .string nm, .int .i64 r, .slice none 0 0, .slice la ln lc], .int .i64 k])
/-- A box of a side, overwritten. -/
theorem over5 {wr : World} {g : Nat} {x0 x1 x2 x3 x4 y0 y1 y2 y3 y4 : Value} {t : TypeId} (h : wr.heap[g]? = some (.cells #[x0, x1, x2, x3, x4] t (0, 0))) :
    (((((wr.setCell ⟨g, 0, none⟩ y0).setCell ⟨g, 1, none⟩ y1).setCell ⟨g, 2, none⟩ y2).setCell ⟨g, 3, none⟩ y3).setCell ⟨g, 4, none⟩ y4).heap[g]? = some (.cells #[y0, y1, y2, y3, y4] t (0, 0)) := by
  rw [heap_setCell_same _ _ _ _ _ _ (heap_setCell_same _ _ _ _ _ _ (heap_setCell_same _ _ _ _ _ _ (heap_setCell_same _ _ _ _ _ _ (heap_setCell_same _ _ _ _ _ _ h))))]; rfl
theorem box5 {w : World} (v : Bool) : ∃ W, (w.alloc (.cells #[.bool false, .string ByteArray.empty, .int .i64 0, .slice none 0 0, .slice none 0 0] 69)).alloc (.cells #[.bool v, .string ByteArray.empty, .int .i64 0, .slice none 0 0, .slice none 0 0] 69) = W ∧ Below w.heap.size w W ∧ W.heap.size = w.heap.size + 1 + 1 ∧ W.heap[w.heap.size]? = some (.cells #[.bool false, .string ByteArray.empty, .int .i64 0, .slice none 0 0, .slice none 0 0] 69 (0, 0)) ∧ W.heap[w.heap.size + 1]? = some (.cells #[.bool v, .string ByteArray.empty, .int .i64 0, .slice none 0 0, .slice none 0 0] 69 (0, 0)) := by
  refine ⟨_, rfl, by go_grown, by simp, ?_, ?_⟩
  · rw [Below.heap_alloc _ _ _ (by simp)]; exact heap_alloc_new _ _
  · rw [show w.heap.size + 1 = (w.alloc (.cells #[.bool false, .string ByteArray.empty, .int .i64 0, .slice none 0 0, .slice none 0 0] 69)).heap.size by simp]
    exact heap_alloc_new _ _
set_option maxRecDepth 100000 in
set_option maxHeartbeats 4000000 in
theorem rs_word (b off n c : Nat) (x0 : ByteArray) (t : List ByteArray) (a : Option Addr) (m d : Nat) (w : World) (h : Strz w (some ⟨b, off, none⟩) (n + 1) (c + 1) (x0 :: t)) (h0 : (x0.toList == [108, 101, 102, 116]) = false) (h0' : (x0.toList == [114, 105, 103, 104, 116]) = false) :
    Calls Tryd.prog 33 #[.slice (some ⟨b, off, none⟩) (n + 1) (c + 1), .slice a m d] w fun e w' => Below w.heap.size w w' ∧ SvE e 3 := by
  obtain ⟨hn, hc, hm, hs, hh⟩ := h
  unfold maxLen at hm
  rcases hh with hz | ⟨b', off', e, hlt, hcell⟩
  · omega
  cases e
  have q0 : w.cell? ⟨b, off, none⟩ = some (.string x0) := hcell 0 (by omega)
  clear hcell hn hs
  obtain ⟨W, hW, hbW, hsW, hQ, hS⟩ := box5 (w := w) false
  have q1 := (hbW.cell (p := ⟨b, off, none⟩) hlt).trans q0
  have s0 := cell_in' hS 0
  have s1 := cell_in' hS 1
  have s2 := cell_in' hS 2
  have s3 := cell_in' hS 3
  have s4 := cell_in' hS 4
  have u0 := cell_in' hQ 0
  have u1 := cell_in' hQ 1
  have u2 := cell_in' hQ 2
  have u3 := cell_in' hQ 3
  have u4 := cell_in' hQ 4
  simp at s0 s1 s2 s3 s4 u0 u1 u2 u3 u4
  have HW := hide hW
  have HB := hide hbW
  have HQ := hide hQ
  clear hW hbW hQ hS
  go_enter Tryd.func33, Tryd.ntmps33
  go_wp2_with fail
  have hz : ((w.alloc (.cells #[.bool false, .string { data := #[] }, .int .i64 0, .slice none 0 0, .slice none 0 0] 69)).alloc (.cells #[.bool false, .string { data := #[] }, .int .i64 0, .slice none 0 0, .slice none 0 0] 69)) = W := unhide HW
  rw [hz]
  refine bodyPost_ret (results_row_tmp rfl _ _ _ w.heap.size _ rfl (run_loadVar_row _ w.heap.size 69 69 _ (0, 0) _ (unhide HQ) Tryd.underlying69 rfl (by show _ = some 5; kernel_rfl))) rfl ?_
  exact ⟨unhide HB, _, _, _, _, _, _, rfl⟩
--MAIN
set_option maxRecDepth 100000 in
set_option maxHeartbeats 4000000 in
theorem rsS_0 (b off c : Nat) (x0 : ByteArray) (a : Option Addr) (m d : Nat) (w : World) (h : Strz w (some ⟨b, off, none⟩) 1 (c + 1) [x0]) (h0 : (x0.toList == [108, 101, 102, 116]) = true) (_h0' : (x0.toList == [114, 105, 103, 104, 116]) = false) :
    Calls Tryd.prog 33 #[.slice (some ⟨b, off, none⟩) 1 (c + 1), .slice a m d] w fun e w' => Below w.heap.size w w' ∧ SvE e 4 := by
  obtain ⟨hn, hc, hm, hs, hh⟩ := h
  unfold maxLen at hm
  rcases hh with hz | ⟨b', off', e, hlt, hcell⟩
  · omega
  cases e
  have q0 : w.cell? ⟨b, off, none⟩ = some (.string x0) := hcell 0 (by omega)
  obtain ⟨W, hW, hbW, hsW, hQ, hS⟩ := box5 (w := w) true
  have hz : ((w.alloc (.cells #[.bool false, .string { data := #[] }, .int .i64 0, .slice none 0 0, .slice none 0 0] 69)).alloc (.cells #[.bool true, .string { data := #[] }, .int .i64 0, .slice none 0 0, .slice none 0 0] 69)) = W := hW
  have HZ := hide hz
  have HB := hide hbW
  have HQ := hide hQ
  clear hcell hn hs hz hW hbW hQ hS
  go_enter Tryd.func33, Tryd.ntmps33
  go_wp2_with fail
  refine bodyPost_ret (results_row_tmp rfl _ _ _ w.heap.size _ rfl (run_loadVar_row _ w.heap.size 69 69 _ (0, 0) _ (by rw [Below.heap_alloc _ _ _ (by simp)]; exact heap_alloc_new _ _) Tryd.underlying69 rfl (by show _ = some 5; kernel_rfl))) rfl ?_
  exact ⟨by go_grown, _, _, _, _, _, _, rfl⟩
set_option maxRecDepth 100000 in
set_option maxHeartbeats 4000000 in
theorem rsS_1 (b off c : Nat) (x0 : ByteArray) (a : Option Addr) (m d : Nat) (w : World) (h : Strz w (some ⟨b, off, none⟩) 1 (c + 1) [x0]) (h0 : (x0.toList == [108, 101, 102, 116]) = false) (h0' : (x0.toList == [114, 105, 103, 104, 116]) = true) :
    Calls Tryd.prog 33 #[.slice (some ⟨b, off, none⟩) 1 (c + 1), .slice a m d] w fun e w' => Below w.heap.size w w' ∧ SvE e 4 := by
  obtain ⟨hn, hc, hm, hs, hh⟩ := h
  unfold maxLen at hm
  rcases hh with hz | ⟨b', off', e, hlt, hcell⟩
  · omega
  cases e
  have q0 : w.cell? ⟨b, off, none⟩ = some (.string x0) := hcell 0 (by omega)
  obtain ⟨W, hW, hbW, hsW, hQ, hS⟩ := box5 (w := w) false
  have hz : ((w.alloc (.cells #[.bool false, .string { data := #[] }, .int .i64 0, .slice none 0 0, .slice none 0 0] 69)).alloc (.cells #[.bool false, .string { data := #[] }, .int .i64 0, .slice none 0 0, .slice none 0 0] 69)) = W := hW
  have HZ := hide hz
  have HB := hide hbW
  have HQ := hide hQ
  clear hcell hn hs hz hW hbW hQ hS
  go_enter Tryd.func33, Tryd.ntmps33
  go_wp2_with fail
  refine bodyPost_ret (results_row_tmp rfl _ _ _ w.heap.size _ rfl (run_loadVar_row _ w.heap.size 69 69 _ (0, 0) _ (by rw [Below.heap_alloc _ _ _ (by simp)]; exact heap_alloc_new _ _) Tryd.underlying69 rfl (by show _ = some 5; kernel_rfl))) rfl ?_
  exact ⟨by go_grown, _, _, _, _, _, _, rfl⟩
set_option maxRecDepth 100000 in
set_option maxHeartbeats 4000000 in
theorem rsN_0 (b off n c : Nat) (x0 x1 : ByteArray) (t : List ByteArray) (a : Option Addr) (m d : Nat) (w : World) (h : Strz w (some ⟨b, off, none⟩) (n + 2) (c + 2) (x0 :: x1 :: t)) (h0 : (x0.toList == [108, 101, 102, 116]) = true) (_h0' : (x0.toList == [114, 105, 103, 104, 116]) = false) (h1 : nameB x1 = false) :
    Calls Tryd.prog 33 #[.slice (some ⟨b, off, none⟩) (n + 2) (c + 2), .slice a m d] w fun e w' => Below w.heap.size w w' ∧ SvE e 3 := by
  obtain ⟨hn, hc, hm, hs, hh⟩ := h
  unfold maxLen at hm
  rcases hh with hz | ⟨b', off', e, hlt, hcell⟩
  · omega
  cases e
  have q0 : w.cell? ⟨b, off, none⟩ = some (.string x0) := hcell 0 (by omega)
  have q1 : w.cell? ⟨b, off + 1, none⟩ = some (.string x1) := hcell 1 (by omega)
  have hs1 : x1.size ≤ maxLen := hs x1 (by simp)
  obtain ⟨W, hW, hbW, hsW, hQ, hS⟩ := box5 (w := w) true
  have hz : ((w.alloc (.cells #[.bool false, .string { data := #[] }, .int .i64 0, .slice none 0 0, .slice none 0 0] 69)).alloc (.cells #[.bool true, .string { data := #[] }, .int .i64 0, .slice none 0 0, .slice none 0 0] 69)) = W := hW
  have HZ := hide hz
  have HB := hide hbW
  have HQ := hide hQ
  have s0 : W.cell? ⟨w.heap.size + 1, 0, none⟩ = some (.bool true) := (cell_in' hS 0).1
  have s1 : W.cell? ⟨w.heap.size + 1, 1, none⟩ = some (.string ByteArray.empty) := (cell_in' hS 1).1
  have s2 : W.cell? ⟨w.heap.size + 1, 2, none⟩ = some (.int .i64 0) := (cell_in' hS 2).1
  have s3 : W.cell? ⟨w.heap.size + 1, 3, none⟩ = some (.slice none 0 0) := (cell_in' hS 3).1
  have s4 : W.cell? ⟨w.heap.size + 1, 4, none⟩ = some (.slice none 0 0) := (cell_in' hS 4).1
  have u0 : W.cell? ⟨w.heap.size, 0, none⟩ = some (.bool false) := (cell_in' hQ 0).1
  have u1 : W.cell? ⟨w.heap.size, 1, none⟩ = some (.string ByteArray.empty) := (cell_in' hQ 1).1
  have u2 : W.cell? ⟨w.heap.size, 2, none⟩ = some (.int .i64 0) := (cell_in' hQ 2).1
  have u3 : W.cell? ⟨w.heap.size, 3, none⟩ = some (.slice none 0 0) := (cell_in' hQ 3).1
  have u4 : W.cell? ⟨w.heap.size, 4, none⟩ = some (.slice none 0 0) := (cell_in' hQ 4).1
  have f0 := (cell_in' hQ 0).2
  have f1 := (cell_in' hQ 1).2
  have f2 := (cell_in' hQ 2).2
  have f3 := (cell_in' hQ 3).2
  have f4 := (cell_in' hQ 4).2
  clear hcell hn hs hz hW hbW hQ hS
  go_enter Tryd.func33, Tryd.ntmps33
  go_wp2_with fail
  rw [unhide HZ]
  refine (named_any x1 W hs1).mono ?_
  rintro e w3 ⟨rfl, hw3⟩
  subst w3
  rw [h1]
  go_wp2_with fail
  refine bodyPost_ret (results_row_tmp rfl _ _ _ w.heap.size _ rfl (run_loadVar_row _ w.heap.size 69 69 _ (0, 0) _ (over5 (unhide HQ)) Tryd.underlying69 rfl (by show _ = some 5; kernel_rfl))) rfl ?_
  exact ⟨(((((unhide HB).setCell (p := ⟨w.heap.size, 0, none⟩) (Nat.le_refl _) _).setCell (p := ⟨w.heap.size, 1, none⟩) (Nat.le_refl _) _).setCell (p := ⟨w.heap.size, 2, none⟩) (Nat.le_refl _) _).setCell (p := ⟨w.heap.size, 3, none⟩) (Nat.le_refl _) _).setCell (p := ⟨w.heap.size, 4, none⟩) (Nat.le_refl _) _, _, _, _, _, _, _, rfl⟩
set_option maxRecDepth 100000 in
set_option maxHeartbeats 4000000 in
theorem rsN_1 (b off n c : Nat) (x0 x1 : ByteArray) (t : List ByteArray) (a : Option Addr) (m d : Nat) (w : World) (h : Strz w (some ⟨b, off, none⟩) (n + 2) (c + 2) (x0 :: x1 :: t)) (h0 : (x0.toList == [108, 101, 102, 116]) = false) (h0' : (x0.toList == [114, 105, 103, 104, 116]) = true) (h1 : nameB x1 = false) :
    Calls Tryd.prog 33 #[.slice (some ⟨b, off, none⟩) (n + 2) (c + 2), .slice a m d] w fun e w' => Below w.heap.size w w' ∧ SvE e 3 := by
  obtain ⟨hn, hc, hm, hs, hh⟩ := h
  unfold maxLen at hm
  rcases hh with hz | ⟨b', off', e, hlt, hcell⟩
  · omega
  cases e
  have q0 : w.cell? ⟨b, off, none⟩ = some (.string x0) := hcell 0 (by omega)
  have q1 : w.cell? ⟨b, off + 1, none⟩ = some (.string x1) := hcell 1 (by omega)
  have hs1 : x1.size ≤ maxLen := hs x1 (by simp)
  obtain ⟨W, hW, hbW, hsW, hQ, hS⟩ := box5 (w := w) false
  have hz : ((w.alloc (.cells #[.bool false, .string { data := #[] }, .int .i64 0, .slice none 0 0, .slice none 0 0] 69)).alloc (.cells #[.bool false, .string { data := #[] }, .int .i64 0, .slice none 0 0, .slice none 0 0] 69)) = W := hW
  have HZ := hide hz
  have HB := hide hbW
  have HQ := hide hQ
  have s0 : W.cell? ⟨w.heap.size + 1, 0, none⟩ = some (.bool false) := (cell_in' hS 0).1
  have s1 : W.cell? ⟨w.heap.size + 1, 1, none⟩ = some (.string ByteArray.empty) := (cell_in' hS 1).1
  have s2 : W.cell? ⟨w.heap.size + 1, 2, none⟩ = some (.int .i64 0) := (cell_in' hS 2).1
  have s3 : W.cell? ⟨w.heap.size + 1, 3, none⟩ = some (.slice none 0 0) := (cell_in' hS 3).1
  have s4 : W.cell? ⟨w.heap.size + 1, 4, none⟩ = some (.slice none 0 0) := (cell_in' hS 4).1
  have u0 : W.cell? ⟨w.heap.size, 0, none⟩ = some (.bool false) := (cell_in' hQ 0).1
  have u1 : W.cell? ⟨w.heap.size, 1, none⟩ = some (.string ByteArray.empty) := (cell_in' hQ 1).1
  have u2 : W.cell? ⟨w.heap.size, 2, none⟩ = some (.int .i64 0) := (cell_in' hQ 2).1
  have u3 : W.cell? ⟨w.heap.size, 3, none⟩ = some (.slice none 0 0) := (cell_in' hQ 3).1
  have u4 : W.cell? ⟨w.heap.size, 4, none⟩ = some (.slice none 0 0) := (cell_in' hQ 4).1
  have f0 := (cell_in' hQ 0).2
  have f1 := (cell_in' hQ 1).2
  have f2 := (cell_in' hQ 2).2
  have f3 := (cell_in' hQ 3).2
  have f4 := (cell_in' hQ 4).2
  clear hcell hn hs hz hW hbW hQ hS
  go_enter Tryd.func33, Tryd.ntmps33
  go_wp2_with fail
  rw [unhide HZ]
  refine (named_any x1 W hs1).mono ?_
  rintro e w3 ⟨rfl, hw3⟩
  subst w3
  rw [h1]
  go_wp2_with fail
  refine bodyPost_ret (results_row_tmp rfl _ _ _ w.heap.size _ rfl (run_loadVar_row _ w.heap.size 69 69 _ (0, 0) _ (over5 (unhide HQ)) Tryd.underlying69 rfl (by show _ = some 5; kernel_rfl))) rfl ?_
  exact ⟨(((((unhide HB).setCell (p := ⟨w.heap.size, 0, none⟩) (Nat.le_refl _) _).setCell (p := ⟨w.heap.size, 1, none⟩) (Nat.le_refl _) _).setCell (p := ⟨w.heap.size, 2, none⟩) (Nat.le_refl _) _).setCell (p := ⟨w.heap.size, 3, none⟩) (Nat.le_refl _) _).setCell (p := ⟨w.heap.size, 4, none⟩) (Nat.le_refl _) _, _, _, _, _, _, _, rfl⟩
end Go.Proofs.YtajdijjecojdhaaDoor
