import Derived.Test.YtihmbfapbkddeaaW
import Derived.Test.YtihmbfapbkddeaaY
namespace Go.Proofs.Ytihmbfapbkddeaa
open Go.RowKit
theorem al_some {W : World} {a : Addr} {v : Value} (o : Obj) (h : W.cell? a = some v) : (W.alloc o).cell? a = some v := (World.cell?_alloc_some W a o (by rw [h]; rfl)).trans h
theorem al_new (W : World) (v : Value) (t : Nat) (n : Nat) (h : n = W.heap.size) : (W.alloc (.cells #[v] t)).cell? ⟨n, 0, none⟩ = some v ∧ (W.alloc (.cells #[v] t)).frozen? ⟨n, 0, none⟩ = false := by subst h; exact ⟨by simp, by simp⟩
set_option maxRecDepth 100000 in
set_option maxHeartbeats 8000000 in
theorem better_any (n : Nat) (wa : Option Addr) (wc : Nat) (WL : List Sl) (ga : Option Addr) (gc : Nat) (gt : List Int) (set : Nat) (hn6 : n ≤ 6) (hs64 : set < 64)
    (hr : ∀ i, ∀ x ∈ lisA WL i, 0 ≤ x ∧ x < n) (hg : ∀ k, k < n → gt[k]?.getD 0 ∈ lisA WL k) (w : World) (hW : Lsts w wa n wc WL) (hG : Ints w ga n gc gt) :
    Calls Try.prog 30 #[.slice wa n wc, .slice ga n gc, .int .i64 set] w fun e w' => e = .returned (.bool (dealL (lisA WL) gt (whoL set n) set false)) ∧ Below w.heap.size w w' := by
  have C := hide (fun W (hb : Below w.heap.size w W) (hB : DB W w.heap.size wa n wc set ga n gc) => deal_any n wa wc WL ga gc gt w.heap.size set hn6 hs64 hr hg n 0 0 set false W (by omega) (by omega) rfl hs64 hB (hW.later hb) (hG.later hb))
  have HW := hide hW
  have HG := hide hG
  clear hW hG hr hg
  go_enter Try.func30, Try.ntmps30
  go_wp2_with fail
  obtain ⟨w4, hw4⟩ : ∃ y, y = (((w.alloc (.cells #[.slice wa n wc] 22)).alloc (.cells #[.slice ga n gc] 23)).alloc (.cells #[.int .i64 set] 3)).alloc (.cells #[.nilFunc] 59) := ⟨_, rfl⟩
  have hb4 : Below w.heap.size w w4 := by rw [hw4]; go_grown
  have d0 : w4.cell? ⟨w.heap.size, 0, none⟩ = some (.slice wa n wc) := by rw [hw4]; exact al_some _ (al_some _ (al_some _ (al_new w _ _ _ rfl).1))
  have d1 : w4.cell? ⟨w.heap.size + 1, 0, none⟩ = some (.slice ga n gc) := by rw [hw4]; simp [World.cell?_alloc_past, World.cell?_alloc_at]
  have d2 : w4.cell? ⟨w.heap.size + 1 + 1, 0, none⟩ = some (.int .i64 set) := by rw [hw4]; simp [World.cell?_alloc_past, World.cell?_alloc_at]
  have cs4 : w4.cell? ⟨w.heap.size + 1 + 1 + 1, 0, none⟩ = some .nilFunc := by rw [hw4]; simp [World.cell?_alloc_at]
  have fs4 : w4.frozen? ⟨w.heap.size + 1 + 1 + 1, 0, none⟩ = false := by rw [hw4]; exact (al_new _ _ _ _ (by simp)).2
  rw [← hw4]
  clear hw4
  rw [run_store _ _ _ _ _ (by rfl), cs4]
  simp only [fs4]
  rw [if_neg (by decide)]
  simp only [Result.andThen_ok]
  have hb5 : Below w.heap.size w (w4.setCell ⟨w.heap.size + 1 + 1 + 1, 0, none⟩ (.func (.func 44) #[] #[.pointer (some ⟨w.heap.size, 0, none⟩), .pointer (some ⟨w.heap.size + 1 + 1, 0, none⟩), .pointer (some ⟨w.heap.size + 1 + 1 + 1, 0, none⟩), .pointer (some ⟨w.heap.size + 1, 0, none⟩)])) := hb4.setCell (by show _ ≤ w.heap.size + 1 + 1 + 1; omega) _
  have e0 : (w4.setCell ⟨w.heap.size + 1 + 1 + 1, 0, none⟩ (.func (.func 44) #[] #[.pointer (some ⟨w.heap.size, 0, none⟩), .pointer (some ⟨w.heap.size + 1 + 1, 0, none⟩), .pointer (some ⟨w.heap.size + 1 + 1 + 1, 0, none⟩), .pointer (some ⟨w.heap.size + 1, 0, none⟩)])).cell? ⟨w.heap.size, 0, none⟩ = some (.slice wa n wc) := by rw [World.cell?_setCell_far _ _ _ _ (by show w.heap.size + 1 + 1 + 1 ≠ w.heap.size; omega)]; exact d0
  have e1 : (w4.setCell ⟨w.heap.size + 1 + 1 + 1, 0, none⟩ (.func (.func 44) #[] #[.pointer (some ⟨w.heap.size, 0, none⟩), .pointer (some ⟨w.heap.size + 1 + 1, 0, none⟩), .pointer (some ⟨w.heap.size + 1 + 1 + 1, 0, none⟩), .pointer (some ⟨w.heap.size + 1, 0, none⟩)])).cell? ⟨w.heap.size + 1, 0, none⟩ = some (.slice ga n gc) := by rw [World.cell?_setCell_far _ _ _ _ (by show w.heap.size + 1 + 1 + 1 ≠ w.heap.size + 1; omega)]; exact d1
  have e2 : (w4.setCell ⟨w.heap.size + 1 + 1 + 1, 0, none⟩ (.func (.func 44) #[] #[.pointer (some ⟨w.heap.size, 0, none⟩), .pointer (some ⟨w.heap.size + 1 + 1, 0, none⟩), .pointer (some ⟨w.heap.size + 1 + 1 + 1, 0, none⟩), .pointer (some ⟨w.heap.size + 1, 0, none⟩)])).cell? ⟨w.heap.size + 1 + 1, 0, none⟩ = some (.int .i64 set) := by rw [World.cell?_setCell_far _ _ _ _ (by show w.heap.size + 1 + 1 + 1 ≠ w.heap.size + 1 + 1; omega)]; exact d2
  have e3 : (w4.setCell ⟨w.heap.size + 1 + 1 + 1, 0, none⟩ (.func (.func 44) #[] #[.pointer (some ⟨w.heap.size, 0, none⟩), .pointer (some ⟨w.heap.size + 1 + 1, 0, none⟩), .pointer (some ⟨w.heap.size + 1 + 1 + 1, 0, none⟩), .pointer (some ⟨w.heap.size + 1, 0, none⟩)])).cell? ⟨w.heap.size + 1 + 1 + 1, 0, none⟩ = some (.func (.func 44) #[] #[.pointer (some ⟨w.heap.size, 0, none⟩), .pointer (some ⟨w.heap.size + 1 + 1, 0, none⟩), .pointer (some ⟨w.heap.size + 1 + 1 + 1, 0, none⟩), .pointer (some ⟨w.heap.size + 1, 0, none⟩)]) := World.cell?_setCell_same' _ _ _ (by rw [cs4]; rfl)
  generalize w4.setCell ⟨w.heap.size + 1 + 1 + 1, 0, none⟩ (.func (.func 44) #[] #[.pointer (some ⟨w.heap.size, 0, none⟩), .pointer (some ⟨w.heap.size + 1 + 1, 0, none⟩), .pointer (some ⟨w.heap.size + 1 + 1 + 1, 0, none⟩), .pointer (some ⟨w.heap.size + 1, 0, none⟩)]) = w5 at *
  have HC := hide (unhide C w5 hb5 ⟨e0, e1, e2, e3⟩)
  clear C d0 d1 d2 cs4 fs4 e0 e1 hb4
  go_wp2_with fail
  refine (unhide HC).mono ?_
  rintro e w6 ⟨rfl, hb6⟩
  go_wp2
  go_ret
  rw [who_zero]
  exact ⟨rfl, hb5.trans (hb6.mono hb5.size)⟩
end Go.Proofs.Ytihmbfapbkddeaa
