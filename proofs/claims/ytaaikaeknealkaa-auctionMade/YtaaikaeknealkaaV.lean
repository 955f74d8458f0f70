import Derived.Test.YtaaikaeknealkaaR
import Derived.Test.YtaaikaeknealkaaD
namespace Go.Proofs.Ytaaikaeknealkaa
open Go.RowKit
set_option maxRecDepth 100000 in
set_option maxHeartbeats 4000000 in
theorem auctionShares_any (it : Int) (a : Option Addr) (n c : Nat) (L : List Sl) (w : World) (h : Lsts w a n c L) (hs' : ∀ s ∈ L, s.ln ≤ 140737488351232) (hn : n ≤ 140737488351232) :
    Calls Try.prog 3 #[bidV it a n c] w fun e w' => e = .returned (.bool true) ∧ Below w.heap.size w w' := by
  have hA : Below w.heap.size w (w.alloc (.cells #[.int .i64 it, .slice a n c] 24)) := by go_grown
  have hBx : (w.alloc (.cells #[.int .i64 it, .slice a n c] 24)).heap[w.heap.size]? = some (.cells #[.int .i64 it, .slice a n c] 24 (0, 0)) := heap_alloc_new _ _
  have hsz0 : (w.alloc (.cells #[.int .i64 it, .slice a n c] 24)).heap.size = w.heap.size + 1 := by simp
  have C6 := hide (heavy_any a n c L _ (h.later hA) hs' hn)
  have C7 := hide (fun W hW => share_any it a n c L W (h.later (w' := W) hW))
  have C8 := hide (fun W hW => setsMay_any it a n c L W (h.later (w' := W) hW))
  have C9 := hide (fun W hW => may_any it a n c L W (h.later (w' := W) hW))
  have C10 : Hid (∀ t : Nat, it = t → seE it L = 0 → ∀ W, Below w.heap.size w W → Calls Try.prog 10 #[bidV it a n c] W (SaleP n L (2 ^ t - 1) W)) := fun t e hz W hW => by subst e; exact saleR_any t a n c L W (h.later hW) hz
  have HZ := hide (fun (hz : seE it L = 0) => seE_zero hz)
  unfold bidV at *
  clear h hs'
  go_enter Try.func3, Try.ntmps3
  go_wp2_with fail
  generalize w.alloc (.cells #[.int .i64 it, .slice a n c] 24) = W0 at *
  have HX : Hid (∀ W, Below W0.heap.size W0 W → W.cell? ⟨w.heap.size, 0, none⟩ = some (.int .i64 it) ∧ W.cell? ⟨w.heap.size, 1, none⟩ = some (.slice a n c)) := fun W hW => ⟨(cell_in' ((hW.block w.heap.size (by omega)).trans hBx) 0).1, (cell_in' ((hW.block w.heap.size (by omega)).trans hBx) 1).1⟩
  obtain ⟨x0, x1⟩ := unhide HX W0 (Below.refl _ _)
  refine (unhide C6).mono ?_
  rintro e w2 ⟨hv, rfl, _, rfl⟩
  cases hv
  · go_wp2_with fail
    refine (unhide C7 _ hA).mono ?_
    rintro e w3 ⟨hb3, hSH⟩
    have hbA := hA.trans (hb3.mono hA.size)
    by_cases hz : seE it L = 0
    · obtain ⟨ht0, ht4, _⟩ := unhide HZ hz
      obtain ⟨t, ht⟩ : ∃ t : Nat, it = t := ⟨it.toNat, by omega⟩
      rcases hSH with ⟨hne, _⟩ | ⟨_, sa, sc, pa, pc, rfl, hIs, hIp⟩
      · exact absurd hz hne
      rw [ht, Int.toNat_natCast] at hIs hIp
      have C10 := hide (unhide C10 t ht hz)
      rw [hz] at C8 C9
      unfold saleV
      have hs1 := hIs.2.1
      have hs2 := hIs.2.2.1
      have hp1 := hIp.2.1
      have hp2 := hIp.2.2.1
      unfold maxLen at hs2 hp2
      have hb4 : Below w3.heap.size w3 (w3.alloc (.cells #[.slice sa n sc, .slice pa n pc] 28)) := by go_grown
      have hB3 : (w3.alloc (.cells #[.slice sa n sc, .slice pa n pc] 28)).heap[w3.heap.size]? = some (.cells #[.slice sa n sc, .slice pa n pc] 28 (0, 0)) := heap_alloc_new _ _
      have hsz3 : (w3.alloc (.cells #[.slice sa n sc, .slice pa n pc] 28)).heap.size = w3.heap.size + 1 := by simp
      have hbB := hbA.trans (hb4.mono hbA.size)
      have HIs := hide (hIs.later hb4)
      have HIp := hide (hIp.later hb4)
      obtain ⟨y0, y1⟩ := unhide HX w3 hb3
      have hlt3 : w.heap.size < w3.heap.size := by have := hb3.size; omega
      have hne3 : ¬ w.heap.size = w3.heap.size := by omega
      have hb03 := hb3.trans (hb4.mono hb3.size)
      clear hIs hIp hz ht
      go_wp2_with fail
      generalize w3.alloc (.cells #[.slice sa n sc, .slice pa n pc] 28) = W3 at *
      have HY : Hid (∀ W, Below W3.heap.size W3 W → W.cell? ⟨w3.heap.size, 0, none⟩ = some (.slice sa n sc) ∧ W.cell? ⟨w3.heap.size, 1, none⟩ = some (.slice pa n pc)) := fun W hW => ⟨(cell_in' ((hW.block w3.heap.size (by omega)).trans hB3) 0).1, (cell_in' ((hW.block w3.heap.size (by omega)).trans hB3) 1).1⟩
      have HX3 : Hid (∀ W, Below W3.heap.size W3 W → W.cell? ⟨w.heap.size, 0, none⟩ = some (.int .i64 it) ∧ W.cell? ⟨w.heap.size, 1, none⟩ = some (.slice a n c)) := fun W hW => unhide HX W (hb03.trans (hW.mono hb03.size))
      clear hB3 y0 y1
      refine (unhide C8 W3 hbB).mono ?_
      rintro e w4 ⟨rfl, hb5⟩
      have hbC := hbB.trans (hb5.mono hbB.size)
      obtain ⟨u0, u1⟩ := unhide HX3 w4 hb5
      go_wp2_with fail
      refine (unhide C9 w4 hbC).mono ?_
      rintro e w5 ⟨rfl, hb6⟩
      have hb35 := hb5.trans (hb6.mono hb5.size)
      have hbD := hbB.trans (hb35.mono hbB.size)
      obtain ⟨p0, p1⟩ := unhide HX3 w5 hb35
      go_wp2_with fail
      refine (unhide C10 w5 hbD).mono ?_
      rintro e w6 ⟨hb7, sa2, sc2, pa2, pc2, rfl, hIs2, hIp2⟩
      have hb36 := hb35.trans (hb7.mono hb35.size)
      have hbE := hbB.trans (hb36.mono hbB.size)
      unfold saleV
      have hb8 : Below w6.heap.size w6 (w6.alloc (.cells #[.slice sa2 n sc2, .slice pa2 n pc2] 28)) := by go_grown
      have hbF := hbE.trans (hb8.mono hbE.size)
      have hb37 := hb36.trans (hb8.mono hb36.size)
      obtain ⟨q0, q1⟩ := unhide HY _ hb37
      have CS := sameInts_any sa sa2 n sc n sc2 _ _ _ ((unhide HIs).later hb37) (hIs2.later hb8)
      rw [decide_eq_true rfl] at CS
      have CS := hide CS
      have HIp3 := hide ((unhide HIp).later hb37)
      have HIp4 := hide (hIp2.later hb8)
      have HW6 : Hid ((w6.alloc (.cells #[.slice sa2 n sc2, .slice pa2 n pc2] 28)).heap[w6.heap.size]? = some (.cells #[.slice sa2 n sc2, .slice pa2 n pc2] 28 (0, 0))) := heap_alloc_new _ _
      have hsz6 : w6.heap.size < (w6.alloc (.cells #[.slice sa2 n sc2, .slice pa2 n pc2] 28)).heap.size := by simp
      clear hIs2 hIp2
      have hlt6 : w3.heap.size < w6.heap.size := by have := hb36.size; omega
      have hne6 : ¬ w3.heap.size = w6.heap.size := by omega
      go_wp2_with fail
      refine (unhide CS).mono ?_
      rintro e w7 ⟨rfl, hb9⟩
      have hb38 := hb37.trans (hb9.mono hb37.size)
      obtain ⟨k0, k1⟩ := unhide HY w7 hb38
      have k2 := (cell_in' ((hb9.block w6.heap.size hsz6).trans (unhide HW6)) 1).1
      simp at k2
      have CP := sameInts_any pa pa2 n pc n pc2 _ _ w7 ((unhide HIp3).later hb9) ((unhide HIp4).later hb9)
      rw [decide_eq_true rfl] at CP
      have CP := hide CP
      have hbG := hbF.trans (hb9.mono hbF.size)
      go_wp2_with fail
      refine (unhide CP).mono ?_
      rintro e w8 ⟨rfl, hb10⟩
      go_wp2
      go_ret
      exact ⟨rfl, hbG.trans (hb10.mono hbG.size)⟩
    · rcases hSH with ⟨_, rfl⟩ | ⟨hz2, _⟩
      rotate_left
      · exact absurd hz2 hz
      have hz2 : (seE it L == 0) = false := by simpa using hz
      unfold saleV
      have hb4 : Below w3.heap.size w3 (w3.alloc (.cells #[.slice none 0 0, .slice none 0 0] 28)) := by go_grown
      have hB3 : (w3.alloc (.cells #[.slice none 0 0, .slice none 0 0] 28)).heap[w3.heap.size]? = some (.cells #[.slice none 0 0, .slice none 0 0] 28 (0, 0)) := heap_alloc_new _ _
      have hsz3 : (w3.alloc (.cells #[.slice none 0 0, .slice none 0 0] 28)).heap.size = w3.heap.size + 1 := by simp
      have hbB := hbA.trans (hb4.mono hbA.size)
      have hb03 := hb3.trans (hb4.mono hb3.size)
      obtain ⟨y0, y1⟩ := unhide HX w3 hb3
      have hlt3 : w.heap.size < w3.heap.size := by have := hb3.size; omega
      have hne3 : ¬ w.heap.size = w3.heap.size := by omega
      clear hz C10 HZ
      generalize seE it L = E at *
      go_wp2_with fail
      generalize w3.alloc (.cells #[.slice none 0 0, .slice none 0 0] 28) = W3 at *
      have HY : Hid (∀ W, Below W3.heap.size W3 W → W.cell? ⟨w3.heap.size, 0, none⟩ = some (.slice none 0 0) ∧ W.cell? ⟨w3.heap.size, 1, none⟩ = some (.slice none 0 0)) := fun W hW => ⟨(cell_in' ((hW.block w3.heap.size (by omega)).trans hB3) 0).1, (cell_in' ((hW.block w3.heap.size (by omega)).trans hB3) 1).1⟩
      have HX3 : Hid (∀ W, Below W3.heap.size W3 W → W.cell? ⟨w.heap.size, 0, none⟩ = some (.int .i64 it) ∧ W.cell? ⟨w.heap.size, 1, none⟩ = some (.slice a n c)) := fun W hW => unhide HX W (hb03.trans (hW.mono hb03.size))
      clear hB3 y0 y1
      refine (unhide C8 W3 hbB).mono ?_
      rintro e w4 ⟨rfl, hb5⟩
      have hbC := hbB.trans (hb5.mono hbB.size)
      obtain ⟨u0, u1⟩ := unhide HX3 w4 hb5
      go_wp2_with fail
      refine (unhide C9 w4 hbC).mono ?_
      rintro e w5 ⟨rfl, hb6⟩
      have hb35 := hb5.trans (hb6.mono hb5.size)
      have hbD := hbB.trans (hb35.mono hbB.size)
      obtain ⟨p0, p1⟩ := unhide HY w5 hb35
      go_wp2
      go_ret
      exact ⟨rfl, hbD⟩
  · go_wp2
    go_ret
    exact ⟨rfl, hA⟩
end Go.Proofs.Ytaaikaeknealkaa
