import Derived.Test.YtloandcndnmkhaaR
import Derived.Test.YtloandcndnmkhaaI
namespace Go.Proofs.Ytloandcndnmkhaa
open Go.RowKit
theorem Bals.cellAt {w : World} {a : Option Addr} {n c : Nat} {l : List Bal} (h : Bals w a n c l) (hn : 0 < n) : ∃ b off, a = some ⟨b, off, none⟩ ∧ b < w.heap.size ∧ ∀ j, j < n →
    w.cell? ⟨b, off + j * 2, none⟩ = some (.int .i64 (balAt l j).count) ∧ w.cell? ⟨b, off + j * 2 + 1, none⟩ = some (.slice (balAt l j).oa (balAt l j).on (balAt l j).oc) := by
  rcases h.2.2.2.2 with h0 | h0
  · omega
  · exact h0
set_option maxRecDepth 100000 in
set_option maxHeartbeats 2000000 in
theorem prefer_any (n : Nat) (a : Option Addr) (m c : Nat) (l : List Bal) (x y : Nat) (w : World) (h : Bals w a m c l) (hg : Good n l) :
    Calls Try.prog 59 #[.slice a m c, .int .i64 x, .int .i64 y] w fun e w' => e = .returned (.int .i64 (prf l l.length x y)) ∧ w' = w := by
  have h1 := h.2.1
  have h2 := h.2.2.1
  unfold maxLen at h2
  have hl30 := hg.2.2.1
  have HN := hide h.1
  have HH := hide h
  have HG := hide hg
  clear h hg
  go_enter Try.func59, Try.ntmps59
  go_wp2_with fail
  go_loop [8, 7, 9, 10] (fun i s _ _ => ∃ k : Nat, k ≤ m ∧ i = .int .i64 k ∧ s = .int .i64 (prf l k x y)) (fun i _ _ _ => m - (intOf i).toNat)
  case atStart => exact ⟨0, Nat.zero_le _, rfl, rfl⟩
  case round =>
    obtain ⟨k, hk, rfl, rfl⟩ := hrel
    by_cases hlt : k < m
    · obtain ⟨bA, oA, hA, hbA, hcell⟩ := (unhide HH).cellAt (by omega)
      subst hA
      obtain ⟨x1, x2⟩ := hcell k hlt
      have hlen : k < l.length := by have := unhide HN; omega
      have hIn := (unhide HH).at hlen
      have hc := ((unhide HG).2.2.2 k hlen).2
      have hpl := prf_le (unhide HG) x y k (by omega)
      have HPS : Hid (prf l (k + 1) x y = prf l k x y + (if idxFrom (balAt l k).order x 0 < idxFrom (balAt l k).order y 0 then (balAt l k).count else 0)) := rfl
      have C1 := hide (place_any (balAt l k).oa (balAt l k).on (balAt l k).oc (balAt l k).order x w hIn)
      have C2 := hide (place_any (balAt l k).oa (balAt l k).on (balAt l k).oc (balAt l k).order y w hIn)
      clear hIn hcell
      generalize prf l k x y = P at *
      generalize balAt l k = g at *
      obtain ⟨cn, oa, on, oc, od⟩ := g
      simp only at x1 x2 C1 C2 HPS hc
      generalize idxFrom od (x : Int) 0 = i1 at *
      generalize idxFrom od (y : Int) 0 = i2 at *
      by_cases hlt2 : i1 < i2
      · rw [if_pos hlt2] at HPS
        go_wp2_with fail
        refine (unhide C1).mono ?_
        rintro e w1 ⟨rfl, hw1⟩
        subst w1
        go_wp2_with fail
        refine (unhide C2).mono ?_
        rintro e w1 ⟨rfl, hw1⟩
        subst w1
        go_wp2_with fail
        exact ⟨⟨k + 1, by omega, by go_num, by first | (rw [unhide HPS]; done) | (rw [unhide HPS]; go_num)⟩, by simp [intOf]; omega⟩
      · rw [if_neg hlt2] at HPS
        go_wp2_with fail
        refine (unhide C1).mono ?_
        rintro e w1 ⟨rfl, hw1⟩
        subst w1
        go_wp2_with fail
        refine (unhide C2).mono ?_
        rintro e w1 ⟨rfl, hw1⟩
        subst w1
        go_wp2_with fail
        exact ⟨⟨k + 1, by omega, by go_num, by first | (rw [unhide HPS]; done) | (rw [unhide HPS]; go_num)⟩, by simp [intOf]; omega⟩
    · obtain rfl : m = k := by omega
      have hml := unhide HN
      have HP : Hid (prf l m x y = prf l l.length x y) := by rw [← hml]; rfl
      clear hml
      go_wp2_with fail
      go_ret
      exact ⟨ret_int (unhide HP), rfl⟩
theorem beatsR_any (n : Nat) (a : Option Addr) (m c : Nat) (l : List Bal) (x y : Nat) (w : World) (h : Bals w a m c l) (hg : Good n l) :
    Calls Try.prog 60 #[.slice a m c, .int .i64 x, .int .i64 y] w fun e w' => e = .returned (.bool (decide (prf l l.length y x < prf l l.length x y))) ∧ w' = w := by
  have C1 := hide (prefer_any n a m c l x y w h hg)
  have C2 := hide (prefer_any n a m c l y x w h hg)
  clear h hg
  generalize prf l l.length x y = p1 at *
  generalize prf l l.length y x = p2 at *
  go_enter Try.func60, Try.ntmps60
  go_wp2_with fail
  refine (unhide C1).mono ?_
  rintro e w1 ⟨rfl, hw1⟩
  subst w1
  go_wp2_with fail
  refine (unhide C2).mono ?_
  rintro e w1 ⟨rfl, hw1⟩
  subst w1
  go_wp2_with fail
  go_ret
  exact ⟨rfl, rfl⟩
end Go.Proofs.Ytloandcndnmkhaa
