import Derived.Test.YtodbnjainpjkcaaG
import Derived.Test.YtodbnjainpjkcaaH
import Derived.Deep.RegionHeld3
namespace Go.Proofs.Ytodbnjainpjkcaa
open Go.RowKit
set_option maxHeartbeats 400000 in
theorem count_any (a : Option Addr) (n c : Nat) (l : List Int) (r : Int) (w : World) (h : Ints w a n c l) :
    Calls Try.prog 34 #[.slice a n c, .int .i64 r] w fun e w' => e = .returned (.int .i64 (l.count r)) ∧ w' = w := by
  obtain ⟨hn, hc, hm, h⟩ := h
  unfold maxLen at hm
  rcases h with h0 | ⟨b, off, rfl, hb, hcell⟩
  · subst h0
    go_enter Try.func34, Try.ntmps34
    go_wp2
    refine wp_loop_rounds 1 ?_
    rw [rounds_succ]
    go_wp2
    go_ret
    have e : l = [] := List.length_eq_zero_iff.1 hn.symm
    exact ⟨ret_int (by rw [e]; rfl), rfl⟩
  · have HN : Hid (n = l.length) := hn
    clear hn
    go_enter Try.func34, Try.ntmps34
    go_wp2
    go_loop [10, 5, 7] (fun i v _ => ∃ k : Nat, k ≤ n ∧ i = .int .i64 k ∧ v = .int .i64 (cnt l r k)) (fun i _ _ => n - (intOf i).toNat)
    case atStart => exact ⟨0, Nat.zero_le _, rfl, by rw [cnt_zero]; rfl⟩
    case round =>
      obtain ⟨k, hk, rfl, rfl⟩ := hrel
      by_cases hlt : k < n
      · have hck := hcell k hlt
        have hle := cnt_le l r k
        by_cases he : l[k]?.getD 0 = r
        · have HC := hide (cnt_yes (by have := HN.out; omega) he)
          go_wp2
          refine ⟨⟨k+1, by omega, by go_num, by rw [unhide HC]; go_num⟩, by simp [intOf]; omega⟩
        · have HC := hide (cnt_no (r := r) (by have := HN.out; omega) he)
          have he' : (l[k]?.getD 0 == r) = false := by simpa using he
          clear he
          go_wp2
          refine ⟨⟨k+1, by omega, by go_num, by rw [unhide HC]⟩, by simp [intOf]; omega⟩
      · go_wp2
        go_ret
        exact ⟨ret_int (by have e : k = l.length := by have := HN.out; omega
                           rw [e, cnt_len]), rfl⟩
theorem grief_any (nm : ByteArray) (room : Int) (a : Option Addr) (n c : Nat) (l : List Int) (k : Int) (w : World) (h : Ints w a n c l) (hs : n ≤ 500) :
    Calls Try.prog 57 #[.agg #[.string nm, .int .i64 room, .slice a n c], .int .i64 k] w fun e w' => e = .returned (.int .i64 (griefI l k)) ∧ Below w.heap.size w w' := by
  have hn := hide h.1
  have hm := h.2.2.1
  have hc := h.2.1
  unfold maxLen at hm
  have hbw : Below w.heap.size w (w.alloc (.cells #[.string nm, .int .i64 room, .slice a n c] 37)) := by go_grown
  by_cases h1 : k = -1
  · subst h1
    go_enter Try.func57, Try.ntmps57
    go_wp2
    go_ret
    exact ⟨ret_int (by unfold griefI; rw [if_pos rfl, ← unhide hn]), hbw⟩
  have g1 : (k == -1) = false := by simpa using h1
  by_cases h2 : 0 ≤ idxFrom l k 0
  · have HG := hide (grief_in h1 h2)
    clear h1
    go_enter Try.func57, Try.ntmps57
    go_wp2_with (go_at_call 55; refine (rank_any nm room a n c l k _ (h.later hbw)).mono ?_; rintro e w1 ⟨rfl, hb1⟩)
    go_ret
    exact ⟨ret_int (by rw [unhide HG]), hbw.trans (hb1.mono hbw.size)⟩
  · have HG : Hid (griefI l k = n + 1) := by have := unhide hn; show griefI l k = _; unfold griefI; rw [if_neg h1, if_neg h2, ← this]
    have h2' : decide (0 ≤ idxFrom l k 0) = false := by simpa using h2
    clear h1
    go_enter Try.func57, Try.ntmps57
    go_wp2_with (go_at_call 55; refine (rank_any nm room a n c l k _ (h.later hbw)).mono ?_; rintro e w1 ⟨rfl, hb1⟩; have q2 := hb1.cell (p := ⟨w.heap.size, 2, none⟩) (by simp))
    go_ret
    exact ⟨ret_int (by rw [unhide HG]), hbw.trans (hb1.mono hbw.size)⟩
set_option maxRecDepth 100000 in
theorem rather_any (nm : ByteArray) (room : Int) (a : Option Addr) (n c : Nat) (l : List Int) (x y : Int) (w : World) (h : Ints w a n c l) (hs : n ≤ 500) :
    Calls Try.prog 35 #[.agg #[.string nm, .int .i64 room, .slice a n c], .int .i64 x, .int .i64 y] w fun e w' => e = .returned (.bool (ratherB l x y)) ∧ Below w.heap.size w w' := by
  obtain ⟨wA, hwA⟩ : ∃ y, y = w.alloc (.cells #[.string nm, .int .i64 room, .slice a n c] 37) := ⟨_, rfl⟩
  have hbA : Below w.heap.size w wA := by rw [hwA]; go_grown
  have a0 : wA.cell? ⟨w.heap.size, 0, none⟩ = some (.string nm) := by rw [hwA]; simp
  have a1 : wA.cell? ⟨w.heap.size, 1, none⟩ = some (.int .i64 room) := by rw [hwA]; simp
  have a2 : wA.cell? ⟨w.heap.size, 2, none⟩ = some (.slice a n c) := by rw [hwA]; simp
  have HCL : Hid (∀ W, Below wA.heap.size wA W → (Below wA.heap.size wA W ∧ W.cell? ⟨w.heap.size, 0, none⟩ = some (.string nm) ∧ W.cell? ⟨w.heap.size, 1, none⟩ = some (.int .i64 room) ∧ W.cell? ⟨w.heap.size, 2, none⟩ = some (.slice a n c))) := fun W hb => ⟨hb, (hb.cell (p := ⟨w.heap.size, 0, none⟩) (World.block_lt_of_cell? wA _ a0)).trans a0, (hb.cell (p := ⟨w.heap.size, 1, none⟩) (World.block_lt_of_cell? wA _ a1)).trans a1, (hb.cell (p := ⟨w.heap.size, 2, none⟩) (World.block_lt_of_cell? wA _ a2)).trans a2⟩
  have KP : Hid (∀ W W' : World, (Below wA.heap.size wA W ∧ W.cell? ⟨w.heap.size, 0, none⟩ = some (.string nm) ∧ W.cell? ⟨w.heap.size, 1, none⟩ = some (.int .i64 room) ∧ W.cell? ⟨w.heap.size, 2, none⟩ = some (.slice a n c)) → Below W.heap.size W W' → (Below wA.heap.size wA W' ∧ W'.cell? ⟨w.heap.size, 0, none⟩ = some (.string nm) ∧ W'.cell? ⟨w.heap.size, 1, none⟩ = some (.int .i64 room) ∧ W'.cell? ⟨w.heap.size, 2, none⟩ = some (.slice a n c))) := fun W W' h hb => unhide HCL W' (h.1.trans (hb.mono h.1.size))
  have IW : Hid (∀ W, (Below wA.heap.size wA W ∧ W.cell? ⟨w.heap.size, 0, none⟩ = some (.string nm) ∧ W.cell? ⟨w.heap.size, 1, none⟩ = some (.int .i64 room) ∧ W.cell? ⟨w.heap.size, 2, none⟩ = some (.slice a n c)) → Ints W a n c l) := fun W h' => h.later (hbA.trans (h'.1.mono hbA.size))
  have HW := hide hwA
  clear hwA
  go_enter Try.func35, Try.ntmps35
  go_wp2_with fail
  rw [← unhide HW]
  go_region_held3 (fun W => (Below wA.heap.size wA W ∧ W.cell? ⟨w.heap.size, 0, none⟩ = some (.string nm) ∧ W.cell? ⟨w.heap.size, 1, none⟩ = some (.int .i64 room) ∧ W.cell? ⟨w.heap.size, 2, none⟩ = some (.slice a n c)))
    (first | exact unhide HCL _ (Below.refl _ _).drew | exact unhide HCL _ (Below.refl _ _) | assumption | exact unhide KP _ _ (by assumption) hbn)
    (first | (go_at_call 57; refine (grief_any nm room a n c l _ _ (unhide IW _ (by assumption)) hs).mono ?_; rintro e wn ⟨rfl, hbn⟩))
  all_goals
    go_wp2
    go_ret
    exact ⟨rfl, hbA.trans (‹Below wA.heap.size wA _ ∧ _›.1.mono hbA.size)⟩
theorem Ags.at {w : World} {a : Option Addr} {n c : Nat} {l : List Ag} (h : Ags w a n c l) {k : Nat} (hk : k < n) :
    ∃ b off, a = some ⟨b, off, none⟩ ∧ b < w.heap.size ∧ w.cell? ⟨b, off + k * 3, none⟩ = some (.string (agAt l k).name) ∧ w.cell? ⟨b, off + k * 3 + 1, none⟩ = some (.int .i64 (agAt l k).room) ∧
    w.cell? ⟨b, off + k * 3 + 2, none⟩ = some (.slice (agAt l k).la (agAt l k).ln (agAt l k).lc) := by
  obtain ⟨_, _, _, _, h0 | ⟨b, off, rfl, hb, hcell⟩⟩ := h
  · omega
  · exact ⟨b, off, rfl, hb, hcell k hk⟩
set_option maxRecDepth 100000 in
set_option maxHeartbeats 1000000 in
theorem like_any (aL : Option Addr) (nL cL : Nat) (lL : List Ag) (aR : Option Addr) (nR cR : Nat) (lR : List Ag) (l r : Nat) (w : World) (hL : Ags w aL nL cL lL) (hR : Ags w aR nR cR lR) (hl : l < nL) (hr : r < nR) :
    Calls Try.prog 41 #[.agg #[.slice aL nL cL, .slice aR nR cR], .int .i64 l, .int .i64 r] w fun e w' => e = .returned (.bool (likeB lL lR l r)) ∧ Below w.heap.size w w' := by
  have hcL := hL.2.2.1
  have hcR := hR.2.2.1
  have hnL := hL.2.1
  have hnR := hR.2.1
  unfold maxLen at hcL hcR
  obtain ⟨bL, oL, rfl, hbL, p1, p2, p3⟩ := hL.at hl
  obtain ⟨bR, oR, rfl, hbR, q1, q2, q3⟩ := hR.at hr
  have hIL := (hL.mem hl).1
  have hIR := (hR.mem hr).1
  have HB := hide (show likeB lL lR l r = (decide (0 ≤ idxFrom (agAt lL l).likes r 0) && decide (0 ≤ idxFrom (agAt lR r).likes l 0)) from rfl)
  generalize agAt lL l = G at *
  obtain ⟨nm, room, la, ln, lc, likes⟩ := G
  generalize agAt lR r = G at *
  obtain ⟨nm', room', la', ln', lc', likes'⟩ := G
  simp only at p1 p2 p3 q1 q2 q3 hIL hIR HB
  obtain ⟨wA, hwA⟩ : ∃ y, y = w.alloc (.cells #[.slice (some ⟨bL, oL, none⟩) nL cL, .slice (some ⟨bR, oR, none⟩) nR cR] 26) := ⟨_, rfl⟩
  have hbA : Below w.heap.size w wA := by rw [hwA]; go_grown
  have a0 : wA.cell? ⟨w.heap.size, 0, none⟩ = some (.slice (some ⟨bL, oL, none⟩) nL cL) := by rw [hwA]; simp
  have a1 : wA.cell? ⟨w.heap.size, 1, none⟩ = some (.slice (some ⟨bR, oR, none⟩) nR cR) := by rw [hwA]; simp
  have p1' := (hbA.cell (p := ⟨bL, oL + l * 3, none⟩) hbL).trans p1
  have p2' := (hbA.cell (p := ⟨bL, oL + l * 3 + 1, none⟩) hbL).trans p2
  have p3' := (hbA.cell (p := ⟨bL, oL + l * 3 + 2, none⟩) hbL).trans p3
  have hIA := hIL.later hbA
  have HW := hide hwA
  clear hwA
  by_cases h1 : 0 ≤ idxFrom likes r 0
  · have HB2 : Hid (likeB lL lR l r = decide (0 ≤ idxFrom likes' l 0)) := by have := unhide HB; rw [decide_eq_true h1, Bool.true_and] at this; exact this
    have g1 : decide (0 ≤ idxFrom likes r 0) = true := decide_eq_true h1
    clear h1 p1' p2' p3'
    go_enter Try.func41, Try.ntmps41
    go_wp2_with (first | (go_at_call 55; rw [← unhide HW]; refine (rank_any nm room la ln lc likes r wA hIA).mono ?_; rintro e w1 ⟨rfl, hb1⟩; have hb1w := hbA.trans (hb1.mono hbA.size); have e1 := (hb1.cell (p := ⟨w.heap.size, 1, none⟩) (World.block_lt_of_cell? wA _ a1)).trans a1; have r1 := (hb1w.cell (p := ⟨bR, oR + r * 3, none⟩) hbR).trans q1; have r2 := (hb1w.cell (p := ⟨bR, oR + r * 3 + 1, none⟩) hbR).trans q2; have r3 := (hb1w.cell (p := ⟨bR, oR + r * 3 + 2, none⟩) hbR).trans q3; clear a0 a1 q1 q2 q3 p1 p2 p3; have hIB := hIR.later hb1w) | (go_at_call 55; refine (rank_any nm' room' la' ln' lc' likes' l w1 hIB).mono ?_; rintro e w2 ⟨rfl, hb2⟩))
    go_ret
    exact ⟨ret_bool (unhide HB2).symm, hb1w.trans (hb2.mono hb1w.size)⟩
  · have HB2 : Hid (likeB lL lR l r = false) := by have := unhide HB; rw [decide_eq_false h1, Bool.false_and] at this; exact this
    have g1 : decide (0 ≤ idxFrom likes r 0) = false := decide_eq_false h1
    clear h1 p1' p2' p3'
    go_enter Try.func41, Try.ntmps41
    go_wp2_with (go_at_call 55; rw [← unhide HW]; refine (rank_any nm room la ln lc likes r wA hIA).mono ?_; rintro e w1 ⟨rfl, hb1⟩; have hb1w := hbA.trans (hb1.mono hbA.size))
    go_ret
    exact ⟨ret_bool (unhide HB2).symm, hb1w⟩
end Go.Proofs.Ytodbnjainpjkcaa
