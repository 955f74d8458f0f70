import Derived.Test.YtodbnjainpjkcaaI
namespace Go.Proofs.Ytodbnjainpjkcaa
open Go.RowKit
theorem worst_step_no {likes w : List Int} {r : Int} {k : Nat} (e : ¬ w[k]?.getD 0 = r) : worstTo likes w r (k + 1) = worstTo likes w r k := by
  rw [worstTo, worstStep, if_neg (fun h => e h.1)]
theorem worst_step_first {likes w : List Int} {r : Int} {k : Nat} (e : w[k]?.getD 0 = r) (h : worstTo likes w r k = -1) : worstTo likes w r (k + 1) = k := by
  rw [worstTo, worstStep, if_pos ⟨e, Or.inl h⟩]
theorem worst_step_yes {likes w : List Int} {r : Int} {k : Nat} (e : w[k]?.getD 0 = r) (h : idxFrom likes (worstTo likes w r k) 0 < idxFrom likes k 0) : worstTo likes w r (k + 1) = k := by
  rw [worstTo, worstStep, if_pos ⟨e, Or.inr h⟩]
theorem worst_step_stay {likes w : List Int} {r : Int} {k : Nat} (h1 : ¬ worstTo likes w r k = -1) (h : ¬ idxFrom likes (worstTo likes w r k) 0 < idxFrom likes k 0) : worstTo likes w r (k + 1) = worstTo likes w r k := by
  rw [worstTo, worstStep, if_neg (fun g => g.2.elim h1 h)]
set_option maxRecDepth 100000 in
set_option maxHeartbeats 2000000 in
theorem worst_any (nm : ByteArray) (room : Int) (a : Option Addr) (n c : Nat) (l : List Int) (aw : Option Addr) (nw cw : Nat) (ws : List Int) (r : Int) (w : World) (h : Ints w a n c l) (hw : Ints w aw nw cw ws) :
    Calls Try.prog 56 #[.agg #[.string nm, .int .i64 room, .slice a n c], .slice aw nw cw, .int .i64 r] w fun e w' => e = .returned (.int .i64 (worstTo l ws r ws.length)) ∧ Below w.heap.size w w' := by
  obtain ⟨wA, hwA⟩ : ∃ y, y = w.alloc (.cells #[.string nm, .int .i64 room, .slice a n c] 37) := ⟨_, rfl⟩
  have hbA : Below w.heap.size w wA := by rw [hwA]; go_grown
  have a0 : wA.cell? ⟨w.heap.size, 0, none⟩ = some (.string nm) := by rw [hwA]; simp
  have a1 : wA.cell? ⟨w.heap.size, 1, none⟩ = some (.int .i64 room) := by rw [hwA]; simp
  have a2 : wA.cell? ⟨w.heap.size, 2, none⟩ = some (.slice a n c) := by rw [hwA]; simp
  obtain ⟨hn, hc, hm, hrow⟩ := hw
  unfold maxLen at hm
  have HN := hide hn
  clear hn
  have HW := hide hwA
  clear hwA
  rcases hrow with h0 | ⟨b, off, rfl, hb, hcell⟩
  · subst h0
    go_enter Try.func56, Try.ntmps56
    go_wp2_with fail
    refine wp_loop_rounds 1 ?_
    rw [rounds_succ]
    go_wp2
    go_ret
    exact ⟨ret_int (by rw [← unhide HN]; rfl), by rw [← unhide HW]; exact hbA⟩
  · go_enter Try.func56, Try.ntmps56
    go_wp2_with fail
    rw [← unhide HW]
    go_loopw [12, 7, 8, 9] (fun i v _ _ wr => Below wA.heap.size wA wr ∧ ∃ k : Nat, k ≤ nw ∧ i = .int .i64 k ∧ v = .int .i64 (worstTo l ws r k)) (fun i _ _ _ _ => nw - (intOf i).toNat)
    case atStart => exact ⟨Below.refl _ _, 0, Nat.zero_le _, rfl, rfl⟩
    case round =>
      obtain ⟨hbr, k, hk, rfl, rfl⟩ := hrel
      have hbwr : Below w.heap.size w wr := hbA.trans (hbr.mono hbA.size)
      by_cases hlt : k < nw
      · have hck : wr.cell? ⟨b, off + k, none⟩ = some (.int .i64 (ws[k]?.getD 0)) := (hbwr.cell (p := ⟨b, off + k, none⟩) hb).trans (hcell k hlt)
        have c0 := (hbr.cell (p := ⟨w.heap.size, 0, none⟩) (World.block_lt_of_cell? wA _ a0)).trans a0
        have c1 := (hbr.cell (p := ⟨w.heap.size, 1, none⟩) (World.block_lt_of_cell? wA _ a1)).trans a1
        have c2 := (hbr.cell (p := ⟨w.heap.size, 2, none⟩) (World.block_lt_of_cell? wA _ a2)).trans a2
        by_cases he : ws[k]?.getD 0 = r
        · have ge : (ws[k]?.getD 0 == r) = true := by simpa using he
          by_cases hv : worstTo l ws r k = -1
          · have HS := hide (worst_step_first he hv)
            have gv : (worstTo l ws r k == -1) = true := by simpa using hv
            clear he hv
            go_wp2_with fail
            go_quiet (fail)
            go_wp2
            go_roundw
            case rel => exact ⟨hbr.trans ((below_drewN _ _ _).mono (Nat.le_refl _)), k+1, by omega, by go_num, by rw [unhide HS]⟩
            case measure => simp [intOf]; omega
          · have gv : (worstTo l ws r k == -1) = false := by simpa using hv
            have HCL : Hid (∀ W, Below wr.heap.size wr W → (Below wr.heap.size wr W ∧ W.cell? ⟨w.heap.size, 0, none⟩ = some (.string nm) ∧ W.cell? ⟨w.heap.size, 1, none⟩ = some (.int .i64 room) ∧ W.cell? ⟨w.heap.size, 2, none⟩ = some (.slice a n c))) := fun W hb => ⟨hb, (hb.cell (p := ⟨w.heap.size, 0, none⟩) (World.block_lt_of_cell? wr _ c0)).trans c0, (hb.cell (p := ⟨w.heap.size, 1, none⟩) (World.block_lt_of_cell? wr _ c1)).trans c1, (hb.cell (p := ⟨w.heap.size, 2, none⟩) (World.block_lt_of_cell? wr _ c2)).trans c2⟩
            have KP : Hid (∀ W W' : World, (Below wr.heap.size wr W ∧ W.cell? ⟨w.heap.size, 0, none⟩ = some (.string nm) ∧ W.cell? ⟨w.heap.size, 1, none⟩ = some (.int .i64 room) ∧ W.cell? ⟨w.heap.size, 2, none⟩ = some (.slice a n c)) → Below W.heap.size W W' → (Below wr.heap.size wr W' ∧ W'.cell? ⟨w.heap.size, 0, none⟩ = some (.string nm) ∧ W'.cell? ⟨w.heap.size, 1, none⟩ = some (.int .i64 room) ∧ W'.cell? ⟨w.heap.size, 2, none⟩ = some (.slice a n c))) := fun W W' h hb => unhide HCL W' (h.1.trans (hb.mono h.1.size))
            have IW : Hid (∀ W, (Below wr.heap.size wr W ∧ W.cell? ⟨w.heap.size, 0, none⟩ = some (.string nm) ∧ W.cell? ⟨w.heap.size, 1, none⟩ = some (.int .i64 room) ∧ W.cell? ⟨w.heap.size, 2, none⟩ = some (.slice a n c)) → Ints W a n c l) := fun W h' => h.later (hbwr.trans (h'.1.mono hbwr.size))
            by_cases hi : idxFrom l (worstTo l ws r k) 0 < idxFrom l k 0
            · have HS := hide (worst_step_yes he hi)
              have gi : decide (idxFrom l (worstTo l ws r k) 0 < idxFrom l k 0) = true := decide_eq_true hi
              clear he hv hi
              go_wp2_with fail
              go_region_held3 (fun W => (Below wr.heap.size wr W ∧ W.cell? ⟨w.heap.size, 0, none⟩ = some (.string nm) ∧ W.cell? ⟨w.heap.size, 1, none⟩ = some (.int .i64 room) ∧ W.cell? ⟨w.heap.size, 2, none⟩ = some (.slice a n c)))
                (first | exact unhide HCL _ (Below.refl _ _).drew | exact unhide HCL _ (Below.refl _ _) | assumption | exact unhide KP _ _ (by assumption) hbn)
                (first | (go_at_call 55; refine (rank_any nm room a n c l _ _ (unhide IW _ (by assumption))).mono ?_; rintro e wn ⟨rfl, hbn⟩))
              all_goals
                have hbz := hbr.trans (‹Below wr.heap.size wr _ ∧ _›.1.mono hbr.size)
                go_wp2
                go_roundw
                case rel => exact ⟨hbz, k+1, by omega, by go_num, by rw [unhide HS]⟩
                case measure => simp [intOf]; omega
            · have HS := hide (worst_step_stay hv hi)
              have gi : decide (idxFrom l (worstTo l ws r k) 0 < idxFrom l k 0) = false := decide_eq_false hi
              clear he hv hi
              go_wp2_with fail
              go_region_held3 (fun W => (Below wr.heap.size wr W ∧ W.cell? ⟨w.heap.size, 0, none⟩ = some (.string nm) ∧ W.cell? ⟨w.heap.size, 1, none⟩ = some (.int .i64 room) ∧ W.cell? ⟨w.heap.size, 2, none⟩ = some (.slice a n c)))
                (first | exact unhide HCL _ (Below.refl _ _).drew | exact unhide HCL _ (Below.refl _ _) | assumption | exact unhide KP _ _ (by assumption) hbn)
                (first | (go_at_call 55; refine (rank_any nm room a n c l _ _ (unhide IW _ (by assumption))).mono ?_; rintro e wn ⟨rfl, hbn⟩))
              all_goals
                have hbz := hbr.trans (‹Below wr.heap.size wr _ ∧ _›.1.mono hbr.size)
                go_wp2
                go_roundw
                case rel => exact ⟨hbz, k+1, by omega, by go_num, by rw [unhide HS]⟩
                case measure => simp [intOf]; omega
        · have HS := hide (worst_step_no (likes := l) he)
          have ge : (ws[k]?.getD 0 == r) = false := by simpa using he
          clear he
          go_wp2_with fail
          go_quiet (fail)
          go_wp2
          go_roundw
          case rel => exact ⟨hbr.trans ((below_drewN _ _ _).mono (Nat.le_refl _)), k+1, by omega, by go_num, by rw [unhide HS]⟩
          case measure => simp [intOf]; omega
      · go_wp2
        go_ret
        exact ⟨ret_int (by rw [show k = ws.length by have := unhide HN; omega]), hbwr⟩
set_option maxRecDepth 100000 in
set_option maxHeartbeats 2000000 in
theorem wants_any (nm : ByteArray) (room : Int) (a : Option Addr) (n c : Nat) (l : List Int) (aw : Option Addr) (nw cw : Nat) (ws : List Int) (x r : Int) (w : World) (h : Ints w a n c l) (hs : n ≤ 500) (hw : Ints w aw nw cw ws) :
    Calls Try.prog 58 #[.agg #[.string nm, .int .i64 room, .slice a n c], .slice aw nw cw, .int .i64 x, .int .i64 r] w fun e w' => e = .returned (.bool (wantsB l room ws x r)) ∧ Below w.heap.size w w' := by
  obtain ⟨wA, hwA⟩ : ∃ y, y = w.alloc (.cells #[.string nm, .int .i64 room, .slice a n c] 37) := ⟨_, rfl⟩
  have hbA : Below w.heap.size w wA := by rw [hwA]; go_grown
  have a0 : wA.cell? ⟨w.heap.size, 0, none⟩ = some (.string nm) := by rw [hwA]; simp
  have a1 : wA.cell? ⟨w.heap.size, 1, none⟩ = some (.int .i64 room) := by rw [hwA]; simp
  have a2 : wA.cell? ⟨w.heap.size, 2, none⟩ = some (.slice a n c) := by rw [hwA]; simp
  have HCL : Hid (∀ W, Below wA.heap.size wA W → (Below wA.heap.size wA W ∧ W.cell? ⟨w.heap.size, 0, none⟩ = some (.string nm) ∧ W.cell? ⟨w.heap.size, 1, none⟩ = some (.int .i64 room) ∧ W.cell? ⟨w.heap.size, 2, none⟩ = some (.slice a n c))) := fun W hb => ⟨hb, (hb.cell (p := ⟨w.heap.size, 0, none⟩) (World.block_lt_of_cell? wA _ a0)).trans a0, (hb.cell (p := ⟨w.heap.size, 1, none⟩) (World.block_lt_of_cell? wA _ a1)).trans a1, (hb.cell (p := ⟨w.heap.size, 2, none⟩) (World.block_lt_of_cell? wA _ a2)).trans a2⟩
  have KP : Hid (∀ W W' : World, (Below wA.heap.size wA W ∧ W.cell? ⟨w.heap.size, 0, none⟩ = some (.string nm) ∧ W.cell? ⟨w.heap.size, 1, none⟩ = some (.int .i64 room) ∧ W.cell? ⟨w.heap.size, 2, none⟩ = some (.slice a n c)) → Below W.heap.size W W' → (Below wA.heap.size wA W' ∧ W'.cell? ⟨w.heap.size, 0, none⟩ = some (.string nm) ∧ W'.cell? ⟨w.heap.size, 1, none⟩ = some (.int .i64 room) ∧ W'.cell? ⟨w.heap.size, 2, none⟩ = some (.slice a n c))) := fun W W' h hb => unhide HCL W' (h.1.trans (hb.mono h.1.size))
  have IW : Hid (∀ W, (Below wA.heap.size wA W ∧ W.cell? ⟨w.heap.size, 0, none⟩ = some (.string nm) ∧ W.cell? ⟨w.heap.size, 1, none⟩ = some (.int .i64 room) ∧ W.cell? ⟨w.heap.size, 2, none⟩ = some (.slice a n c)) → Ints W a n c l) := fun W h' => h.later (hbA.trans (h'.1.mono hbA.size))
  have WW : Hid (∀ W, (Below wA.heap.size wA W ∧ W.cell? ⟨w.heap.size, 0, none⟩ = some (.string nm) ∧ W.cell? ⟨w.heap.size, 1, none⟩ = some (.int .i64 room) ∧ W.cell? ⟨w.heap.size, 2, none⟩ = some (.slice a n c)) → Ints W aw nw cw ws) := fun W h' => hw.later (hbA.trans (h'.1.mono hbA.size))
  have HW := hide hwA
  clear hwA
  by_cases hq : (ws.count r : Int) < room
  · have HQ : Hid (wantsB l room ws x r = true) := by unfold wantsB; rw [decide_eq_true hq, Bool.true_or]; exact rfl
    have gq : decide ((ws.count r : Int) < room) = true := decide_eq_true hq
    clear hq
    go_enter Try.func58, Try.ntmps58
    go_wp2_with fail
    rw [← unhide HW]
    have hwA' := hw.later hbA
    go_quiet ((go_at_call 34; exact Calls.quiet_of_same (count_any aw nw cw ws r _ hwA')))
    go_wp2
    go_ret
    exact ⟨ret_bool (by rw [unhide HQ]), hbA.trans (below_drewN _ _ _)⟩
  · have HQ : Hid (wantsB l room ws x r = ratherB l x (worstTo l ws r ws.length)) := by unfold wantsB; rw [decide_eq_false hq, Bool.false_or]; exact rfl
    have gq : decide ((ws.count r : Int) < room) = false := decide_eq_false hq
    clear hq
    go_enter Try.func58, Try.ntmps58
    go_wp2_with fail
    rw [← unhide HW]
    go_region_held3 (fun W => (Below wA.heap.size wA W ∧ W.cell? ⟨w.heap.size, 0, none⟩ = some (.string nm) ∧ W.cell? ⟨w.heap.size, 1, none⟩ = some (.int .i64 room) ∧ W.cell? ⟨w.heap.size, 2, none⟩ = some (.slice a n c)))
      (first | exact unhide HCL _ (Below.refl _ _).drew | exact unhide HCL _ (Below.refl _ _) | assumption | exact unhide KP _ _ (by assumption) hbn)
      (first | (go_at_call 34; refine (count_any aw nw cw ws r _ (unhide WW _ (by assumption))).mono ?_; rintro e wn ⟨rfl, rfl⟩) | (go_at_call 56; refine (worst_any nm room a n c l aw nw cw ws r _ (unhide IW _ (by assumption)) (unhide WW _ (by assumption))).mono ?_; rintro e wn ⟨rfl, hbn⟩) | (go_at_call 35; refine (rather_any nm room a n c l _ _ _ (unhide IW _ (by assumption)) hs).mono ?_; rintro e wn ⟨rfl, hbn⟩))
    all_goals
      go_wp2
      go_ret
      exact ⟨ret_bool (by rw [unhide HQ]), hbA.trans (‹Below wA.heap.size wA _ ∧ _›.1.mono hbA.size)⟩
end Go.Proofs.Ytodbnjainpjkcaa
