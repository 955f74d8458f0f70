import Derived.Test.YtodbnjainpjkcaaN
namespace Go.Proofs.Ytodbnjainpjkcaa
open Go.RowKit
set_option maxRecDepth 100000 in
set_option maxHeartbeats 2000000 in
theorem withMay_any (aL : Option Addr) (nL cL : Nat) (lL : List Ag) (aR : Option Addr) (nR cR : Nat) (lR : List Ag) (aw : Option Addr) (nw cw : Nat) (ws : List Int) (w : World) (hL : Ags w aL nL cL lL) (hR : Ags w aR nR cR lR) (hw : Ints w aw nw cw ws) (hs : nw ≤ 1000) :
    Calls Try.prog 62 #[.agg #[.slice aL nL cL, .slice aR nR cR], .slice aw nw cw] w fun e w' => e = .returned (.int .i64 (withE lL lR ws)) ∧ Below w.heap.size w w' := by
  have hlL := hide hL.1
  have hlR := hide hR.1
  have hcL := hL.2.2.1
  have hcR := hR.2.2.1
  have hnL := hL.2.1
  have hnR := hR.2.1
  unfold maxLen at hcL hcR
  have hnw := hide hw.1
  have hcw := hw.2.1
  have hmw := hw.2.2.1
  unfold maxLen at hmw
  obtain ⟨wA, hwA⟩ : ∃ y, y = w.alloc (.cells #[.slice aL nL cL, .slice aR nR cR] 26) := ⟨_, rfl⟩
  have hbA : Below w.heap.size w wA := by rw [hwA]; go_grown
  have p0a : wA.cell? ⟨w.heap.size, 0, none⟩ = some (.slice aL nL cL) := by rw [hwA]; simp
  have p1a : wA.cell? ⟨w.heap.size, 1, none⟩ = some (.slice aR nR cR) := by rw [hwA]; simp
  have HW := hide hwA
  clear hwA
  by_cases hz : matchE lL lR = 0
  · have HE0 := hide (show withE lL lR ws = mayBeE lL lR ws by unfold withE; rw [if_pos hz])
    by_cases hln : nw = nL
    · have HE : Hid (withE lL lR ws = outE (firstFrom (outP nR ws) nw 0) (overE (firstFrom (overP lR ws) nR 0))) := by
        show withE lL lR ws = _
        rw [unhide HE0]
        unfold mayBeE
        rw [if_pos (by have := unhide hnw; have := unhide hlL; omega), ← unhide hnw, ← unhide hlR]
      clear HE0
      subst hln
      go_enter Try.func62, Try.ntmps62
      go_wp2_with (go_at_call 46; rw [← unhide HW]; refine (mmayD_any aL nw cL lL aR nR cR lR wA (hL.later hbA) (hR.later hbA)).mono ?_; rintro e w1 ⟨rfl, hb1⟩; rw [hz]; have p0e := (hb1.cell (p := ⟨w.heap.size, 0, none⟩) (World.block_lt_of_cell? wA _ p0a)).trans p0a; have p1e := (hb1.cell (p := ⟨w.heap.size, 1, none⟩) (World.block_lt_of_cell? wA _ p1a)).trans p1a; have hb1w := hbA.trans (hb1.mono hbA.size); clear p0a p1a)
      go_loopw [6] (fun i wr => Below w1.heap.size w1 wr ∧ ∃ k : Nat, k ≤ nw ∧ i = .int .i64 k ∧ firstFrom (outP nR ws) nw 0 = firstFrom (outP nR ws) nw k) (fun i _ => nw - (intOf i).toNat)
      case atStart => exact ⟨Below.refl _ _, 0, Nat.zero_le _, rfl, rfl⟩
      case round =>
        obtain ⟨hbr, k, hk, rfl, hn⟩ := hrel
        have HI := hide hn
        clear hn
        have hbwr : Below w.heap.size w wr := hb1w.trans (hbr.mono hb1w.size)
        have p0r := (hbr.cell (p := ⟨w.heap.size, 0, none⟩) (World.block_lt_of_cell? w1 _ p0e)).trans p0e
        have p1r := (hbr.cell (p := ⟨w.heap.size, 1, none⟩) (World.block_lt_of_cell? w1 _ p1e)).trans p1e
        by_cases hlt : k < nw
        · obtain ⟨b, off, rfl, hb, hcell⟩ := hw.cellAt (by omega)
          have hck : wr.cell? ⟨b, off + k, none⟩ = some (.int .i64 (ws[k]?.getD 0)) := (hbwr.cell (p := ⟨b, off + k, none⟩) hb).trans (hcell k hlt)
          by_cases c1 : ws[k]?.getD 0 < -1
          · have HY := hide (firstFrom_yes (P := outP nR ws) hlt (by unfold outP; rw [decide_eq_true c1, Bool.true_or]))
            have d1 : decide (ws[k]?.getD 0 < -1) = true := decide_eq_true c1
            clear c1
            go_wp2_with fail
            go_quiet (fail)
            go_wp2
            go_ret
            exact ⟨ret_int (by rw [unhide HE, unhide HI, unhide HY]; rfl), hbwr.trans (below_drewN _ _ _)⟩
          · by_cases c2 : (nR : Int) ≤ ws[k]?.getD 0
            · have HY := hide (firstFrom_yes (P := outP nR ws) hlt (by unfold outP; rw [decide_eq_true c2, Bool.or_true]))
              have d1 : decide (ws[k]?.getD 0 < -1) = false := decide_eq_false c1
              have d2 : decide ((nR : Int) ≤ ws[k]?.getD 0) = true := decide_eq_true c2
              clear c1 c2
              go_wp2_with fail
              go_quiet (fail)
              go_wp2
              go_ret
              exact ⟨ret_int (by rw [unhide HE, unhide HI, unhide HY]; rfl), hbwr.trans (below_drewN _ _ _)⟩
            · have HY := hide (firstFrom_no (P := outP nR ws) hlt (by unfold outP; rw [decide_eq_false c1, decide_eq_false c2]; rfl))
              have d1 : decide (ws[k]?.getD 0 < -1) = false := decide_eq_false c1
              have d2 : decide ((nR : Int) ≤ ws[k]?.getD 0) = false := decide_eq_false c2
              clear c1 c2
              go_wp2_with fail
              go_quiet (fail)
              go_wp2
              go_roundw
              case rel => exact ⟨hbr.trans (below_drewN _ _ _), k+1, by omega, by go_num, by rw [unhide HI, unhide HY]⟩
              case measure => simp [intOf]; omega
        · have HO := hide (show firstFrom (outP nR ws) nw 0 = none by rw [unhide HI, firstFrom_end (by omega)])
          clear HI
          go_wp2_with fail
          go_loopw [7] (fun i wq => Below wr.heap.size wr wq ∧ ∃ k : Nat, k ≤ nR ∧ i = .int .i64 k ∧ firstFrom (overP lR ws) nR 0 = firstFrom (overP lR ws) nR k) (fun i _ => nR - (intOf i).toNat)
          case atStart => exact ⟨Below.refl _ _, 0, Nat.zero_le _, rfl, rfl⟩
          case round =>
            rename World => wq
            obtain ⟨hbq, r, hk, rfl, hn⟩ := hrel
            have HI := hide hn
            clear hn
            have hbwq : Below w.heap.size w wq := hbwr.trans (hbq.mono hbwr.size)
            have p0q := (hbq.cell (p := ⟨w.heap.size, 0, none⟩) (World.block_lt_of_cell? wr _ p0r)).trans p0r
            have p1q := (hbq.cell (p := ⟨w.heap.size, 1, none⟩) (World.block_lt_of_cell? wr _ p1r)).trans p1r
            by_cases hrt : r < nR
            · obtain ⟨b, off, rfl, hb, q1, q2, q3⟩ := (hR.later hbwq).at hrt
              have hgl : (goesTo ws r nw).length = ws.count (r : Int) := by rw [goes_len ws r nw (by have := unhide hnw; omega), show nw = ws.length from unhide hnw, cnt_len]
              have HGL := hide hgl
              have hgl2 : (goesTo ws r nw).length ≤ 1000 := by rw [goes_len ws r nw (by have := unhide hnw; omega)]; have := cnt_le ws r nw; omega
              clear hgl
              by_cases hp : overP lR ws r = true
              · have HY := hide (firstFrom_yes (P := overP lR ws) hrt hp)
                have hp' : (agAt lR r).room < ((goesTo ws r nw).length : Int) := by rw [unhide HGL]; exact of_decide_eq_true hp
                clear hp
                generalize agAt lR r = G at *
                obtain ⟨nm, room, la, ln, lc, likes⟩ := G
                simp only at q1 q2 q3 hp'
                have hp2 : decide (room < ((goesTo ws r nw).length : Int)) = true := decide_eq_true hp'
                clear hp'
                go_wp2_with (go_at_call 16; refine (goes_any aw nw cw ws r _ (hw.later hbwq) hs).mono ?_; rintro e w2 ⟨v, rfl, hown, hb2⟩; obtain ⟨ga, gc, rfl, hG, _⟩ := Ints.of_owns hown hgl2; have p0s := (hb2.cell (p := ⟨w.heap.size, 0, none⟩) (World.block_lt_of_cell? wq _ p0q)).trans p0q; have p1s := (hb2.cell (p := ⟨w.heap.size, 1, none⟩) (World.block_lt_of_cell? wq _ p1q)).trans p1q; have s2 := (hb2.cell (p := ⟨b, off + r * 3 + 1, none⟩) hb).trans q2; clear p0q p1q q1 q2 q3; generalize (goesTo ws r nw).length = GL at *)
                go_ret
                exact ⟨ret_int (by rw [unhide HE, unhide HO, unhide HI, unhide HY]; rfl), hbwq.trans (hb2.mono hbwq.size)⟩
              · have hpf : overP lR ws r = false := by simpa using hp
                have HY := hide (firstFrom_no (P := overP lR ws) hrt hpf)
                have hp' : ¬ (agAt lR r).room < ((goesTo ws r nw).length : Int) := by rw [unhide HGL]; exact of_decide_eq_false hpf
                clear hp hpf
                generalize agAt lR r = G at *
                obtain ⟨nm, room, la, ln, lc, likes⟩ := G
                simp only at q1 q2 q3 hp'
                have hp2 : decide (room < ((goesTo ws r nw).length : Int)) = false := decide_eq_false hp'
                clear hp'
                go_wp2_with (go_at_call 16; refine (goes_any aw nw cw ws r _ (hw.later hbwq) hs).mono ?_; rintro e w2 ⟨v, rfl, hown, hb2⟩; obtain ⟨ga, gc, rfl, hG, _⟩ := Ints.of_owns hown hgl2; have p0s := (hb2.cell (p := ⟨w.heap.size, 0, none⟩) (World.block_lt_of_cell? wq _ p0q)).trans p0q; have p1s := (hb2.cell (p := ⟨w.heap.size, 1, none⟩) (World.block_lt_of_cell? wq _ p1q)).trans p1q; have s2 := (hb2.cell (p := ⟨b, off + r * 3 + 1, none⟩) hb).trans q2; clear p0q p1q q1 q2 q3; generalize (goesTo ws r nw).length = GL at *)
                go_roundw
                case rel => exact ⟨hbq.trans (hb2.mono hbq.size), r+1, by omega, by go_num, by rw [unhide HI, unhide HY]⟩
                case measure => simp [intOf]; omega
            · go_wp2
              go_ret
              exact ⟨ret_int (by rw [unhide HE, unhide HO, unhide HI, firstFrom_end (by omega)]; rfl), hbwq⟩
    · have HE : Hid (withE lL lR ws = 7) := by
        show withE lL lR ws = _
        rw [unhide HE0]
        unfold mayBeE
        rw [if_neg (by have := unhide hnw; have := unhide hlL; omega)]
      have g1 : ((nw : Int) != (nL : Int)) = true := by simp; omega
      clear hln
      go_enter Try.func62, Try.ntmps62
      go_wp2_with (go_at_call 46; rw [← unhide HW]; refine (mmayD_any aL nL cL lL aR nR cR lR wA (hL.later hbA) (hR.later hbA)).mono ?_; rintro e w1 ⟨rfl, hb1⟩; rw [hz]; have p0e := (hb1.cell (p := ⟨w.heap.size, 0, none⟩) (World.block_lt_of_cell? wA _ p0a)).trans p0a; have p1e := (hb1.cell (p := ⟨w.heap.size, 1, none⟩) (World.block_lt_of_cell? wA _ p1a)).trans p1a; have hb1w := hbA.trans (hb1.mono hbA.size); clear p0a p1a)
      go_ret
      exact ⟨ret_int (unhide HE).symm, hb1w⟩
  · have HE : Hid (withE lL lR ws = matchE lL lR) := by show withE lL lR ws = _; unfold withE; rw [if_neg hz]
    have hzb : (matchE lL lR != 0) = true := by simpa using hz
    clear hz
    go_enter Try.func62, Try.ntmps62
    go_wp2_with (go_at_call 46; rw [← unhide HW]; refine (mmayD_any aL nL cL lL aR nR cR lR wA (hL.later hbA) (hR.later hbA)).mono ?_; rintro e w1 ⟨rfl, hb1⟩)
    go_ret
    exact ⟨ret_int (unhide HE).symm, hbA.trans (hb1.mono hbA.size)⟩
theorem would_no1 {lL lR : List Ag} {w : List Int} {l r : Nat} (h : likeB lL lR l r = false ∨ w[l]?.getD 0 = r) : wouldB lL lR w l r = false := by
  unfold wouldB
  rw [if_pos h]
theorem would_no2 {lL lR : List Ag} {w : List Int} {l r : Nat} (h : ¬ (likeB lL lR l r = false ∨ w[l]?.getD 0 = r)) (h2 : 0 ≤ w[l]?.getD 0 ∧ idxFrom (agAt lL l).likes (w[l]?.getD 0) 0 < idxFrom (agAt lL l).likes r 0) : wouldB lL lR w l r = false := by
  unfold wouldB
  rw [if_neg h, if_pos h2]
theorem would_rest {lL lR : List Ag} {w : List Int} {l r : Nat} (h : ¬ (likeB lL lR l r = false ∨ w[l]?.getD 0 = r)) (h2 : ¬ (0 ≤ w[l]?.getD 0 ∧ idxFrom (agAt lL l).likes (w[l]?.getD 0) 0 < idxFrom (agAt lL l).likes r 0)) : wouldB lL lR w l r =
    if ((goesTo w r w.length).length : Int) < (agAt lR r).room then true
    else (firstFrom (fun i => decide (idxFrom (agAt lR r).likes l 0 < idxFrom (agAt lR r).likes ((goesTo w r w.length)[i]?.getD 0) 0)) (goesTo w r w.length).length 0).isSome := by
  unfold wouldB
  rw [if_neg h, if_neg h2]
theorem goes_at (a : Option Addr) (n c : Nat) (l : List Int) (r : Int) (w : World) (h : Ints w a n c l) (hs : n ≤ 1000) (GS : List Int) (GL : Nat) (hGS : Hid (GS = goesTo l r n)) (hGL : Hid (GL = GS.length)) :
    Calls Try.prog 16 #[.slice a n c, .int .i64 r] w fun e w' => ∃ ga gc, e = .returned (.slice ga GL gc) ∧ Ints w' ga GL gc GS ∧ Below w.heap.size w w' := by
  have h1 : GS = goesTo l r n := hGS
  have h2 : GL = GS.length := hGL
  subst h1 h2
  refine (goes_any a n c l r w h hs).mono ?_
  rintro e w3 ⟨v, rfl, hown, hb3⟩
  obtain ⟨ga, gc, rfl, hG, _⟩ := Ints.of_owns hown (by rw [goes_len l r n (by have := h.1; omega)]; have := cnt_le l r n; omega)
  exact ⟨ga, gc, rfl, hG, hb3⟩
def hasWorse (likes gs : List Int) (l : Int) (i : Nat) : Bool := decide (idxFrom likes l 0 < idxFrom likes (gs[i]?.getD 0) 0)
set_option maxRecDepth 100000 in
set_option maxHeartbeats 4000000 in
theorem would_any (aL : Option Addr) (nL cL : Nat) (lL : List Ag) (aR : Option Addr) (nR cR : Nat) (lR : List Ag) (aw : Option Addr) (nw cw : Nat) (ws : List Int) (l r : Nat) (w : World) (hL : Ags w aL nL cL lL) (hR : Ags w aR nR cR lR) (hw : Ints w aw nw cw ws) (hs : nw ≤ 1000) (hl : l < nL) (hlw : l < nw) (hr : r < nR) :
    Calls Try.prog 75 #[.agg #[.slice aL nL cL, .slice aR nR cR], .slice aw nw cw, .int .i64 l, .int .i64 r] w fun e w' => e = .returned (.bool (wouldB lL lR ws l r)) ∧ Below w.heap.size w w' := by
  have hlL := hide hL.1
  have hlR := hide hR.1
  have hcL := hL.2.2.1
  have hcR := hR.2.2.1
  have hnL := hL.2.1
  have hnR := hR.2.1
  unfold maxLen at hcL hcR
  have hnw := hide hw.1
  have hcw := hw.2.1
  have hmw := hw.2.2.1
  unfold maxLen at hmw
  obtain ⟨wA, hwA⟩ : ∃ y, y = w.alloc (.cells #[.slice aL nL cL, .slice aR nR cR] 26) := ⟨_, rfl⟩
  have hbA : Below w.heap.size w wA := by rw [hwA]; go_grown
  have p0a : wA.cell? ⟨w.heap.size, 0, none⟩ = some (.slice aL nL cL) := by rw [hwA]; simp
  have p1a : wA.cell? ⟨w.heap.size, 1, none⟩ = some (.slice aR nR cR) := by rw [hwA]; simp
  have HW := hide hwA
  clear hwA
  obtain ⟨bw, ow, rfl, hbw, hcellw⟩ := hw.cellAt (by omega)
  have X0 := hcellw l hlw
  clear hcellw
  obtain ⟨bL, oL, rfl, hbL, z1, z2, z3⟩ := hL.at hl
  have hIL := (hL.mem hl).1
  have HN1 := hide (@would_no1 lL lR ws l r)
  have HN2 := hide (@would_no2 lL lR ws l r)
  have HN3 := hide (@would_rest lL lR ws l r)
  generalize agAt lL l = G at *
  obtain ⟨nm, room, la, ln, lc, likes⟩ := G
  simp only at z1 z2 z3 hIL HN1 HN2 HN3
  generalize ws[l]?.getD 0 = x at *
  cases hk1 : likeB lL lR l r with
  | false =>
    have HF := hide (unhide HN1 (Or.inl hk1))
    go_enter Try.func75, Try.ntmps75
    go_wp2_with (go_at_call 61; rw [← unhide HW]; refine (likes_any _ nL cL lL _ nR cR lR l r wA (hL.later hbA) (hR.later hbA) hl hr).mono ?_; rintro e w1 ⟨rfl, hb1⟩; rw [hk1]; have hbw1 := hbA.trans (hb1.mono hbA.size); have p0e := (hb1.cell (p := ⟨w.heap.size, 0, none⟩) (World.block_lt_of_cell? wA _ p0a)).trans p0a; have p1e := (hb1.cell (p := ⟨w.heap.size, 1, none⟩) (World.block_lt_of_cell? wA _ p1a)).trans p1a; have X1 := (hbw1.cell (p := ⟨bw, ow + l, none⟩) hbw).trans X0; have y3 := (hbw1.cell (p := ⟨bL, oL + l * 3 + 2, none⟩) hbL).trans z3; have hIl := hIL.later hbw1; clear p0a p1a X0 z1 z2 z3)
    go_ret
    exact ⟨ret_bool (unhide HF).symm, hbw1⟩
  | true =>
  by_cases hx : x = r
  · have HF := hide (unhide HN1 (Or.inr hx))
    have hxb : (x == (r : Int)) = true := by simpa using hx
    clear hx
    go_enter Try.func75, Try.ntmps75
    go_wp2_with (go_at_call 61; rw [← unhide HW]; refine (likes_any _ nL cL lL _ nR cR lR l r wA (hL.later hbA) (hR.later hbA) hl hr).mono ?_; rintro e w1 ⟨rfl, hb1⟩; rw [hk1]; have hbw1 := hbA.trans (hb1.mono hbA.size); have p0e := (hb1.cell (p := ⟨w.heap.size, 0, none⟩) (World.block_lt_of_cell? wA _ p0a)).trans p0a; have p1e := (hb1.cell (p := ⟨w.heap.size, 1, none⟩) (World.block_lt_of_cell? wA _ p1a)).trans p1a; have X1 := (hbw1.cell (p := ⟨bw, ow + l, none⟩) hbw).trans X0; have y3 := (hbw1.cell (p := ⟨bL, oL + l * 3 + 2, none⟩) hbL).trans z3; have hIl := hIL.later hbw1; clear p0a p1a X0 z1 z2 z3)
    go_ret
    exact ⟨ret_bool (unhide HF).symm, hbw1⟩
  have hxb : (x == (r : Int)) = false := by simpa using hx
  have hne : ¬ (likeB lL lR l r = false ∨ x = r) := by rintro (h | h); rw [hk1] at h; cases h; exact hx h
  have HNE := hide hne
  clear hne hx
  by_cases h0 : 0 ≤ x
  · by_cases h1 : idxFrom likes x 0 < idxFrom likes r 0
    · have HF := hide (unhide HN2 (unhide HNE) ⟨h0, h1⟩)
      have d1 : decide (idxFrom likes x 0 < idxFrom likes r 0) = true := decide_eq_true h1
      have d0 : decide (0 ≤ x) = true := decide_eq_true h0
      clear h1 h0
      go_enter Try.func75, Try.ntmps75
      go_wp2_with (go_at_call 61; rw [← unhide HW]; refine (likes_any _ nL cL lL _ nR cR lR l r wA (hL.later hbA) (hR.later hbA) hl hr).mono ?_; rintro e w1 ⟨rfl, hb1⟩; rw [hk1]; have hbw1 := hbA.trans (hb1.mono hbA.size); have p0e := (hb1.cell (p := ⟨w.heap.size, 0, none⟩) (World.block_lt_of_cell? wA _ p0a)).trans p0a; have p1e := (hb1.cell (p := ⟨w.heap.size, 1, none⟩) (World.block_lt_of_cell? wA _ p1a)).trans p1a; have X1 := (hbw1.cell (p := ⟨bw, ow + l, none⟩) hbw).trans X0; have y3 := (hbw1.cell (p := ⟨bL, oL + l * 3 + 2, none⟩) hbL).trans z3; have hIl := hIL.later hbw1; clear p0a p1a X0 z1 z2 z3)
      go_quiet ((go_at_call 23; exact Calls.quiet_of_same (place_any la ln lc likes _ _ hIl)))
      go_wp2_with (go_at_call 23; refine (place_any la ln lc likes _ (w1.drewN nq) hIl).mono ?_; rintro e w4 ⟨rfl, hw4⟩; subst w4)
      go_ret
      exact ⟨ret_bool (unhide HF).symm, hbw1.trans (below_drewN _ _ _)⟩
    · have hrest := unhide HN3 (unhide HNE) (fun h => h1 h.2)
      have d1 : decide (idxFrom likes x 0 < idxFrom likes r 0) = false := decide_eq_false h1
      have d0 : decide (0 ≤ x) = true := decide_eq_true h0
      clear h1 h0
      have HRT := hide hrest
      clear hrest
      go_enter Try.func75, Try.ntmps75
      go_wp2_with (go_at_call 61; rw [← unhide HW]; refine (likes_any _ nL cL lL _ nR cR lR l r wA (hL.later hbA) (hR.later hbA) hl hr).mono ?_; rintro e w1 ⟨rfl, hb1⟩; rw [hk1]; have hbw1 := hbA.trans (hb1.mono hbA.size); have p0e := (hb1.cell (p := ⟨w.heap.size, 0, none⟩) (World.block_lt_of_cell? wA _ p0a)).trans p0a; have p1e := (hb1.cell (p := ⟨w.heap.size, 1, none⟩) (World.block_lt_of_cell? wA _ p1a)).trans p1a; have X1 := (hbw1.cell (p := ⟨bw, ow + l, none⟩) hbw).trans X0; have y3 := (hbw1.cell (p := ⟨bL, oL + l * 3 + 2, none⟩) hbL).trans z3; have hIl := hIL.later hbw1; clear p0a p1a X0 z1 z2 z3)
      go_quiet ((go_at_call 23; exact Calls.quiet_of_same (place_any la ln lc likes _ _ hIl)))
      have hbd := below_drewN w1.heap.size w1 nq
      have hIl2 := hIl.later hbd
      have hbw2 := hbw1.trans (hbd.mono hbw1.size)
      have y3g := (hbd.cell (p := ⟨bL, oL + l * 3 + 2, none⟩) (World.block_lt_of_cell? w1 _ y3)).trans y3
      have p0g := (hbd.cell (p := ⟨w.heap.size, 0, none⟩) (World.block_lt_of_cell? w1 _ p0e)).trans p0e
      have p1g := (hbd.cell (p := ⟨w.heap.size, 1, none⟩) (World.block_lt_of_cell? w1 _ p1e)).trans p1e
      clear p0e p1e y3 X1 hIl
      have hrest := unhide HRT
      clear HRT
      have HBD := hide hbd
      clear hbd
      generalize w1.drewN nq = w2 at *
      go_wp2_with (go_at_call 23; refine (place_any la ln lc likes _ w2 hIl2).mono ?_; rintro e w4 ⟨rfl, hw4⟩; subst w4)
      obtain ⟨bR, oR, rfl, hbR, q1, q2, q3⟩ := (hR.later hbw2).at hr
      have hIR := ((hR.later hbw2).mem hr).1
      have hgl2 : (goesTo ws r nw).length ≤ 1000 := by rw [goes_len ws r nw (by have := unhide hnw; omega)]; have := cnt_le ws r nw; omega
      have HRr := hide hrest
      clear hrest
      rw [← unhide hnw] at HRr
      obtain ⟨GS, hGS⟩ : ∃ y, y = goesTo ws r nw := ⟨_, rfl⟩
      obtain ⟨GL, hGL⟩ : ∃ y, y = GS.length := ⟨_, rfl⟩
      rw [← hGS, ← hGL] at HRr
      rw [← hGS, ← hGL] at hgl2
      have HGS := hide hGS
      have HGL := hide hGL
      clear hGS hGL
      generalize agAt lR r = G at *
      obtain ⟨nm2, room2, la2, ln2, lc2, likes2⟩ := G
      simp only at q1 q2 q3 hIR HRr
      by_cases hroom : (GL : Int) < room2
      · rw [if_pos hroom] at HRr
        have hp2 : decide ((GL : Int) < room2) = true := decide_eq_true hroom
        clear hroom
        refine (goes_at _ nw cw ws r _ (hw.later hbw2) hs GS GL HGS HGL).mono ?_
        rintro e w3 ⟨ga, gc, rfl, hG, hb3⟩
        have p0s := (hb3.cell (p := ⟨w.heap.size, 0, none⟩) (World.block_lt_of_cell? w2 _ p0g)).trans p0g
        have p1s := (hb3.cell (p := ⟨w.heap.size, 1, none⟩) (World.block_lt_of_cell? w2 _ p1g)).trans p1g
        have s2 := (hb3.cell (p := ⟨bR, oR + r * 3 + 1, none⟩) hbR).trans q2
        clear p0g p1g q1 q2 q3
        go_wp2
        go_ret
        exact ⟨ret_bool (unhide HRr).symm, hbw2.trans (hb3.mono hbw2.size)⟩
      · rw [if_neg hroom] at HRr
        have hp2 : decide ((GL : Int) < room2) = false := decide_eq_false hroom
        clear hroom
        have HR2 : Hid (wouldB lL lR ws l r = (firstFrom (hasWorse likes2 GS l) GL 0).isSome) := unhide HRr
        clear HRr
        refine (goes_at _ nw cw ws r _ (hw.later hbw2) hs GS GL HGS HGL).mono ?_
        rintro e w3 ⟨ga, gc, rfl, hG, hb3⟩
        have p0s := (hb3.cell (p := ⟨w.heap.size, 0, none⟩) (World.block_lt_of_cell? w2 _ p0g)).trans p0g
        have p1s := (hb3.cell (p := ⟨w.heap.size, 1, none⟩) (World.block_lt_of_cell? w2 _ p1g)).trans p1g
        have s2 := (hb3.cell (p := ⟨bR, oR + r * 3 + 1, none⟩) hbR).trans q2
        have s3 := (hb3.cell (p := ⟨bR, oR + r * 3 + 2, none⟩) hbR).trans q3
        clear p0g p1g q1 q2 q3
        have hIR3 := hIR.later hb3
        go_wp2_with (go_at_call 23; refine (place_any la2 ln2 lc2 likes2 l w3 hIR3).mono ?_; rintro e w4 ⟨rfl, hw4⟩; subst w4)
        have hbw3 := hbw2.trans (hb3.mono hbw2.size)
        have hbR3 : bR < w3.heap.size := World.block_lt_of_cell? w3 _ s2
        go_loopw [14] (fun i wq => Below w3.heap.size w3 wq ∧ ∃ m : Nat, m ≤ GL ∧ i = .int .i64 m ∧ firstFrom (hasWorse likes2 GS l) GL 0 = firstFrom (hasWorse likes2 GS l) GL m) (fun i _ => GL - (intOf i).toNat)
        case atStart => exact ⟨Below.refl _ _, 0, Nat.zero_le _, rfl, rfl⟩
        case round =>
          obtain ⟨hbq, m, hmk, rfl, hn⟩ := hrel
          have HJ := hide hn
          clear hn
          have hbwq : Below w.heap.size w wr := hbw3.trans (hbq.mono hbw3.size)
          have p0q := (hbq.cell (p := ⟨w.heap.size, 0, none⟩) (World.block_lt_of_cell? w3 _ p0s)).trans p0s
          have p1q := (hbq.cell (p := ⟨w.heap.size, 1, none⟩) (World.block_lt_of_cell? w3 _ p1s)).trans p1s
          have t3 := (hbq.cell (p := ⟨bR, oR + r * 3 + 2, none⟩) hbR3).trans s3
          by_cases hmt : m < GL
          · obtain ⟨gb, go, rfl, hgb, hgcell⟩ := hG.cellAt (by omega)
            have hgm := (hbq.cell (p := ⟨gb, go + m, none⟩) hgb).trans (hgcell m hmt)
            have hIq := hIR3.later hbq
            have hgc := hG.2.1
            have hgc2 := hG.2.2.1
            unfold maxLen at hgc2
            clear hgcell
            cases hh : hasWorse likes2 GS l m with
            | true =>
              have HY := hide (firstFrom_yes (P := hasWorse likes2 GS l) hmt hh)
              unfold hasWorse at hh
              go_wp2_with fail
              go_quiet ((go_at_call 23; exact Calls.quiet_of_same (place_any la2 ln2 lc2 likes2 _ _ hIq)))
              go_wp2
              go_ret
              exact ⟨ret_bool (by rw [unhide HR2, unhide HJ, unhide HY]; rfl), hbwq.trans (below_drewN _ _ _)⟩
            | false =>
              have HY := hide (firstFrom_no (P := hasWorse likes2 GS l) hmt hh)
              unfold hasWorse at hh
              go_wp2_with fail
              go_quiet ((go_at_call 23; exact Calls.quiet_of_same (place_any la2 ln2 lc2 likes2 _ _ hIq)))
              go_wp2
              go_roundw
              case rel => exact ⟨hbq.trans (below_drewN _ _ _), m+1, by omega, by go_num, by rw [unhide HJ, unhide HY]⟩
              case measure => simp [intOf]; omega
          · go_wp2
            go_ret
            exact ⟨ret_bool (by rw [unhide HR2, unhide HJ, firstFrom_end (by omega)]; rfl), hbwq⟩
  · have hrest := unhide HN3 (unhide HNE) (fun h => h0 h.1)
    have d0 : decide (0 ≤ x) = false := decide_eq_false h0
    clear h0
    have HRT := hide hrest
    clear hrest
    go_enter Try.func75, Try.ntmps75
    go_wp2_with (first | (go_at_call 61; rw [← unhide HW]; refine (likes_any _ nL cL lL _ nR cR lR l r wA (hL.later hbA) (hR.later hbA) hl hr).mono ?_; rintro e w1 ⟨rfl, hb1⟩; rw [hk1]; have hbw1 := hbA.trans (hb1.mono hbA.size); have p0e := (hb1.cell (p := ⟨w.heap.size, 0, none⟩) (World.block_lt_of_cell? wA _ p0a)).trans p0a; have p1e := (hb1.cell (p := ⟨w.heap.size, 1, none⟩) (World.block_lt_of_cell? wA _ p1a)).trans p1a; have X1 := (hbw1.cell (p := ⟨bw, ow + l, none⟩) hbw).trans X0; have y3 := (hbw1.cell (p := ⟨bL, oL + l * 3 + 2, none⟩) hbL).trans z3; have hIl := hIL.later hbw1; clear p0a p1a X0 z1 z2 z3))
    have hrest := unhide HRT
    clear HRT y3 X1 hIl
    obtain ⟨bR, oR, rfl, hbR, q1, q2, q3⟩ := (hR.later hbw1).at hr
    have hIR := ((hR.later hbw1).mem hr).1
    have hgl2 : (goesTo ws r nw).length ≤ 1000 := by rw [goes_len ws r nw (by have := unhide hnw; omega)]; have := cnt_le ws r nw; omega
    have HRr := hide hrest
    clear hrest
    rw [← unhide hnw] at HRr
    obtain ⟨GS, hGS⟩ : ∃ y, y = goesTo ws r nw := ⟨_, rfl⟩
    obtain ⟨GL, hGL⟩ : ∃ y, y = GS.length := ⟨_, rfl⟩
    rw [← hGS, ← hGL] at HRr
    rw [← hGS, ← hGL] at hgl2
    have HGS := hide hGS
    have HGL := hide hGL
    clear hGS hGL
    generalize agAt lR r = G at *
    obtain ⟨nm2, room2, la2, ln2, lc2, likes2⟩ := G
    simp only at q1 q2 q3 hIR HRr
    by_cases hroom : (GL : Int) < room2
    · rw [if_pos hroom] at HRr
      have hp2 : decide ((GL : Int) < room2) = true := decide_eq_true hroom
      clear hroom
      refine (goes_at _ nw cw ws r _ (hw.later hbw1) hs GS GL HGS HGL).mono ?_
      rintro e w3 ⟨ga, gc, rfl, hG, hb3⟩
      have p0s := (hb3.cell (p := ⟨w.heap.size, 0, none⟩) (World.block_lt_of_cell? w1 _ p0e)).trans p0e
      have p1s := (hb3.cell (p := ⟨w.heap.size, 1, none⟩) (World.block_lt_of_cell? w1 _ p1e)).trans p1e
      have s2 := (hb3.cell (p := ⟨bR, oR + r * 3 + 1, none⟩) hbR).trans q2
      clear p0e p1e q1 q2 q3
      go_wp2
      go_ret
      exact ⟨ret_bool (unhide HRr).symm, hbw1.trans (hb3.mono hbw1.size)⟩
    · rw [if_neg hroom] at HRr
      have hp2 : decide ((GL : Int) < room2) = false := decide_eq_false hroom
      clear hroom
      have HR2 : Hid (wouldB lL lR ws l r = (firstFrom (hasWorse likes2 GS l) GL 0).isSome) := unhide HRr
      clear HRr
      refine (goes_at _ nw cw ws r _ (hw.later hbw1) hs GS GL HGS HGL).mono ?_
      rintro e w3 ⟨ga, gc, rfl, hG, hb3⟩
      have p0s := (hb3.cell (p := ⟨w.heap.size, 0, none⟩) (World.block_lt_of_cell? w1 _ p0e)).trans p0e
      have p1s := (hb3.cell (p := ⟨w.heap.size, 1, none⟩) (World.block_lt_of_cell? w1 _ p1e)).trans p1e
      have s2 := (hb3.cell (p := ⟨bR, oR + r * 3 + 1, none⟩) hbR).trans q2
      have s3 := (hb3.cell (p := ⟨bR, oR + r * 3 + 2, none⟩) hbR).trans q3
      clear p0e p1e q1 q2 q3
      have hIR3 := hIR.later hb3
      go_wp2_with (go_at_call 23; refine (place_any la2 ln2 lc2 likes2 l w3 hIR3).mono ?_; rintro e w4 ⟨rfl, hw4⟩; subst w4)
      have hbw3 := hbw1.trans (hb3.mono hbw1.size)
      have hbR3 : bR < w3.heap.size := World.block_lt_of_cell? w3 _ s2
      go_loopw [14] (fun i wq => Below w3.heap.size w3 wq ∧ ∃ m : Nat, m ≤ GL ∧ i = .int .i64 m ∧ firstFrom (hasWorse likes2 GS l) GL 0 = firstFrom (hasWorse likes2 GS l) GL m) (fun i _ => GL - (intOf i).toNat)
      case atStart => exact ⟨Below.refl _ _, 0, Nat.zero_le _, rfl, rfl⟩
      case round =>
        obtain ⟨hbq, m, hmk, rfl, hn⟩ := hrel
        have HJ := hide hn
        clear hn
        have hbwq : Below w.heap.size w wr := hbw3.trans (hbq.mono hbw3.size)
        have p0q := (hbq.cell (p := ⟨w.heap.size, 0, none⟩) (World.block_lt_of_cell? w3 _ p0s)).trans p0s
        have p1q := (hbq.cell (p := ⟨w.heap.size, 1, none⟩) (World.block_lt_of_cell? w3 _ p1s)).trans p1s
        have t3 := (hbq.cell (p := ⟨bR, oR + r * 3 + 2, none⟩) hbR3).trans s3
        by_cases hmt : m < GL
        · obtain ⟨gb, go, rfl, hgb, hgcell⟩ := hG.cellAt (by omega)
          have hgm := (hbq.cell (p := ⟨gb, go + m, none⟩) hgb).trans (hgcell m hmt)
          have hIq := hIR3.later hbq
          have hgc := hG.2.1
          have hgc2 := hG.2.2.1
          unfold maxLen at hgc2
          clear hgcell
          cases hh : hasWorse likes2 GS l m with
          | true =>
            have HY := hide (firstFrom_yes (P := hasWorse likes2 GS l) hmt hh)
            unfold hasWorse at hh
            go_wp2_with fail
            go_quiet ((go_at_call 23; exact Calls.quiet_of_same (place_any la2 ln2 lc2 likes2 _ _ hIq)))
            go_wp2
            go_ret
            exact ⟨ret_bool (by rw [unhide HR2, unhide HJ, unhide HY]; rfl), hbwq.trans (below_drewN _ _ _)⟩
          | false =>
            have HY := hide (firstFrom_no (P := hasWorse likes2 GS l) hmt hh)
            unfold hasWorse at hh
            go_wp2_with fail
            go_quiet ((go_at_call 23; exact Calls.quiet_of_same (place_any la2 ln2 lc2 likes2 _ _ hIq)))
            go_wp2
            go_roundw
            case rel => exact ⟨hbq.trans (below_drewN _ _ _), m+1, by omega, by go_num, by rw [unhide HJ, unhide HY]⟩
            case measure => simp [intOf]; omega
        · go_wp2
          go_ret
          exact ⟨ret_bool (by rw [unhide HR2, unhide HJ, firstFrom_end (by omega)]; rfl), hbwq⟩
end Go.Proofs.Ytodbnjainpjkcaa
