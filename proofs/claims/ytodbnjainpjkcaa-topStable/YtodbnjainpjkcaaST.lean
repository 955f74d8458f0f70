import Derived.Test.YtodbnjainpjkcaaSA
namespace Go.Proofs.Ytodbnjainpjkcaa
open Go.RowKit
theorem quiet_skip {Pr : Program} {ops : Array Oper} {C : World → Prop} {Q : Act → Prop} {a : Act} {o : Oper} {rest : List Oper} (hw : Region.wanted o (yielded ops a.tmps) = false) (h : wpQuiet Pr ops C Q rest (a.put o.dst undef)) : wpQuiet Pr ops C Q (o :: rest) a := by
  unfold wpQuiet
  rw [if_neg (by rw [hw]; exact Bool.false_ne_true)]
  exact h
set_option maxRecDepth 100000 in
set_option maxHeartbeats 8000000 in
/-- TOPSTABLE'S WALK. -/
theorem stable_top (a : Option Addr) (m c : Nat) (raw : List Int) (li ri : Int) (ao : Option Addr) (mo co : Nat) (ro : List Int) (w : World) (h : Ints w a m c raw) (hr : ∀ x ∈ raw, InR x) (hli : InR li) (hri : InR ri) (ho : Ints w ao mo co ro) (hro : ∀ x ∈ ro, InR x) (hmx : m ≤ 140737488351232) (hmo : mo ≤ 140737488351232) :
    Calls Try.prog 4 #[.slice a m c, .int .i64 li, .int .i64 ri, .slice ao mo co] w fun e w' => e = .returned (.bool true) ∧ Below w.heap.size w w' := by
  have HR := hide hr
  have HRO := hide hro
  clear hr hro
  by_cases hbig : 256 < m + mo
  · have hd : decide (256 < (m : Int) + (mo : Int)) = true := by simp; omega
    go_enter Try.func4, Try.ntmps4
    go_wp2
    go_ret
    exact ⟨rfl, Below.refl _ _⟩
  have hd : decide (256 < (m : Int) + (mo : Int)) = false := by simp; omega
  go_enter Try.func4, Try.ntmps4
  go_wp2_with fail
  refine (sides_any a m c raw li ri 6 false w h (unhide HR) hli hri (by omega) (by omega) (by omega)).mono ?_
  rintro e w1 ⟨aL, nL, cL, lL, aR, nR, cR, lR, rfl, hL, hR, hnL0, h1, hnR0, h2, m1, m2, hb1⟩
  have hF : Fit lL lR := made_fit hL.1 hR.1 (by omega) (by omega) m1 m2
  have HZ := hide (made_match hF fun j hj => (m1 j (by have := hL.1; omega)).room.2.2 rfl)
  have HFL := hide (made_ln hL.1 m1)
  have HFR := hide (made_ln hR.1 m2)
  clear hF m1 m2
  have ho1 := ho.later hb1
  go_wp2_with fail
  obtain ⟨wA, hwA⟩ : ∃ y, y = w1.alloc (.cells #[.slice aL nL cL, .slice aR nR cR] 26) := ⟨_, rfl⟩
  have hbA : Below w1.heap.size w1 wA := by rw [hwA]; go_grown
  have p0 : wA.cell? ⟨w1.heap.size, 0, none⟩ = some (.slice aL nL cL) := by rw [hwA]; simp
  have p1 : wA.cell? ⟨w1.heap.size, 1, none⟩ = some (.slice aR nR cR) := by rw [hwA]; simp
  rw [← hwA]
  have HW := hide hwA
  clear hwA
  refine (left_ok aL nL cL lL aR nR cR lR wA (hL.later hbA) (hR.later hbA) (unhide HFR) (unhide HZ)).mono ?_
  rintro e w2 ⟨g2, ws, asked, rfl, hI2, _, hA2, hF2, hb2⟩
  have hbw2 := hbA.trans (hb2.mono hbA.size)
  have p0b := (hb2.cell (p := ⟨w1.heap.size, 0, none⟩) (World.block_lt_of_cell? wA _ p0)).trans p0
  have p1b := (hb2.cell (p := ⟨w1.heap.size, 1, none⟩) (World.block_lt_of_cell? wA _ p1)).trans p1
  clear p0 p1
  have HIA := hide (hA2.inv (match_may (unhide HZ)))
  have HSA := hide ((unhide HIA).stab hF2)
  have HBA : Hid (∀ mm, Stab lL lR mm → ∀ l, l < lL.length → gr lL l (atL ws l) ≤ gr lL l (atL mm l)) := fun mm hm l hl => (unhide HIA).best hF2 hm hl
  clear hA2 hF2
  unfold two
  go_wp2_with fail
  refine (right_ok aL nL cL lL aR nR cR lR w2 (hL.later hbw2) (hR.later hbw2) (unhide HFL) (unhide HZ)).mono ?_
  rintro e w3 ⟨g3, vs, asked3, rfl, hI3, _, hA3, hF3, hb3⟩
  have hbw3 := hbw2.trans (hb3.mono hbw2.size)
  have p0c := (hb3.cell (p := ⟨w1.heap.size, 0, none⟩) (World.block_lt_of_cell? w2 _ p0b)).trans p0b
  have p1c := (hb3.cell (p := ⟨w1.heap.size, 1, none⟩) (World.block_lt_of_cell? w2 _ p1b)).trans p1b
  clear p0b p1b
  have HIB := hide (hA3.inv (match_may (unhide HZ)))
  have HSB := hide ((unhide HIB).stab hF3)
  have HWB : Hid (∀ mm, Stab lL lR mm → ∀ l, l < lL.length → gr lL l (atL mm l) ≤ gr lL l (atL vs l)) := fun mm hm l hl => (unhide HIB).worst hm hl
  clear hA3 hF3
  have hI2c := hI2.later hb3
  clear hI2
  have hne : ((nL : Int) != (nL : Int)) = false := by simp
  unfold two
  go_wp2_with fail
  refine (stable_any aL nL cL lL aR nR cR lR _ nL nL ws w3 (hL.later hbw3) (hR.later hbw3) hI2c (by omega) (unhide HFL) (unhide HFR)).mono ?_
  rintro e w4 ⟨rfl, hb4⟩
  obtain ⟨s1, s2, hs⟩ := stab_val (unhide HZ) (unhide HSA)
  rw [hs]
  clear hs
  have hbw4 := hbw3.trans (hb4.mono hbw3.size)
  have p0d := (hb4.cell (p := ⟨w1.heap.size, 0, none⟩) (World.block_lt_of_cell? w3 _ p0c)).trans p0c
  have p1d := (hb4.cell (p := ⟨w1.heap.size, 1, none⟩) (World.block_lt_of_cell? w3 _ p1c)).trans p1c
  clear p0c p1c
  have hI2d := hI2c.later hb4
  have hI3d := hI3.later hb4
  clear hI2c hI3
  unfold four
  go_wp2_with fail
  refine (stable_any aL nL cL lL aR nR cR lR _ nL nL vs w4 (hL.later hbw4) (hR.later hbw4) hI3d (by omega) (unhide HFL) (unhide HFR)).mono ?_
  rintro e w5 ⟨rfl, hb5⟩
  obtain ⟨t1, t2, ht⟩ := stab_val (unhide HZ) (unhide HSB)
  rw [ht]
  clear ht
  have hbw5 := hbw4.trans (hb5.mono hbw4.size)
  have p0e := (hb5.cell (p := ⟨w1.heap.size, 0, none⟩) (World.block_lt_of_cell? w4 _ p0d)).trans p0d
  have p1e := (hb5.cell (p := ⟨w1.heap.size, 1, none⟩) (World.block_lt_of_cell? w4 _ p1d)).trans p1d
  clear p0d p1d
  have hI2e := hI2d.later hb5
  have hI3e := hI3d.later hb5
  clear hI2d hI3d
  unfold four
  go_wp2_with fail
  refine (withOf_any aL nL cL lL _ ao mo co ro w5 (hL.later hbw5) (ho1.later hbw5) (unhide HRO) (by omega) (by omega) (unhide HFL) aR nR cR rfl).mono ?_
  rintro e w6 ⟨a6, c6, cs, rfl, hI6, hb6⟩
  have hbw6 := hbw5.trans (hb6.mono hbw5.size)
  have p0f := (hb6.cell (p := ⟨w1.heap.size, 0, none⟩) (World.block_lt_of_cell? w5 _ p0e)).trans p0e
  have p1f := (hb6.cell (p := ⟨w1.heap.size, 1, none⟩) (World.block_lt_of_cell? w5 _ p1e)).trans p1e
  clear p0e p1e
  have hI2f := hI2e.later hb6
  have hI3f := hI3e.later hb6
  clear hI2e hI3e
  go_wp2_with fail
  refine (stable_any aL nL cL lL aR nR cR lR a6 nL c6 cs w6 (hL.later hbw6) (hR.later hbw6) hI6 (by omega) (unhide HFL) (unhide HFR)).mono ?_
  rintro e w7 ⟨rfl, hb7⟩
  obtain ⟨sb, sx, sy, sz, hst⟩ := stab_form lL lR cs (badB lL lR cs)
  rw [hst]
  have HSC : Hid (sb = true → sz = 0 → Stab lL lR cs) := fun e1 e2 => val_stab (x := sx) (y := sy) (unhide HZ) (by rw [hst, e1, e2])
  clear hst
  have hbw7 := hbw6.trans (hb7.mono hbw6.size)
  have p0g := (hb7.cell (p := ⟨w1.heap.size, 0, none⟩) (World.block_lt_of_cell? w6 _ p0f)).trans p0f
  clear p0f p1f
  have hI2g := hI2f.later hb7
  have hI3g := hI3f.later hb7
  have hI6g := hI6.later hb7
  clear hI2f hI3f hI6
  have hL7 := hL.later hbw7
  have hc6 := hI6g.2.1
  have hcm6 := hI6g.2.2.1
  unfold maxLen at hcm6
  have hcL := hL.2.1
  have hcmL := hL.2.2.1
  unfold maxLen at hcmL
  have hlLn := hide hL.1
  unfold four
  go_wp2_with fail
  go_loopw [24] (fun i wr => Below w7.heap.size w7 wr ∧ ∃ l : Nat, l ≤ nL ∧ i = .int .i64 l) (fun i _ => nL - (intOf i).toNat)
  case atStart => exact ⟨Below.refl _ _, 0, Nat.zero_le _, rfl⟩
  case round =>
    obtain ⟨hbr, l, hl, rfl⟩ := hrel
    have p0r := (hbr.cell (p := ⟨w1.heap.size, 0, none⟩) (World.block_lt_of_cell? w7 _ p0g)).trans p0g
    by_cases hlt : l < nL
    · have hLr := hL7.later hbr
      obtain ⟨bL, oL, rfl, hbL, q1, q2, q3⟩ := hLr.at hlt
      have hIL := (hLr.mem hlt).1
      obtain ⟨b6, o6, rfl, hb6lt, hcell6⟩ := (hI6g.later hbr).cellAt hnL0
      obtain ⟨b2, o2, e2, hb2lt, hcell2⟩ := (hI2g.later hbr).cellAt hnL0
      cases e2
      obtain ⟨b3, o3, e3, hb3lt, hcell3⟩ := (hI3g.later hbr).cellAt hnL0
      cases e3
      have x1 := hcell2 l hlt
      have x2 := hcell3 l hlt
      have x3 := hcell6 l hlt
      rw [Nat.zero_add] at x1 x2
      have hlL' : l < lL.length := by have := unhide hlLn; omega
      have hM := match_may (unhide HZ)
      have g1 := gap_gr hM (unhide HSA) hlL'
      have g2' := gap_gr hM (unhide HSB) hlL'
      have g12 := unhide HBA vs (unhide HSB) l hlL'
      have HC : Hid (sb = true → sz = 0 → gapI (agAt lL l).likes (atL ws l) ≤ gapI (agAt lL l).likes (atL cs l) ∧ gapI (agAt lL l).likes (atL cs l) ≤ gapI (agAt lL l).likes (atL vs l)) := fun e1 e2 => by
        have hS := unhide HSC e1 e2
        rw [g1, g2', gap_gr hM hS hlL']
        exact ⟨unhide HBA cs hS l hlL', unhide HWB cs hS l hlL'⟩
      rw [← g1, ← g2'] at g12
      clear g1 g2' hcell2 hcell3 hcell6 hM
      unfold atL at g12 HC
      generalize agAt lL l = G at *
      obtain ⟨nm, room, la, ln, lc, likes⟩ := G
      simp only at q1 q2 q3 hIL g12 HC
      generalize ws[l]?.getD 0 = x at *
      generalize vs[l]?.getD 0 = y at *
      generalize cs[l]?.getD 0 = z at *
      have IL : Hid (∀ d os, Ints (Sort.grow (redrawn wr d) os) la ln lc likes) := fun d os => hIL.later (below_regrown wr d os)
      have C1 := hide (fun d os => Calls.regrown_of (gap_any nm room la ln lc likes x _ (unhide IL d os)))
      have C2 := hide (fun d os => Calls.regrown_of (gap_any nm room la ln lc likes y _ (unhide IL d os)))
      have d12 : decide (gapI likes y < gapI likes x) = false := decide_eq_false (by omega)
      have p0q := cell_regrown p0r
      have q1q := cell_regrown q1
      have q2q := cell_regrown q2
      have q3q := cell_regrown q3
      have x1q := cell_regrown x1
      have x2q := cell_regrown x2
      go_wp2_with fail
      refine wp_region_quiet_below (by kernel_rfl) (by kernel_rfl) ?_
      repeat (quiet_step (first | with_reducible exact unhide C1 _ _ | with_reducible exact unhide C2 _ _))
      refine wpQuiet_nil ?_
      intro _ hw'
      obtain ⟨⟨dq, osq⟩, hw''⟩ := hw'
      subst hw''
      obtain ⟨wX, hwX⟩ : ∃ y, y = Sort.grow (redrawn wr dq) osq := ⟨_, rfl⟩
      have hbX : Below wr.heap.size wr wX := by rw [hwX]; exact below_regrown wr dq osq
      rw [← hwX]
      clear hwX p0q q1q q2q q3q x1q x2q C1 C2 IL d12
      have p0x := (hbX.cell (p := ⟨w1.heap.size, 0, none⟩) (World.block_lt_of_cell? wr _ p0r)).trans p0r
      have q1x := (hbX.cell (p := ⟨bL, oL + l * 3, none⟩) (World.block_lt_of_cell? wr _ q1)).trans q1
      have q2x := (hbX.cell (p := ⟨bL, oL + l * 3 + 1, none⟩) (World.block_lt_of_cell? wr _ q2)).trans q2
      have q3x := (hbX.cell (p := ⟨bL, oL + l * 3 + 2, none⟩) (World.block_lt_of_cell? wr _ q3)).trans q3
      have x1x := (hbX.cell (p := ⟨g2, l, none⟩) (World.block_lt_of_cell? wr _ x1)).trans x1
      have x2x := (hbX.cell (p := ⟨g3, l, none⟩) (World.block_lt_of_cell? wr _ x2)).trans x2
      have x3x := (hbX.cell (p := ⟨b6, o6 + l, none⟩) (World.block_lt_of_cell? wr _ x3)).trans x3
      have hILx := hIL.later hbX
      clear p0r q1 q2 q3 x1 x2 x3 hIL
      have IL : Hid (∀ d os, Ints (Sort.grow (redrawn wX d) os) la ln lc likes) := fun d os => hILx.later (below_regrown wX d os)
      have C1 := hide (fun d os => Calls.regrown_of (gap_any nm room la ln lc likes x _ (unhide IL d os)))
      have C2 := hide (fun d os => Calls.regrown_of (gap_any nm room la ln lc likes y _ (unhide IL d os)))
      have C3 := hide (fun d os => Calls.regrown_of (gap_any nm room la ln lc likes z _ (unhide IL d os)))
      have p0q := cell_regrown p0x
      have q1q := cell_regrown q1x
      have q2q := cell_regrown q2x
      have q3q := cell_regrown q3x
      have x1q := cell_regrown x1x
      have x2q := cell_regrown x2x
      have x3q := cell_regrown x3x
      have hbrX := hbr.trans (hbX.mono hbr.size)
      clear p0x q1x q2x q3x x1x x2x x3x
      by_cases hz : sz = 0
      · subst hz
        cases sb with
        | true =>
          obtain ⟨k1, k2⟩ := unhide HC rfl rfl
          have d1 : decide (gapI likes z < gapI likes x) = false := decide_eq_false (by omega)
          have d2 : decide (gapI likes y < gapI likes z) = false := decide_eq_false (by omega)
          go_wp2_with fail
          refine wp_region_quiet_below (by kernel_rfl) (by kernel_rfl) ?_
          iterate 51 (quiet_step (first | with_reducible exact unhide C1 _ _ | with_reducible exact unhide C2 _ _ | with_reducible exact unhide C3 _ _))
          refine wpQuiet_nil ?_
          intro _ hw'
          obtain ⟨⟨dq2, osq2⟩, hw''⟩ := hw'
          subst hw''
          have hbq2 := below_regrown wX dq2 osq2
          go_wp2
          go_roundw
          case rel => exact ⟨hbrX.trans (hbq2.mono hbrX.size), l + 1, by omega, by go_num⟩
          case measure => simp [intOf]; omega
        | false =>
          go_wp2_with fail
          refine wp_region_quiet_below (by kernel_rfl) (by kernel_rfl) ?_
          iterate 6 (quiet_step (first | with_reducible exact unhide C1 _ _ | with_reducible exact unhide C2 _ _ | with_reducible exact unhide C3 _ _))
          iterate 44 (with_reducible refine quiet_skip (by kernel_rfl) ?_)
          iterate 1 (quiet_step (first | with_reducible exact unhide C1 _ _ | with_reducible exact unhide C2 _ _ | with_reducible exact unhide C3 _ _))
          refine wpQuiet_nil ?_
          intro _ hw'
          obtain ⟨⟨dq2, osq2⟩, hw''⟩ := hw'
          subst hw''
          have hbq2 := below_regrown wX dq2 osq2
          go_wp2
          go_roundw
          case rel => exact ⟨hbrX.trans (hbq2.mono hbrX.size), l + 1, by omega, by go_num⟩
          case measure => simp [intOf]; omega
      · have hzb : (sz == 0) = false := by simpa using hz
        skip
        · go_wp2_with fail
          refine wp_region_quiet_below (by kernel_rfl) (by kernel_rfl) ?_
          iterate 3 (quiet_step (first | with_reducible exact unhide C1 _ _ | with_reducible exact unhide C2 _ _ | with_reducible exact unhide C3 _ _))
          iterate 1 (with_reducible refine quiet_skip (by kernel_rfl) ?_)
          iterate 2 (quiet_step (first | with_reducible exact unhide C1 _ _ | with_reducible exact unhide C2 _ _ | with_reducible exact unhide C3 _ _))
          iterate 44 (with_reducible refine quiet_skip (by kernel_rfl) ?_)
          iterate 1 (quiet_step (first | with_reducible exact unhide C1 _ _ | with_reducible exact unhide C2 _ _ | with_reducible exact unhide C3 _ _))
          refine wpQuiet_nil ?_
          intro _ hw'
          obtain ⟨⟨dq2, osq2⟩, hw''⟩ := hw'
          subst hw''
          have hbq2 := below_regrown wX dq2 osq2
          go_wp2
          go_roundw
          case rel => exact ⟨hbrX.trans (hbq2.mono hbrX.size), l + 1, by omega, by go_num⟩
          case measure => simp [intOf]; omega
    · go_wp2
      go_ret
      have hbF := hbw7.trans (hbr.mono hbw7.size)
      exact ⟨rfl, hb1.trans (hbF.mono hb1.size)⟩
end Go.Proofs.Ytodbnjainpjkcaa
