import Derived.Test.YtodbnjainpjkcaaM
import Derived.Lib.QuietBelow
namespace Go.Proofs.Ytodbnjainpjkcaa
open Go.RowKit
set_option maxRecDepth 100000 in
set_option maxHeartbeats 4000000 in
theorem tempted_any (aL : Option Addr) (nL cL : Nat) (lL : List Ag) (aR : Option Addr) (nR cR : Nat) (lR : List Ag) (aw : Option Addr) (nw cw : Nat) (ws : List Int) (w : World) (hL : Ags w aL nL cL lL) (hR : Ags w aR nR cR lR) (hw : Ints w aw nw cw ws) (hln : ws.length = lL.length) (hfL : ∀ g ∈ lL, g.ln ≤ 500) (hfR : ∀ g ∈ lR, g.ln ≤ 500) :
    Calls Try.prog 38 #[.agg #[.slice aL nL cL, .slice aR nR cR], .slice aw nw cw] w fun e w' => e = .returned (.tuple #[.int .i64 (optI (twoOf (badB lL lR ws) lL.length lR.length)), .int .i64 (twoR (badB lL lR ws) lL.length lR.length)]) ∧ Below w.heap.size w w' := by
  have hlL := hide hL.1
  have hlR := hide hR.1
  have hcL := hL.2.2.1
  have hcR := hR.2.2.1
  have hnL := hL.2.1
  have hnR := hR.2.1
  unfold maxLen at hcL hcR
  have hnw := hide hw.1
  have hcw := hw.2.1
  have hmw := hw.2.2.1
  unfold maxLen at hmw
  have hnn : nw = nL := by have := unhide hnw; have := unhide hlL; omega
  have HLN := hide hnn
  clear hnn hln
  obtain ⟨wA, hwA⟩ : ∃ y, y = w.alloc (.cells #[.slice aL nL cL, .slice aR nR cR] 26) := ⟨_, rfl⟩
  have hbA : Below w.heap.size w wA := by rw [hwA]; go_grown
  have p0a : wA.cell? ⟨w.heap.size, 0, none⟩ = some (.slice aL nL cL) := by rw [hwA]; simp
  have p1a : wA.cell? ⟨w.heap.size, 1, none⟩ = some (.slice aR nR cR) := by rw [hwA]; simp
  have HW := hide hwA
  clear hwA
  rw [← unhide hlL, ← unhide hlR]
  go_enter Try.func38, Try.ntmps38
  go_wp2_with fail
  rw [← unhide HW]
  go_loopw [13] (fun i wr => Below wA.heap.size wA wr ∧ ∃ k : Nat, k ≤ nL ∧ i = .int .i64 k ∧ firstFrom (fun l => (rowOf (badB lL lR ws) nR l).isSome) nL 0 = firstFrom (fun l => (rowOf (badB lL lR ws) nR l).isSome) nL k) (fun i _ => nL - (intOf i).toNat)
  case atStart => exact ⟨Below.refl _ _, 0, Nat.zero_le _, rfl, rfl⟩
  case round =>
    obtain ⟨hbr, l, hk, rfl, hn⟩ := hrel
    have HI := hide hn
    clear hn
    have hbwr : Below w.heap.size w wr := hbA.trans (hbr.mono hbA.size)
    have p0r := (hbr.cell (p := ⟨w.heap.size, 0, none⟩) (World.block_lt_of_cell? wA _ p0a)).trans p0a
    have p1r := (hbr.cell (p := ⟨w.heap.size, 1, none⟩) (World.block_lt_of_cell? wA _ p1a)).trans p1a
    by_cases hlt : l < nL
    · obtain ⟨bL, oL, rfl, hbL, q1, q2, q3⟩ := (hL.later hbwr).at hlt
      have hIL := (hL.mem hlt).1
      have hsl : (agAt lL l).ln ≤ 500 := hfL _ (by unfold agAt; rw [List.getElem?_eq_getElem (show l < lL.length by have := unhide hlL; omega)]; simp)
      have HB := hide (show ∀ r, badB lL lR ws l r = (likeB lL lR l r && (ratherB (agAt lL l).likes r (ws[l]?.getD 0) && wantsB (agAt lR r).likes (agAt lR r).room ws l r)) from fun r => rfl)
      generalize agAt lL l = G at *
      obtain ⟨nm, room, la, ln, lc, likes⟩ := G
      simp only at q1 q2 q3 hIL hsl HB
      obtain ⟨wB, hwB⟩ : ∃ y, y = wr.alloc (.cells #[.string nm, .int .i64 room, .slice la ln lc] 37) := ⟨_, rfl⟩
      have hbB : Below wr.heap.size wr wB := by rw [hwB]; go_grown
      have A0b : wB.cell? ⟨wr.heap.size, 0, none⟩ = some (.string nm) := by rw [hwB]; simp
      have A1b : wB.cell? ⟨wr.heap.size, 1, none⟩ = some (.int .i64 room) := by rw [hwB]; simp
      have A2b : wB.cell? ⟨wr.heap.size, 2, none⟩ = some (.slice la ln lc) := by rw [hwB]; simp
      have HWB := hide hwB
      clear hwB
      have hbwB : Below w.heap.size w wB := hbwr.trans (hbB.mono hbwr.size)
      have p0b := (hbB.cell (p := ⟨w.heap.size, 0, none⟩) (World.block_lt_of_cell? wr _ p0r)).trans p0r
      have p1b := (hbB.cell (p := ⟨w.heap.size, 1, none⟩) (World.block_lt_of_cell? wr _ p1r)).trans p1r
      have hszr : w.heap.size < wr.heap.size := World.block_lt_of_cell? wr _ p0r
      go_wp2_with fail
      rw [← unhide HWB]
      clear q1 q2 q3 p0r p1r
      go_loopw [21] (fun i wq => Below wB.heap.size wB wq ∧ ∃ m : Nat, m ≤ nR ∧ i = .int .i64 m ∧ firstFrom (badB lL lR ws l) nR 0 = firstFrom (badB lL lR ws l) nR m) (fun i _ => nR - (intOf i).toNat)
      case atStart => exact ⟨Below.refl _ _, 0, Nat.zero_le _, rfl, rfl⟩
      case round =>
        rename World => wq
        obtain ⟨hbq, r, hrk, rfl, hn⟩ := hrel
        have HJ := hide hn
        clear hn
        have hbwq : Below w.heap.size w wq := hbwB.trans (hbq.mono hbwB.size)
        have hbrq : Below wA.heap.size wA wq := (hbr.trans (hbB.mono hbr.size)).trans (hbq.mono (Nat.le_trans hbr.size hbB.size))
        have p0q := (hbq.cell (p := ⟨w.heap.size, 0, none⟩) (World.block_lt_of_cell? wB _ p0b)).trans p0b
        have p1q := (hbq.cell (p := ⟨w.heap.size, 1, none⟩) (World.block_lt_of_cell? wB _ p1b)).trans p1b
        have A0q := (hbq.cell (p := ⟨wr.heap.size, 0, none⟩) (World.block_lt_of_cell? wB _ A0b)).trans A0b
        have A1q := (hbq.cell (p := ⟨wr.heap.size, 1, none⟩) (World.block_lt_of_cell? wB _ A1b)).trans A1b
        have A2q := (hbq.cell (p := ⟨wr.heap.size, 2, none⟩) (World.block_lt_of_cell? wB _ A2b)).trans A2b
        by_cases hrt : r < nR
        · obtain ⟨bR, oR, rfl, hbR, q1, q2, q3⟩ := (hR.later hbwq).at hrt
          obtain ⟨bw, ow, rfl, hbw, hcellw⟩ := hw.cellAt (by have := unhide HLN; omega)
          have X0w := hcellw l (by have := unhide HLN; omega)
          have hIR := (hR.mem hrt).1
          have hsr : (agAt lR r).ln ≤ 500 := hfR _ (by unfold agAt; rw [List.getElem?_eq_getElem (show r < lR.length by have := unhide hlR; omega)]; simp)
          have HB2 := hide (unhide HB r)
          have hlw : (l : Int) < (nw : Int) := by have := unhide HLN; omega
          have hlw2 : l < nw := by omega
          clear hcellw
          generalize hx : ws[l]?.getD 0 = x at *
          have HX := hide hx
          clear hx
          generalize agAt lR r = G at *
          obtain ⟨nm2, room2, la2, ln2, lc2, likes2⟩ := G
          simp only at q1 q2 q3 hIR hsr HB2
          obtain ⟨wC, hwC⟩ : ∃ y, y = wq.alloc (.cells #[.string nm2, .int .i64 room2, .slice la2 ln2 lc2] 37) := ⟨_, rfl⟩
          have hbC : Below wq.heap.size wq wC := by rw [hwC]; go_grown
          have B0c : wC.cell? ⟨wq.heap.size, 0, none⟩ = some (.string nm2) := by rw [hwC]; simp
          have B1c : wC.cell? ⟨wq.heap.size, 1, none⟩ = some (.int .i64 room2) := by rw [hwC]; simp
          have B2c : wC.cell? ⟨wq.heap.size, 2, none⟩ = some (.slice la2 ln2 lc2) := by rw [hwC]; simp
          have HWC := hide hwC
          clear hwC
          have hbwC : Below w.heap.size w wC := hbwq.trans (hbC.mono hbwq.size)
          have hbrC : Below wA.heap.size wA wC := hbrq.trans (hbC.mono hbrq.size)
          have hbqC : Below wB.heap.size wB wC := hbq.trans (hbC.mono hbq.size)
          have p0c := (hbC.cell (p := ⟨w.heap.size, 0, none⟩) (World.block_lt_of_cell? wq _ p0q)).trans p0q
          have p1c := (hbC.cell (p := ⟨w.heap.size, 1, none⟩) (World.block_lt_of_cell? wq _ p1q)).trans p1q
          have A0c := (hbC.cell (p := ⟨wr.heap.size, 0, none⟩) (World.block_lt_of_cell? wq _ A0q)).trans A0q
          have A1c := (hbC.cell (p := ⟨wr.heap.size, 1, none⟩) (World.block_lt_of_cell? wq _ A1q)).trans A1q
          have A2c := (hbC.cell (p := ⟨wr.heap.size, 2, none⟩) (World.block_lt_of_cell? wq _ A2q)).trans A2q
          have X0c := (hbwC.cell (p := ⟨bw, ow + l, none⟩) (World.block_lt_of_cell? w _ X0w)).trans X0w
          have LW : Hid (∀ d os, Ags (Sort.grow (redrawn wC d) os) (some ⟨bL, oL, none⟩) nL cL lL) := fun d os => hL.later (hbwC.trans ((below_regrown wC d os).mono hbwC.size))
          have RW : Hid (∀ d os, Ags (Sort.grow (redrawn wC d) os) (some ⟨bR, oR, none⟩) nR cR lR) := fun d os => hR.later (hbwC.trans ((below_regrown wC d os).mono hbwC.size))
          have WW : Hid (∀ d os, Ints (Sort.grow (redrawn wC d) os) (some ⟨bw, ow, none⟩) nw cw ws) := fun d os => hw.later (hbwC.trans ((below_regrown wC d os).mono hbwC.size))
          have IL : Hid (∀ d os, Ints (Sort.grow (redrawn wC d) os) la ln lc likes) := fun d os => hIL.later (hbwC.trans ((below_regrown wC d os).mono hbwC.size))
          have IR : Hid (∀ d os, Ints (Sort.grow (redrawn wC d) os) la2 ln2 lc2 likes2) := fun d os => hIR.later (hbwC.trans ((below_regrown wC d os).mono hbwC.size))
          have C1 := hide (fun d os => Calls.regrown_of (like_any _ nL cL lL _ nR cR lR l r _ (unhide LW d os) (unhide RW d os) hlt hrt))
          have C2 := hide (fun d os => Calls.regrown_of (rather_any nm room la ln lc likes r x _ (unhide IL d os) hsl))
          have C3 := hide (fun d os => Calls.regrown_of (wants_any nm2 room2 la2 ln2 lc2 likes2 _ nw cw ws l r _ (unhide IR d os) hsr (unhide WW d os)))
          have p0g := cell_regrown p0c
          have p1g := cell_regrown p1c
          have A0g := cell_regrown A0c
          have A1g := cell_regrown A1c
          have A2g := cell_regrown A2c
          have B0g := cell_regrown B0c
          have B1g := cell_regrown B1c
          have B2g := cell_regrown B2c
          have X0g := cell_regrown X0c
          cases hk1 : likeB lL lR l r with
          | false =>
            have HY := hide (firstFrom_no (P := badB lL lR ws l) hrt (by rw [unhide HB2, hk1]; rfl))
            rw [hk1] at C1
            go_wp2_with fail
            rw [← unhide HWC]
            clear q1 q2 q3 p0q p1q A0q A1q A2q p0c p1c A0c A1c A2c B0c B1c B2c X0c
            refine wp_region_quiet_below (by kernel_rfl) (by kernel_rfl) ?_
            repeat (quiet_step (first | exact unhide C1 _ _ | exact unhide C2 _ _ | exact unhide C3 _ _))
            refine wpQuiet_nil ?_
            intro _ hw'
            obtain ⟨⟨dq, osq⟩, hw''⟩ := hw'
            subst hw''
            have hbC' := below_regrown wC dq osq
            have hbqm := hbqC.trans (hbC'.mono hbqC.size)
            go_wp2
            go_roundw
            case rel => exact ⟨hbqm, r+1, by omega, by go_num, by rw [unhide HJ, unhide HY]⟩
            case measure => simp [intOf]; omega
          | true =>
          cases hk2 : ratherB likes r x with
          | false =>
            have HY := hide (firstFrom_no (P := badB lL lR ws l) hrt (by rw [unhide HB2, hk1, hk2]; rfl))
            rw [hk1] at C1
            rw [hk2] at C2
            go_wp2_with fail
            rw [← unhide HWC]
            clear q1 q2 q3 p0q p1q A0q A1q A2q p0c p1c A0c A1c A2c B0c B1c B2c X0c
            refine wp_region_quiet_below (by kernel_rfl) (by kernel_rfl) ?_
            repeat (quiet_step (first | exact unhide C1 _ _ | exact unhide C2 _ _ | exact unhide C3 _ _))
            refine wpQuiet_nil ?_
            intro _ hw'
            obtain ⟨⟨dq, osq⟩, hw''⟩ := hw'
            subst hw''
            have hbC' := below_regrown wC dq osq
            have hbqm := hbqC.trans (hbC'.mono hbqC.size)
            go_wp2
            go_roundw
            case rel => exact ⟨hbqm, r+1, by omega, by go_num, by rw [unhide HJ, unhide HY]⟩
            case measure => simp [intOf]; omega
          | true =>
          cases hk3 : wantsB likes2 room2 ws l r with
          | false =>
            have HY := hide (firstFrom_no (P := badB lL lR ws l) hrt (by rw [unhide HB2, hk1, hk2, hk3]; rfl))
            rw [hk1] at C1
            rw [hk2] at C2
            rw [hk3] at C3
            go_wp2_with fail
            rw [← unhide HWC]
            clear q1 q2 q3 p0q p1q A0q A1q A2q p0c p1c A0c A1c A2c B0c B1c B2c X0c
            refine wp_region_quiet_below (by kernel_rfl) (by kernel_rfl) ?_
            repeat (quiet_step (first | exact unhide C1 _ _ | exact unhide C2 _ _ | exact unhide C3 _ _))
            refine wpQuiet_nil ?_
            intro _ hw'
            obtain ⟨⟨dq, osq⟩, hw''⟩ := hw'
            subst hw''
            have hbC' := below_regrown wC dq osq
            have hbqm := hbqC.trans (hbC'.mono hbqC.size)
            go_wp2
            go_roundw
            case rel => exact ⟨hbqm, r+1, by omega, by go_num, by rw [unhide HJ, unhide HY]⟩
            case measure => simp [intOf]; omega
          | true =>
            have HY := hide (firstFrom_yes (P := badB lL lR ws l) hrt (by rw [unhide HB2, hk1, hk2, hk3]; rfl))
            rw [hk1] at C1
            rw [hk2] at C2
            rw [hk3] at C3
            go_wp2_with fail
            rw [← unhide HWC]
            clear q1 q2 q3 p0q p1q A0q A1q A2q p0c p1c A0c A1c A2c B0c B1c B2c X0c
            refine wp_region_quiet_below (by kernel_rfl) (by kernel_rfl) ?_
            repeat (quiet_step (first | exact unhide C1 _ _ | exact unhide C2 _ _ | exact unhide C3 _ _))
            refine wpQuiet_nil ?_
            intro _ hw'
            obtain ⟨⟨dq, osq⟩, hw''⟩ := hw'
            subst hw''
            have hbC' := below_regrown wC dq osq
            have hbwm := hbwC.trans (hbC'.mono hbwC.size)
            go_wp2
            go_ret2
            have hrow : rowOf (badB lL lR ws) nR l = some r := by unfold rowOf; rw [unhide HJ, unhide HY]
            have htwo : twoOf (badB lL lR ws) nL nR = some l := by unfold twoOf; rw [unhide HI, firstFrom_yes hlt (by rw [hrow]; rfl)]
            refine ⟨?_, hbwm⟩
            unfold twoR
            rw [htwo]
            simp only [hrow]
            rfl
        · have hrow : rowOf (badB lL lR ws) nR l = none := by unfold rowOf; rw [unhide HJ, firstFrom_end (by omega)]
          have HY := hide (firstFrom_no (P := fun l => (rowOf (badB lL lR ws) nR l).isSome) hlt (by simp only [hrow]; rfl))
          clear hrow
          go_wp2
          go_roundw
          case rel => exact ⟨hbrq, l+1, by omega, by go_num, by rw [unhide HI, unhide HY]⟩
          case measure => simp [intOf]; omega
    · go_wp2
      go_ret2
      have htwo : twoOf (badB lL lR ws) nL nR = none := by unfold twoOf; rw [unhide HI, firstFrom_end (by omega)]
      refine ⟨?_, hbwr⟩
      unfold twoR
      rw [htwo]
      rfl
end Go.Proofs.Ytodbnjainpjkcaa
