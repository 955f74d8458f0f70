import Derived.Test.YtodbnjainpjkcaaO
namespace Go.Proofs.Ytodbnjainpjkcaa
open Go.RowKit
theorem results_tmp4 {fn : Func} {t u v x : Tmp} (h : fn.results = #[.tmp t, .tmp u, .tmp v, .tmp x]) (tmps : Array Value) (P : Program) (w : World) :
    (results fn tmps).run P w = .ok (.tuple #[tmps.getD t undef, tmps.getD u undef, tmps.getD v undef, tmps.getD x undef]) w := by
  simp [results, h]
def four (b : Bool) (x y z : Int) : Value := .tuple #[.bool b, .int .i64 x, .int .i64 y, .int .i64 z]
def stabV (lL lR : List Ag) (ws : List Int) (P : Nat → Nat → Bool) : Value :=
  if withE lL lR ws = 0 then
    match firstFrom (unwP lL lR ws) ws.length 0 with
    | some l => four false l (-1) 0
    | none => match twoOf P lL.length lR.length with
      | some l => four false l (twoR P lL.length lR.length) 0
      | none => four true 0 0 0
  else four false 0 0 (withE lL lR ws)
theorem stab_err {lL lR : List Ag} {ws : List Int} {P : Nat → Nat → Bool} (h : ¬ withE lL lR ws = 0) : stabV lL lR ws P = four false 0 0 (withE lL lR ws) := by
  unfold stabV
  rw [if_neg h]
theorem stab_unw {lL lR : List Ag} {ws : List Int} {P : Nat → Nat → Bool} (h : withE lL lR ws = 0) {l : Nat} (hu : firstFrom (unwP lL lR ws) ws.length 0 = some l) : stabV lL lR ws P = four false l (-1) 0 := by
  unfold stabV
  rw [if_pos h, hu]
theorem stab_two {lL lR : List Ag} {ws : List Int} {P : Nat → Nat → Bool} (h : withE lL lR ws = 0) (hu : firstFrom (unwP lL lR ws) ws.length 0 = none) {l : Nat} (ht : twoOf P lL.length lR.length = some l) : stabV lL lR ws P = four false l (twoR P lL.length lR.length) 0 := by
  unfold stabV
  rw [if_pos h, hu]
  simp only [ht]
theorem stab_ok {lL lR : List Ag} {ws : List Int} {P : Nat → Nat → Bool} (h : withE lL lR ws = 0) (hu : firstFrom (unwP lL lR ws) ws.length 0 = none) (ht : twoOf P lL.length lR.length = none) : stabV lL lR ws P = four true 0 0 0 := by
  unfold stabV
  rw [if_pos h, hu]
  simp only [ht]
theorem with_match {lL lR : List Ag} {ws : List Int} (h : withE lL lR ws = 0) : matchE lL lR = 0 ∧ mayBeE lL lR ws = 0 := by
  unfold withE at h
  by_cases c : matchE lL lR = 0
  · rw [if_pos c] at h; exact ⟨c, h⟩
  · rw [if_neg c] at h; exact absurd h c
/-- THE PROGRAM AND THE DOCUMENT SAY THE SAME OF WHO GOES WITH WHOM. -/
theorem stab_same (lL lR : List Ag) (ws : List Int) : stabV lL lR ws (badB lL lR ws) = stabV lL lR ws (wouldB lL lR ws) := by
  by_cases h : withE lL lR ws = 0
  · cases hu : firstFrom (unwP lL lR ws) ws.length 0 with
    | some l => rw [stab_unw h hu, stab_unw h hu]
    | none =>
      have hall := bad_would_all (with_match h).1 (with_match h).2 hu
      have e1 := two_ext hall
      have e2 := twoR_ext hall
      cases ht : twoOf (wouldB lL lR ws) lL.length lR.length with
      | some l => rw [stab_two h hu (e1.trans ht), stab_two h hu ht, e2]
      | none => rw [stab_ok h hu (e1.trans ht), stab_ok h hu ht]
  · rw [stab_err h, stab_err h]
theorem opt_none {o : Option Nat} (h : o = none) : optI o = -1 := by rw [h]; rfl
set_option maxRecDepth 100000 in
set_option maxHeartbeats 2000000 in
theorem stable_any (aL : Option Addr) (nL cL : Nat) (lL : List Ag) (aR : Option Addr) (nR cR : Nat) (lR : List Ag) (aw : Option Addr) (nw cw : Nat) (ws : List Int) (w : World) (hL : Ags w aL nL cL lL) (hR : Ags w aR nR cR lR) (hw : Ints w aw nw cw ws) (hs : nw ≤ 1000) (hfL : ∀ g ∈ lL, g.ln ≤ 500) (hfR : ∀ g ∈ lR, g.ln ≤ 500) :
    Calls Try.prog 12 #[.agg #[.slice aL nL cL, .slice aR nR cR], .slice aw nw cw] w fun e w' => e = .returned (stabV lL lR ws (badB lL lR ws)) ∧ Below w.heap.size w w' := by
  obtain ⟨wA, hwA⟩ : ∃ y, y = w.alloc (.cells #[.slice aL nL cL, .slice aR nR cR] 26) := ⟨_, rfl⟩
  have hbA : Below w.heap.size w wA := by rw [hwA]; go_grown
  have p0a : wA.cell? ⟨w.heap.size, 0, none⟩ = some (.slice aL nL cL) := by rw [hwA]; simp
  have p1a : wA.cell? ⟨w.heap.size, 1, none⟩ = some (.slice aR nR cR) := by rw [hwA]; simp
  have HW := hide hwA
  clear hwA
  go_enter Try.func12, Try.ntmps12
  go_wp2_with fail
  rw [← unhide HW]
  refine (mmay_any aL nL cL lL aR nR cR lR wA (hL.later hbA) (hR.later hbA)).mono ?_
  rintro e w1 ⟨rfl, hb1⟩
  have hbw1 := hbA.trans (hb1.mono hbA.size)
  have p0b := (hb1.cell (p := ⟨w.heap.size, 0, none⟩) (World.block_lt_of_cell? wA _ p0a)).trans p0a
  have p1b := (hb1.cell (p := ⟨w.heap.size, 1, none⟩) (World.block_lt_of_cell? wA _ p1a)).trans p1a
  clear p0a p1a
  by_cases hz : matchE lL lR = 0
  case neg =>
    have HE := hide (stab_err (P := badB lL lR ws) (show ¬ withE lL lR ws = 0 by unfold withE; rw [if_neg hz]; exact hz))
    have HE2 := hide (show withE lL lR ws = matchE lL lR by unfold withE; rw [if_neg hz])
    have hzb : (matchE lL lR != 0) = true := by simpa using hz
    clear hz
    go_wp2
    (try simp only [Exit.inBlock, Exit.then]); refine bodyPost_ret (results_tmp4 rfl _ _ _) rfl ?_
    exact ⟨by rw [unhide HE, unhide HE2]; rfl, hbw1⟩
  case pos =>
  have HE2 := hide (show withE lL lR ws = mayBeE lL lR ws by unfold withE; rw [if_pos hz])
  rw [hz]
  have HZ := hide hz
  clear hz
  go_wp2_with fail
  refine (mayBe_any aL nL cL lL aR nR cR lR aw nw cw ws w1 (hL.later hbw1) (hR.later hbw1) (hw.later hbw1) hs).mono ?_
  rintro e w2 ⟨rfl, hb2⟩
  have hbw2 := hbw1.trans (hb2.mono hbw1.size)
  have p0c := (hb2.cell (p := ⟨w.heap.size, 0, none⟩) (World.block_lt_of_cell? w1 _ p0b)).trans p0b
  have p1c := (hb2.cell (p := ⟨w.heap.size, 1, none⟩) (World.block_lt_of_cell? w1 _ p1b)).trans p1b
  clear p0b p1b
  by_cases hz : mayBeE lL lR ws = 0
  case neg =>
    have HE := hide (stab_err (P := badB lL lR ws) (show ¬ withE lL lR ws = 0 by rw [unhide HE2]; exact hz))
    have hzb : (mayBeE lL lR ws != 0) = true := by simpa using hz
    clear hz
    go_wp2
    (try simp only [Exit.inBlock, Exit.then]); refine bodyPost_ret (results_tmp4 rfl _ _ _) rfl ?_
    exact ⟨by rw [unhide HE, unhide HE2]; rfl, hbw2⟩
  case pos =>
  have HZ0 := hide (show withE lL lR ws = 0 by rw [unhide HE2]; exact hz)
  rw [hz]
  have HOK := hide (mayBe_ok hz)
  clear hz
  go_wp2_with fail
  refine (unwilling_any aL nL cL lL aR nR cR lR aw nw cw ws w2 (hL.later hbw2) (hR.later hbw2) (hw.later hbw2) hs (unhide HOK).1 (unhide HOK).2).mono ?_
  rintro e w3 ⟨rfl, hb3⟩
  have hbw3 := hbw2.trans (hb3.mono hbw2.size)
  have p0d := (hb3.cell (p := ⟨w.heap.size, 0, none⟩) (World.block_lt_of_cell? w2 _ p0c)).trans p0c
  have p1d := (hb3.cell (p := ⟨w.heap.size, 1, none⟩) (World.block_lt_of_cell? w2 _ p1c)).trans p1c
  clear p0c p1c
  cases hu : firstFrom (unwP lL lR ws) ws.length 0 with
  | some l =>
    have HE := hide (stab_unw (P := badB lL lR ws) (unhide HZ0) hu)
    rw [show optI (some l) = (l : Int) from rfl]
    clear hu
    have hne : ((l : Int) != -1) = true := by simp
    go_wp2
    (try simp only [Exit.inBlock, Exit.then]); refine bodyPost_ret (results_tmp4 rfl _ _ _) rfl ?_
    exact ⟨by rw [unhide HE]; rfl, hbw3⟩
  | none =>
  rw [show optI none = (-1 : Int) from rfl]
  have HU := hide hu
  clear hu
  go_wp2_with fail
  refine (tempted_any aL nL cL lL aR nR cR lR aw nw cw ws w3 (hL.later hbw3) (hR.later hbw3) (hw.later hbw3) (unhide HOK).1 hfL hfR).mono ?_
  rintro e w4 ⟨rfl, hb4⟩
  have hbw4 := hbw3.trans (hb4.mono hbw3.size)
  cases ht : twoOf (badB lL lR ws) lL.length lR.length with
  | some l =>
    have HE := hide (stab_two (unhide HZ0) (unhide HU) ht)
    rw [show optI (some l) = (l : Int) from rfl]
    clear ht
    have hne : ((l : Int) != -1) = true := by simp
    generalize twoR (badB lL lR ws) lL.length lR.length = R at *
    go_wp2
    (try simp only [Exit.inBlock, Exit.then]); refine bodyPost_ret (results_tmp4 rfl _ _ _) rfl ?_
    exact ⟨by rw [unhide HE]; rfl, hbw4⟩
  | none =>
    have HE := hide (stab_ok (unhide HZ0) (unhide HU) ht)
    rw [show optI none = (-1 : Int) from rfl]
    clear ht
    generalize twoR (badB lL lR ws) lL.length lR.length = R at *
    go_wp2
    (try simp only [Exit.inBlock, Exit.then]); refine bodyPost_ret (results_tmp4 rfl _ _ _) rfl ?_
    exact ⟨by rw [unhide HE]; rfl, hbw4⟩
set_option maxRecDepth 100000 in
set_option maxHeartbeats 4000000 in
theorem stableD_any (aL : Option Addr) (nL cL : Nat) (lL : List Ag) (aR : Option Addr) (nR cR : Nat) (lR : List Ag) (aw : Option Addr) (nw cw : Nat) (ws : List Int) (w : World) (hL : Ags w aL nL cL lL) (hR : Ags w aR nR cR lR) (hw : Ints w aw nw cw ws) (hs : nw ≤ 1000) :
    Calls Try.prog 60 #[.agg #[.slice aL nL cL, .slice aR nR cR], .slice aw nw cw] w fun e w' => e = .returned (stabV lL lR ws (wouldB lL lR ws)) ∧ Below w.heap.size w w' := by
  have hlL := hide hL.1
  have hlR := hide hR.1
  have hnw := hide hw.1
  have hcw := hw.2.1
  have hmw := hw.2.2.1
  unfold maxLen at hmw
  have hnR := hR.2.1
  have hcR := hR.2.2.1
  unfold maxLen at hcR
  obtain ⟨wA, hwA⟩ : ∃ y, y = w.alloc (.cells #[.slice aL nL cL, .slice aR nR cR] 26) := ⟨_, rfl⟩
  have hbA : Below w.heap.size w wA := by rw [hwA]; go_grown
  have p0a : wA.cell? ⟨w.heap.size, 0, none⟩ = some (.slice aL nL cL) := by rw [hwA]; simp
  have p1a : wA.cell? ⟨w.heap.size, 1, none⟩ = some (.slice aR nR cR) := by rw [hwA]; simp
  have HW := hide hwA
  clear hwA
  go_enter Try.func60, Try.ntmps60
  go_wp2_with fail
  rw [← unhide HW]
  refine (withMay_any aL nL cL lL aR nR cR lR aw nw cw ws wA (hL.later hbA) (hR.later hbA) (hw.later hbA) hs).mono ?_
  rintro e w1 ⟨rfl, hb1⟩
  have hbw1 := hbA.trans (hb1.mono hbA.size)
  have p0b := (hb1.cell (p := ⟨w.heap.size, 0, none⟩) (World.block_lt_of_cell? wA _ p0a)).trans p0a
  have p1b := (hb1.cell (p := ⟨w.heap.size, 1, none⟩) (World.block_lt_of_cell? wA _ p1a)).trans p1a
  clear p0a p1a
  by_cases hz : withE lL lR ws = 0
  case neg =>
    have HE := hide (stab_err (P := wouldB lL lR ws) hz)
    have hzb : (withE lL lR ws != 0) = true := by simpa using hz
    clear hz
    go_wp2
    (try simp only [Exit.inBlock, Exit.then]); refine bodyPost_ret (results_tmp4 rfl _ _ _) rfl ?_
    exact ⟨by rw [unhide HE]; rfl, hbw1⟩
  case pos =>
  have HZ0 := hide hz
  have HOK := hide (mayBe_ok (with_match hz).2)
  have HUD := hide (unw_d (with_match hz).2)
  rw [hz]
  clear hz
  have hnn : nw = nL := by have := unhide hnw; have := unhide hlL; have := (unhide HOK).1; omega
  have HNN := hide hnn
  clear hnn
  have hb2 := Below.refl w1.heap.size w1
  go_wp2_with fail
  go_loopw [9] (fun i wr => Below w1.heap.size w1 wr ∧ ∃ k : Nat, k ≤ nw ∧ i = .int .i64 k ∧ firstFrom (unwD lL lR ws) ws.length 0 = firstFrom (unwD lL lR ws) ws.length k) (fun i _ => nw - (intOf i).toNat)
  case atStart => exact ⟨Below.refl _ _, 0, Nat.zero_le _, rfl, rfl⟩
  case round =>
    obtain ⟨hbr, k, hk, rfl, hn⟩ := hrel
    have HI := hide hn
    clear hn
    have hbwr : Below w.heap.size w wr := hbw1.trans (hbr.mono hbw1.size)
    have p0r := (hbr.cell (p := ⟨w.heap.size, 0, none⟩) (World.block_lt_of_cell? w1 _ p0b)).trans p0b
    have p1r := (hbr.cell (p := ⟨w.heap.size, 1, none⟩) (World.block_lt_of_cell? w1 _ p1b)).trans p1b
    by_cases hlt : k < nw
    · obtain ⟨b, off, rfl, hb, hcell⟩ := hw.cellAt (by omega)
      have hck : wr.cell? ⟨b, off + k, none⟩ = some (.int .i64 (ws[k]?.getD 0)) := (hbwr.cell (p := ⟨b, off + k, none⟩) hb).trans (hcell k hlt)
      clear hcell
      have HKL := hide (show k < ws.length by have := unhide hnw; omega)
      have hkL : k < nL := by have := unhide HNN; omega
      by_cases he : 0 ≤ ws[k]?.getD 0
      · obtain ⟨m, hm', hmR⟩ : ∃ m : Nat, ws[k]?.getD 0 = m ∧ m < nR := ⟨(ws[k]?.getD 0).toNat, by omega, by have := (unhide HOK).2 k (unhide HKL); have := unhide hlR; omega⟩
        have hP : unwD lL lR ws k = !likeB lL lR k m := by unfold unwD; rw [decide_eq_true he, Bool.true_and, hm', Int.toNat_natCast]
        rw [hm'] at hck
        clear he
        have C1 := hide (fun d os => Calls.regrown_of (likes_any aL nL cL lL aR nR cR lR k m _ (hL.later (hbwr.trans ((below_regrown wr d os).mono hbwr.size))) (hR.later (hbwr.trans ((below_regrown wr d os).mono hbwr.size))) hkL hmR))
        have p0g := cell_regrown p0r
        have p1g := cell_regrown p1r
        have hcg := cell_regrown hck
        cases hlk : likeB lL lR k m with
        | true =>
          have HY := hide (firstFrom_no (P := unwD lL lR ws) (unhide HKL) (by rw [hP, hlk]; rfl))
          rw [hlk] at C1
          go_wp2_with fail
          clear p0r p1r hck
          refine wp_region_quiet_below (by kernel_rfl) (by kernel_rfl) ?_
          repeat (quiet_step (first | exact unhide C1 _ _))
          refine wpQuiet_nil ?_
          intro _ hw'
          obtain ⟨⟨dq, osq⟩, hw''⟩ := hw'
          subst hw''
          have hbC' := below_regrown wr dq osq
          go_wp2
          go_roundw
          case rel => exact ⟨hbr.trans (hbC'.mono hbr.size), k+1, by omega, by go_num, by rw [unhide HI, unhide HY]⟩
          case measure => simp [intOf]; omega
        | false =>
          have HY := hide (firstFrom_yes (P := unwD lL lR ws) (unhide HKL) (by rw [hP, hlk]; rfl))
          rw [hlk] at C1
          go_wp2_with fail
          clear p0r p1r hck
          refine wp_region_quiet_below (by kernel_rfl) (by kernel_rfl) ?_
          repeat (quiet_step (first | exact unhide C1 _ _))
          refine wpQuiet_nil ?_
          intro _ hw'
          obtain ⟨⟨dq, osq⟩, hw''⟩ := hw'
          subst hw''
          have hbC' := below_regrown wr dq osq
          have HE := hide (stab_unw (P := wouldB lL lR ws) (unhide HZ0) (show firstFrom (unwP lL lR ws) ws.length 0 = some k by rw [← unhide HUD, unhide HI, unhide HY]))
          go_wp2
          (try simp only [Exit.inBlock, Exit.then]); refine bodyPost_ret (results_tmp4 rfl _ _ _) rfl ?_
          exact ⟨by rw [unhide HE]; rfl, hbwr.trans (hbC'.mono hbwr.size)⟩
      · have HY := hide (firstFrom_no (P := unwD lL lR ws) (unhide HKL) (by unfold unwD; rw [decide_eq_false he, Bool.false_and]))
        have hed : decide (0 ≤ ws[k]?.getD 0) = false := decide_eq_false he
        clear he
        go_wp2
        go_roundw
        case rel => exact ⟨hbr, k+1, by omega, by go_num, by rw [unhide HI, unhide HY]⟩
        case measure => simp [intOf]; omega
    · have HU := hide (show firstFrom (unwP lL lR ws) ws.length 0 = none by rw [← unhide HUD, unhide HI, firstFrom_end (by have := unhide hnw; omega)])
      clear HI HUD
      go_wp2_with fail
      go_loopw [11] (fun i wq => Below wr.heap.size wr wq ∧ ∃ l : Nat, l ≤ nw ∧ i = .int .i64 l ∧ firstFrom (fun l => (rowOf (wouldB lL lR ws) nR l).isSome) nw 0 = firstFrom (fun l => (rowOf (wouldB lL lR ws) nR l).isSome) nw l) (fun i _ => nw - (intOf i).toNat)
      case atStart => exact ⟨Below.refl _ _, 0, Nat.zero_le _, rfl, rfl⟩
      case round =>
        rename World => wq
        obtain ⟨hbq, l, hlk, rfl, hn⟩ := hrel
        have HI := hide hn
        clear hn
        have hbwq : Below w.heap.size w wq := hbwr.trans (hbq.mono hbwr.size)
        have p0q := (hbq.cell (p := ⟨w.heap.size, 0, none⟩) (World.block_lt_of_cell? wr _ p0r)).trans p0r
        have p1q := (hbq.cell (p := ⟨w.heap.size, 1, none⟩) (World.block_lt_of_cell? wr _ p1r)).trans p1r
        by_cases hlw : l < nw
        · go_wp2_with fail
          go_loopw [12] (fun i wz => Below wq.heap.size wq wz ∧ ∃ m : Nat, m ≤ nR ∧ i = .int .i64 m ∧ firstFrom (wouldB lL lR ws l) nR 0 = firstFrom (wouldB lL lR ws l) nR m) (fun i _ => nR - (intOf i).toNat)
          case atStart => exact ⟨Below.refl _ _, 0, Nat.zero_le _, rfl, rfl⟩
          case round =>
            rename World => wz
            obtain ⟨hbz, r, hrk, rfl, hn⟩ := hrel
            have HJ := hide hn
            clear hn
            have hbwz : Below w.heap.size w wz := hbwq.trans (hbz.mono hbwq.size)
            have p0z := (hbz.cell (p := ⟨w.heap.size, 0, none⟩) (World.block_lt_of_cell? wq _ p0q)).trans p0q
            have p1z := (hbz.cell (p := ⟨w.heap.size, 1, none⟩) (World.block_lt_of_cell? wq _ p1q)).trans p1q
            by_cases hrt : r < nR
            · cases hb : wouldB lL lR ws l r with
              | true =>
                have hrow : rowOf (wouldB lL lR ws) nR l = some r := by unfold rowOf; rw [unhide HJ, firstFrom_yes hrt hb]
                have htwo : twoOf (wouldB lL lR ws) lL.length lR.length = some l := by rw [← unhide hlL, ← unhide hlR, ← unhide HNN]; unfold twoOf; rw [unhide HI, firstFrom_yes hlw (by rw [hrow]; rfl)]
                have hR2 : twoR (wouldB lL lR ws) lL.length lR.length = r := by unfold twoR; rw [htwo]; simp only []; rw [← unhide hlR, hrow]; rfl
                have HE := hide (stab_two (unhide HZ0) (unhide HU) htwo)
                rw [hR2] at HE
                clear hrow htwo hR2
                go_wp2_with (go_at_call 75; refine (would_any aL nL cL lL aR nR cR lR aw nw cw ws l r wz (hL.later hbwz) (hR.later hbwz) (hw.later hbwz) hs (by have := unhide HNN; omega) hlw hrt).mono ?_; rintro e wn ⟨rfl, hbn⟩; rw [hb])
                (try simp only [Exit.inBlock, Exit.then]); refine bodyPost_ret (results_tmp4 rfl _ _ _) rfl ?_
                exact ⟨by rw [unhide HE]; rfl, hbwz.trans (hbn.mono hbwz.size)⟩
              | false =>
                have HY := hide (firstFrom_no (P := wouldB lL lR ws l) hrt hb)
                go_wp2_with (go_at_call 75; refine (would_any aL nL cL lL aR nR cR lR aw nw cw ws l r wz (hL.later hbwz) (hR.later hbwz) (hw.later hbwz) hs (by have := unhide HNN; omega) hlw hrt).mono ?_; rintro e wn ⟨rfl, hbn⟩; rw [hb])
                go_roundw
                case rel => exact ⟨hbz.trans (hbn.mono hbz.size), r+1, by omega, by go_num, by rw [unhide HJ, unhide HY]⟩
                case measure => simp [intOf]; omega
            · have hrow : rowOf (wouldB lL lR ws) nR l = none := by unfold rowOf; rw [unhide HJ, firstFrom_end (by omega)]
              have HY := hide (firstFrom_no (P := fun l => (rowOf (wouldB lL lR ws) nR l).isSome) hlw (by simp only [hrow]; rfl))
              clear hrow
              go_wp2
              go_roundw
              case rel => exact ⟨hbq.trans (hbz.mono hbq.size), l+1, by omega, by go_num, by rw [unhide HI, unhide HY]⟩
              case measure => simp [intOf]; omega
        · have htwo : twoOf (wouldB lL lR ws) lL.length lR.length = none := by rw [← unhide hlL, ← unhide hlR, ← unhide HNN]; unfold twoOf; rw [unhide HI, firstFrom_end (by omega)]
          have HE := hide (stab_ok (unhide HZ0) (unhide HU) htwo)
          clear htwo
          go_wp2
          (try simp only [Exit.inBlock, Exit.then]); refine bodyPost_ret (results_tmp4 rfl _ _ _) rfl ?_
          exact ⟨by rw [unhide HE]; rfl, hbwq⟩
end Go.Proofs.Ytodbnjainpjkcaa
