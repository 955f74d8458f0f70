import Derived.Test.YtodbnjainpjkcaaAA
namespace Go.Proofs.Ytodbnjainpjkcaa
open Go.RowKit
set_option maxRecDepth 100000 in
set_option maxHeartbeats 4000000 in
theorem left_ok (aL : Option Addr) (nL cL : Nat) (lL : List Ag) (aR : Option Addr) (nR cR : Nat) (lR : List Ag) (w : World) (hL : Ags w aL nL cL lL) (hR : Ags w aR nR cR lR) (hfR : ∀ g ∈ lR, g.ln ≤ 500) (hz : matchE lL lR = 0) :
    Calls Try.prog 10 #[.agg #[.slice aL nL cL, .slice aR nR cR]] w fun e w' => ∃ g ws asked, e = .returned (two (.slice (some ⟨g, 0, none⟩) nL nL) 0) ∧ Ints w' (some ⟨g, 0, none⟩) nL nL ws ∧ w.heap.size ≤ g ∧ Asks lL lR ws asked ∧ Asked lL ws asked ∧ Below w.heap.size w w' := by
  have hlL := hide hL.1
  have hlR := hide hR.1
  have hnL := hL.2.1
  have hcL := hL.2.2.1
  unfold maxLen at hcL
  have HM := hide (match_may hz)
  have hsix : nL ≤ 6 := by have := (may_six (unhide HM)).1; have := unhide hlL; omega
  obtain ⟨i3, hi3, hz0, hz1, hz2⟩ := info_parts info3
  obtain ⟨wA, hwA⟩ : ∃ y, y = w.alloc (.cells #[.slice aL nL cL, .slice aR nR cR] 26) := ⟨_, rfl⟩
  have hbA : Below w.heap.size w wA := by rw [hwA]; go_grown
  have p0a : wA.cell? ⟨w.heap.size, 0, none⟩ = some (.slice aL nL cL) := by rw [hwA]; simp
  have p1a : wA.cell? ⟨w.heap.size, 1, none⟩ = some (.slice aR nR cR) := by rw [hwA]; simp
  have HW := hide hwA
  clear hwA
  go_enter Try.func10, Try.ntmps10
  go_wp2_with fail
  rw [← unhide HW]
  refine (mmay_any aL nL cL lL aR nR cR lR wA (hL.later hbA) (hR.later hbA)).mono ?_
  rintro e w1 ⟨rfl, hb1⟩
  rw [hz]
  clear hz
  have hbw1 := hbA.trans (hb1.mono hbA.size)
  have p0b := (hb1.cell (p := ⟨w.heap.size, 0, none⟩) (World.block_lt_of_cell? wA _ p0a)).trans p0a
  have p1b := (hb1.cell (p := ⟨w.heap.size, 1, none⟩) (World.block_lt_of_cell? wA _ p1a)).trans p1a
  clear p0a p1a
  have hL1 := hL.later hbw1
  have hR1 := hR.later hbw1
  have hpw : w.heap.size < w1.heap.size := World.block_lt_of_cell? w1 _ p0b
  go_wp2_with fail
  refine (alone_any aL nL cL aR nR cR w1 hsix).mono ?_
  rintro e w2 ⟨g1, rfl, hrow1, hg1, hb2⟩
  have p0c := (hb2.cell (p := ⟨w.heap.size, 0, none⟩) (World.block_lt_of_cell? w1 _ p0b)).trans p0b
  have p1c := (hb2.cell (p := ⟨w.heap.size, 1, none⟩) (World.block_lt_of_cell? w1 _ p1b)).trans p1b
  go_wp2_with (at_make; refine wpList_make_full _ rfl _ _ 22 rfl w2.heap.size 3 i3 _ 1 Try.underlying22 hi3 hz0 hz1 .i64 .i64 _ _ nL rfl rfl rfl rfl (by rw [hz2]; omega) (by unfold maxLen; omega) (Nat.le_refl _) ?_; intro w3 ho3 hg3; have hb3 : Below w2.heap.size w2 w3 := (Below.refl w2.heap.size w2).grown hg3 (Nat.le_refl _) (fun k hk => by cases hk); have p0d := (hb3.cell (p := ⟨w.heap.size, 0, none⟩) (World.block_lt_of_cell? w2 _ p0c)).trans p0c; have p1d := (hb3.cell (p := ⟨w.heap.size, 1, none⟩) (World.block_lt_of_cell? w2 _ p1c)).trans p1c; clear p0c p1c)
  have hrow2 : Row w1.heap.size w3 (some ⟨w2.heap.size, 0, none⟩) nL (fun _ => 0) := by
    rcases ho3.2 with ⟨h, _⟩ | ⟨g, cap, cur, h, _, hgg, _, _, hcs, htake⟩
    · cases h
    · cases h
      have e : cur.toList = rowK nL 0 := by rw [← made_zer, ← htake, List.take_of_length_le (by simp [hcs])]
      refine Row.of_block (cur := cur.toList) (by simpa using hgg) hb2.size (fun j hj => ?_)
      rw [e]
      simp [rowK, hj, zer]
  have hrow1' := hrow1.later hb3
  have hb13 : Below w1.heap.size w1 w3 := hb2.trans (hb3.mono hb2.size)
  have hne12 : nL = 0 ∨ g1 < w2.heap.size := by
    rcases hrow1 with h | ⟨q, h1, _, h3, _⟩
    · exact Or.inl h
    · cases h1; exact Or.inr h3
  have HNE := hide hne12
  have HG1 := hide hg1
  have HB2 := hide hb2
  clear ho3 hg3 hrow1 hne12 hg1 hb2 hb3
  obtain ⟨g2, hg2⟩ : ∃ g, g = w2.heap.size := ⟨_, rfl⟩
  rw [← hg2] at hrow2 ⊢
  have HG2 := hide hg2
  clear hg2
  go_loopw [24] (fun i wr => Below w1.heap.size w1 wr ∧ ∃ (k : Nat) (ws asked : List Int), k ≤ nL ∧ i = .int .i64 k ∧ Row w1.heap.size wr (some ⟨g1, 0, none⟩) nL (atL ws) ∧ Row w1.heap.size wr (some ⟨g2, 0, none⟩) nL (atL asked) ∧ Asks lL lR ws asked ∧
      (∀ j, j < k → atL ws j = -1 → ((agAt lL j).likes.length : Int) ≤ atL asked j) ∧ (∀ j, k ≤ j → j < nL → atL ws j = -1)) (fun i _ => nL - (intOf i).toNat)
  case atStart =>
    refine ⟨hb13, 0, List.replicate lL.length (-1), List.replicate lL.length 0, Nat.zero_le _, rfl, hrow1'.same (fun j hj => (alone_at _ _ (by have := unhide hlL; omega)).symm), hrow2.same (fun j _ => (zero_at _ _).symm), Asks.start lL lR, fun j hj => by omega, fun j _ hj => alone_at _ _ (by have := unhide hlL; omega)⟩
  case round =>
    obtain ⟨hbr, k, ws, asked, hk, rfl, hr1, hr2, hA, hfin, hnew⟩ := hrel
    by_cases hlt : k < nL
    · clear hrow1' hrow2
      have HFIN := hide hfin
      have HNEW := hide hnew
      have HA0 := hide hA
      clear hfin hnew hA
      go_wp2_with fail
      go_loopw [8] (fun i wq => Below w1.heap.size w1 wq ∧ ∃ (ws asked : List Int), Row w1.heap.size wq (some ⟨g1, 0, none⟩) nL (atL ws) ∧ Row w1.heap.size wq (some ⟨g2, 0, none⟩) nL (atL asked) ∧ Asks lL lR ws asked ∧
          (i = .int .i64 (-1) ∨ ∃ m : Nat, i = .int .i64 m ∧ m ≤ k ∧ atL ws m = -1) ∧ (∀ j, j ≤ k → i ≠ .int .i64 j → atL ws j = -1 → ((agAt lL j).likes.length : Int) ≤ atL asked j) ∧ (∀ j, k < j → j < nL → atL ws j = -1)) (fun _ wq => leftQ lL (intAt wq g2) nL)
      case atStart =>
        exact ⟨hbr, ws, asked, hr1, hr2, unhide HA0, Or.inr ⟨k, rfl, Nat.le_refl _, unhide HNEW k (Nat.le_refl _) hlt⟩, fun j hj hne => unhide HFIN j (by
          rcases Nat.lt_or_eq_of_le hj with h | h
          · exact h
          · subst h; exact absurd rfl hne), fun j hj hjn => unhide HNEW j (by omega) hjn⟩
      case round =>
        rename World => wq
        clear HFIN HNEW HA0 hr1 hr2 hbr
        obtain ⟨hbq, ws, asked, hr1, hr2, hA, hwho, hfin, hnew⟩ := hrel
        have HA := hide hA
        have HFIN := hide hfin
        have HNEW := hide hnew
        clear hA hfin hnew
        rcases hwho with rfl | ⟨m, rfl, hmk, hal⟩
        · go_wp2_with fail
          go_quiet (fail)
          go_wp2
          go_roundw
          case rel => exact ⟨hbq.trans (below_drewN _ _ _), k+1, ws, asked, by omega, by go_num, hr1.later (below_drewN _ _ _), hr2.later (below_drewN _ _ _), unhide HA, fun j hj => unhide HFIN j (by omega) (by intro h; cases h), fun j hj hjn => unhide HNEW j (by omega) hjn⟩
          case measure => simp [intOf]; omega
        · have hmn : m < nL := by omega
          have hlens := (unhide HA).lens
          have HLEN := hide hlens
          clear hlens
          have hbwq : Below w.heap.size w wq := hbw1.trans (hbq.mono hbw1.size)
          have p0q := (hbq.cell (p := ⟨w.heap.size, 0, none⟩) (World.block_lt_of_cell? w1 _ p0b)).trans p0b
          have p1q := (hbq.cell (p := ⟨w.heap.size, 1, none⟩) (World.block_lt_of_cell? w1 _ p1b)).trans p1b
          obtain ⟨bL, oL, rfl, hbL, q1, q2, q3⟩ := (hL.later hbwq).at hmn
          have hIL := (hL.mem hmn).1
          have HLK := hide (show (agAt lL m).likes.length = (agAt lL m).ln from hIL.1.symm)
          have HST := hide (fun hh => (unhide HA).step (who := m) (by have := unhide hlL; omega) hal hh)
          have HLR := hide (fun (t : Nat) (ht : t < (agAt lL m).likes.length) => likes_left (unhide HM) (l := m) (by have := unhide hlL; omega) ht)
          obtain ⟨c2, f2⟩ : wq.cell? ⟨g2, m, none⟩ = some (.int .i64 (atL asked m)) ∧ wq.frozen? ⟨g2, m, none⟩ = false := by
            rcases hr2 with h | ⟨q, h1, _, _, h4, h5⟩
            · omega
            · cases h1; exact ⟨h4 m hmn, h5 m hmn⟩
          have hx0 := (unhide HLEN).2.2 m
          by_cases hmore : atL asked m < (agAt lL m).likes.length
          · obtain ⟨t, ht⟩ : ∃ t : Nat, atL asked m = t := ⟨(atL asked m).toNat, by omega⟩
            have hR0 := unhide HLR t (by omega)
            obtain ⟨r, hr⟩ : ∃ r : Nat, atL (agAt lL m).likes t = r := ⟨(atL (agAt lL m).likes t).toNat, by omega⟩
            have hask : askR lL asked m = r := by unfold askR; rw [ht, Int.toNat_natCast]; exact hr
            have hrR : r < nR := by have := unhide hlR; omega
            have hstep := unhide HST hmore
            unfold stepW at hstep
            rw [hask, Int.toNat_natCast] at hstep
            have hcell := hIL.cellAt (by have := unhide HLK; omega)
            have HSTEP := hide hstep
            rw [ht] at c2
            have htl : t < (agAt lL m).ln := by have := unhide HLK; omega
            have HMORE := hide (show 0 ≤ atL asked m ∧ atL asked m < (agAt lL m).likes.length from ⟨hx0, hmore⟩)
            have HT := hide ht
            clear hstep hask hR0 hmore ht hx0
            have hlnm := hIL.2.1
            have hlcm := hIL.2.2.1
            unfold maxLen at hlcm
            have HRR := hide hr
            clear hr HLR HST
            generalize hGG : agAt lL m = G at *
            obtain ⟨nm, room, la, ln, lc, likes⟩ := G
            simp only at q1 q2 q3 hIL HLK hcell htl HRR hlnm hlcm HMORE
            have HGG := hide hGG
            clear hGG
            obtain ⟨lb, lo, rfl, hlb, hlcell⟩ := hcell
            have hl0 := (hbwq.cell (p := ⟨lb, lo + t, none⟩) hlb).trans (hlcell t htl)
            rw [show likes[t]?.getD 0 = (r : Int) from unhide HRR] at hl0
            clear hlcell
            have hdt : decide ((t : Int) < (ln : Int)) = true := by simp; omega
            go_wp2_with fail
            go_quiet (fail)
            have hbd1 := below_drewN wq.heap.size wq nq
            have c2a := (hbd1.cell (p := ⟨g2, m, none⟩) (World.block_lt_of_cell? wq _ c2)).trans c2
            have f2a := (hbd1.frozen (p := ⟨g2, m, none⟩) (World.block_lt_of_cell? wq _ c2)).trans f2
            have q1a := (hbd1.cell (p := ⟨bL, oL + m * 3, none⟩) hbL).trans q1
            have q2a := (hbd1.cell (p := ⟨bL, oL + m * 3 + 1, none⟩) hbL).trans q2
            have q3a := (hbd1.cell (p := ⟨bL, oL + m * 3 + 2, none⟩) hbL).trans q3
            have l0a := (hbd1.cell (p := ⟨lb, lo + t, none⟩) (World.block_lt_of_cell? wq _ hl0)).trans hl0
            have p0e := (hbd1.cell (p := ⟨w.heap.size, 0, none⟩) (World.block_lt_of_cell? wq _ p0q)).trans p0q
            have p1e := (hbd1.cell (p := ⟨w.heap.size, 1, none⟩) (World.block_lt_of_cell? wq _ p1q)).trans p1q
            have hbqa := hbq.trans (hbd1.mono hbq.size)
            have hr1a := hr1.later hbd1
            have hr2a := hr2.later hbd1
            have hbLa := Nat.lt_of_lt_of_le hbL hbd1.size
            have HBD1 := hide hbd1
            clear c2 f2 q1 q2 q3 hl0 p0q p1q hbd1
            generalize wq.drewN nq = wa at *
            go_wp2_with fail
            go_quiet (fail)
            have hbd2 := below_drewN wa.heap.size wa nq
            have c2b := (hbd2.cell (p := ⟨g2, m, none⟩) (World.block_lt_of_cell? wa _ c2a)).trans c2a
            have f2b := (hbd2.frozen (p := ⟨g2, m, none⟩) (World.block_lt_of_cell? wa _ c2a)).trans f2a
            have p0f := (hbd2.cell (p := ⟨w.heap.size, 0, none⟩) (World.block_lt_of_cell? wa _ p0e)).trans p0e
            have p1f := (hbd2.cell (p := ⟨w.heap.size, 1, none⟩) (World.block_lt_of_cell? wa _ p1e)).trans p1e
            have hbqb := hbqa.trans (hbd2.mono hbqa.size)
            have hr1b := hr1a.later hbd2
            have hr2b := hr2a.later hbd2
            clear c2a f2a q1a q2a q3a l0a p0e p1e hbd2
            generalize wa.drewN nq = wb at *
            have hr2c : Row w1.heap.size (wb.setCell ⟨g2, m, none⟩ (.int .i64 ((t : Int) + 1))) (some ⟨g2, 0, none⟩) nL (atL (stepA asked m)) :=
              hr2b.set hmn (fun j hj hne => by unfold stepA; rw [set_at asked m _ j (by have := (unhide HLEN).2.1; have := unhide hlL; omega), if_neg hne]) (by unfold stepA; rw [set_at asked m _ m (by have := (unhide HLEN).2.1; have := unhide hlL; omega), if_pos rfl, unhide HT])
            have hgb := grownBy_set wb g2 m (.int .i64 ((t : Int) + 1))
            have hne : g1 ≠ g2 := by have := unhide HG2; rcases unhide HNE with h | h <;> omega
            have hr1c := hr1b.far hgb hne
            have hbqc : Below w1.heap.size w1 (wb.setCell ⟨g2, m, none⟩ (.int .i64 ((t : Int) + 1))) := hbqb.setCell (by have := (unhide HB2).size; have := unhide HG2; simp; omega) _
            have hpg : w.heap.size ≠ g2 := by have := (unhide HB2).size; have := unhide HG2; omega
            have p0g : (wb.setCell ⟨g2, m, none⟩ (.int .i64 ((t : Int) + 1))).cell? ⟨w.heap.size, 0, none⟩ = some (.slice (some ⟨bL, oL, none⟩) nL cL) := by rw [World.cell?_setCell_far _ _ _ _ (fun e => hpg e.symm)]; exact p0f
            have p1g : (wb.setCell ⟨g2, m, none⟩ (.int .i64 ((t : Int) + 1))).cell? ⟨w.heap.size, 1, none⟩ = some (.slice aR nR cR) := by rw [World.cell?_setCell_far _ _ _ _ (fun e => hpg e.symm)]; exact p1f
            have hcnt : nL ≤ maxLen := by unfold maxLen; omega
            have HTT := hide (show (t : Int) + 1 ≤ 9223372036854775807 by omega)
            go_wp2_with fail
            generalize wb.setCell ⟨g2, m, none⟩ (.int .i64 ((t : Int) + 1)) = wc at *
            refine (take_any w1 _ nL cL aR nR cR lR hR1 hfR wc hbqc g1 nL nL ws (by have := (unhide HLEN).1; have := unhide hlL; omega) (Nat.le_refl _) hcnt hr1c m r hmn hrR).mono ?_
            rintro e wd ⟨rfl, hr1d, hgd⟩
            have hbqd : Below w1.heap.size w1 wd := hbqc.grown hgd hbqc.size (fun q hq => by cases hq; exact unhide HG1)
            have hr2d := hr2c.far hgd (fun e => hne e.symm)
            have HMS : Hid (leftQ lL (intAt wd g2) nL < leftQ lL (intAt wq g2) nL) := by
              show _ < _
              rw [leftQ_same (g := atL (stepA asked m)) nL (fun j hj => hr2d.intAt hj), leftQ_same (f := intAt wq g2) (g := atL asked) nL (fun j hj => hr2.intAt hj)]
              refine leftQ_less nL hmn (fun j hj hjm => ?_) (unhide HMORE).1 (by rw [unhide HGG]; exact (unhide HMORE).2) ?_
              · unfold stepA; rw [set_at asked m _ j (by have := (unhide HLEN).2.1; have := unhide hlL; omega), if_neg hjm]
              · unfold stepA; rw [set_at asked m _ m (by have := (unhide HLEN).2.1; have := unhide hlL; omega), if_pos rfl]
            have HAS : Hid (∀ j, j ≠ m → atL (stepA asked m) j = atL asked j) := fun j hjm => by unfold stepA; rw [set_at asked m _ j (by have := (unhide HLEN).2.1; have := unhide hlL; omega), if_neg hjm]
            have hTC := take_cases (agAt lR r).likes (agAt lR r).room ws m (r : Int) (by have := (unhide HLEN).1; have := unhide hlL; omega) hal
            have HR1D := hide hr1d
            have HR2D := hide hr2d
            clear p0g p1g p0f p1f c2b f2b hr1 hr2 hr1a hr1b hr1c hr2a hr2b hr2c hr1d hr2d
            rcases hTC with ⟨ho, hwm, hoth⟩ | ⟨m2, hm2, ho, hw2, hor, hoth⟩
            · have HWM := hide hwm
              have HOTH := hide hoth
              clear hwm hoth
              rw [ho]
              clear ho
              go_wp2
              go_roundw
              case rel =>
                refine ⟨hbqd, _, _, unhide HR1D, unhide HR2D, unhide HSTEP, Or.inl rfl, fun j hj hi hjw => ?_, fun j hj hjn => ?_⟩
                · by_cases hjm : j = m
                  · subst hjm; rw [unhide HWM] at hjw; omega
                  · rw [unhide HOTH j hjm] at hjw
                    rw [unhide HAS j hjm]
                    exact unhide HFIN j hj (by intro h; injection h with _ h; exact hjm (by omega)) hjw
                · rw [unhide HOTH j (by omega)]
                  exact unhide HNEW j hj hjn
              case measure => exact unhide HMS
            · have HW2 := hide hw2
              have HOR := hide hor
              have HOTH := hide hoth
              have HM2 := hide hm2
              clear hw2 hor hoth hm2
              rw [ho]
              clear ho
              go_wp2
              go_roundw
              case rel =>
                have hm2k : m2 ≤ k := by
                  rcases unhide HOR with h | ⟨h, _⟩
                  · omega
                  · rcases Nat.lt_or_ge k m2 with h' | h'
                    · have := unhide HNEW m2 h' (by have := unhide HM2; have := (unhide HLEN).1; have := unhide hlL; omega)
                      omega
                    · exact h'
                refine ⟨hbqd, _, _, unhide HR1D, unhide HR2D, unhide HSTEP, Or.inr ⟨m2, rfl, hm2k, unhide HW2⟩, fun j hj hi hjw => ?_, fun j hj hjn => ?_⟩
                · have hjm2 : j ≠ m2 := fun e => hi (by rw [e])
                  by_cases hjm : j = m
                  · subst hjm
                    rcases unhide HOR with h | ⟨_, h⟩
                    · exact absurd h.symm hjm2
                    · rw [h] at hjw; omega
                  · rw [unhide HOTH j hjm hjm2] at hjw
                    rw [unhide HAS j hjm]
                    exact unhide HFIN j hj (by intro h; injection h with _ h; exact hjm (by omega)) hjw
                · rw [unhide HOTH j (by omega) (by omega)]
                  exact unhide HNEW j hj hjn
              case measure => exact unhide HMS
          · have HMORE := hide (show ((agAt lL m).likes.length : Int) ≤ atL asked m by omega)
            have hdt : decide (atL asked m < ((agAt lL m).ln : Int)) = false := by have := unhide HLK; simp; omega
            clear hmore hx0 HLR HST
            have HGM := hide (rfl : agAt lL m = agAt lL m)
            generalize agAt lL m = G at q1 q2 q3 hdt hIL
            obtain ⟨nm, room, la, ln, lc, likes⟩ := G
            simp only at q1 q2 q3 hdt hIL
            have hlnm := hIL.2.1
            have hlcm := hIL.2.2.1
            unfold maxLen at hlcm
            go_wp2_with fail
            go_quiet (fail)
            go_wp2
            go_roundw
            case rel =>
              refine ⟨hbq.trans (below_drewN _ _ _), k+1, ws, asked, by omega, by go_num, hr1.later (below_drewN _ _ _), hr2.later (below_drewN _ _ _), unhide HA, fun j hj hjw => ?_, fun j hj hjn => unhide HNEW j (by omega) hjn⟩
              by_cases hjm : j = m
              · subst hjm; exact unhide HMORE
              · exact unhide HFIN j (by omega) (by intro h; injection h with _ h; exact hjm (by omega)) hjw
            case measure => simp [intOf]; omega
    · go_wp2
      go_ret2
      have hkn : k = nL := by omega
      subst hkn
      refine ⟨g1, ws, asked, rfl, hr1.ints' (by have := hA.lens.1; have := unhide hlL; omega) (Nat.le_refl _) (by unfold maxLen; omega), Nat.le_trans hbw1.size (unhide HG1), hA, fun j hj hjw => hfin j (by have := unhide hlL; omega) hjw, hbw1.trans (hbr.mono hbw1.size)⟩
set_option maxRecDepth 100000 in
theorem left_err (aL : Option Addr) (nL cL : Nat) (lL : List Ag) (aR : Option Addr) (nR cR : Nat) (lR : List Ag) (w : World) (hL : Ags w aL nL cL lL) (hR : Ags w aR nR cR lR) (hz : ¬ matchE lL lR = 0) :
    Calls Try.prog 10 #[.agg #[.slice aL nL cL, .slice aR nR cR]] w fun e w' => e = .returned (two (.slice none 0 0) (matchE lL lR)) ∧ Below w.heap.size w w' := by
  obtain ⟨wA, hwA⟩ : ∃ y, y = w.alloc (.cells #[.slice aL nL cL, .slice aR nR cR] 26) := ⟨_, rfl⟩
  have hbA : Below w.heap.size w wA := by rw [hwA]; go_grown
  have HW := hide hwA
  clear hwA
  have hzb : (matchE lL lR != 0) = true := by simpa using hz
  clear hz
  go_enter Try.func10, Try.ntmps10
  go_wp2_with fail
  rw [← unhide HW]
  refine (mmay_any aL nL cL lL aR nR cR lR wA (hL.later hbA) (hR.later hbA)).mono ?_
  rintro e w1 ⟨rfl, hb1⟩
  go_wp2
  go_ret2
  exact ⟨rfl, hbA.trans (hb1.mono hbA.size)⟩
set_option maxRecDepth 100000 in
theorem right_err (aL : Option Addr) (nL cL : Nat) (lL : List Ag) (aR : Option Addr) (nR cR : Nat) (lR : List Ag) (w : World) (hL : Ags w aL nL cL lL) (hR : Ags w aR nR cR lR) (hz : ¬ matchE lL lR = 0) :
    Calls Try.prog 11 #[.agg #[.slice aL nL cL, .slice aR nR cR]] w fun e w' => e = .returned (two (.slice none 0 0) (matchE lL lR)) ∧ Below w.heap.size w w' := by
  obtain ⟨wA, hwA⟩ : ∃ y, y = w.alloc (.cells #[.slice aL nL cL, .slice aR nR cR] 26) := ⟨_, rfl⟩
  have hbA : Below w.heap.size w wA := by rw [hwA]; go_grown
  have HW := hide hwA
  clear hwA
  have hzb : (matchE lL lR != 0) = true := by simpa using hz
  clear hz
  go_enter Try.func11, Try.ntmps11
  go_wp2_with fail
  rw [← unhide HW]
  refine (mmay_any aL nL cL lL aR nR cR lR wA (hL.later hbA) (hR.later hbA)).mono ?_
  rintro e w1 ⟨rfl, hb1⟩
  go_wp2
  go_ret2
  exact ⟨rfl, hbA.trans (hb1.mono hbA.size)⟩
set_option maxRecDepth 100000 in
theorem all_err (aL : Option Addr) (nL cL : Nat) (lL : List Ag) (aR : Option Addr) (nR cR : Nat) (lR : List Ag) (w : World) (hL : Ags w aL nL cL lL) (hR : Ags w aR nR cR lR) (hz : ¬ matchE lL lR = 0) :
    Calls Try.prog 15 #[.agg #[.slice aL nL cL, .slice aR nR cR]] w fun e w' => e = .returned (two (.slice none 0 0) (matchE lL lR)) ∧ Below w.heap.size w w' := by
  obtain ⟨wA, hwA⟩ : ∃ y, y = w.alloc (.cells #[.slice aL nL cL, .slice aR nR cR] 26) := ⟨_, rfl⟩
  have hbA : Below w.heap.size w wA := by rw [hwA]; go_grown
  have HW := hide hwA
  clear hwA
  have hzb : (matchE lL lR != 0) = true := by simpa using hz
  clear hz
  go_enter Try.func15, Try.ntmps15
  go_wp2_with fail
  rw [← unhide HW]
  refine (mmay_any aL nL cL lL aR nR cR lR wA (hL.later hbA) (hR.later hbA)).mono ?_
  rintro e w1 ⟨rfl, hb1⟩
  go_wp2
  go_ret2
  exact ⟨rfl, hbA.trans (hb1.mono hbA.size)⟩
end Go.Proofs.Ytodbnjainpjkcaa
