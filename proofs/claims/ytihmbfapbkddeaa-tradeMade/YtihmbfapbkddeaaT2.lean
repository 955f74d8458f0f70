import Derived.Test.YtihmbfapbkddeaaT
namespace Go.Proofs.Ytihmbfapbkddeaa
open Go.RowKit
set_option maxRecDepth 100000 in
set_option maxHeartbeats 8000000 in
theorem turnsR_any (n : Nat) (wa : Option Addr) (wc : Nat) (WL : List Sl) (ta : Option Addr) (tn tc : Nat) (tl : List Int) (w : World) (hW : Lsts w wa n wc WL) (hT : Ints w ta tn tc tl) :
    Calls Try.prog 14 #[.slice wa n wc, .slice ta tn tc] w fun e w' => TuPost WL n tl w e w' := by
  have CM := hide (tradeMay_any n wa wc WL w hW)
  have CO := hide (orderOf_any ta tn tc tl n w hT)
  have HN := hide hW.1
  have h1 := hW.2.1
  have h2 := hW.2.2.1
  unfold maxLen at h2
  by_cases hz : tE WL n = 0
  · obtain ⟨hn6, hr, hfull, _⟩ := tr_ok (unhide HN) hz
    rw [hz] at CM
    by_cases hz2 : ordE tl n = 0
    · rw [hz2] at CO
      obtain ⟨i3, hi3, hz0, hz1, hz22⟩ := info_parts info3
      obtain ⟨i4, hi4, hy0, hy1, hy2⟩ := info_parts info4
      have HZ := hide (And.intro hz hz2)
      have htl : tn = n := by
        have := hT.1
        unfold ordE at hz2
        by_cases c : (tl.length : Int) = n
        · omega
        · rw [if_neg c] at hz2; omega
      subst htl
      have htr := ord_range hz2
      have HTR : Hid (∀ k, k < tn → 0 ≤ tl[k]?.getD 0 ∧ tl[k]?.getD 0 < tn) := fun k hk => htr _ (getD_mem (by have := hT.1; omega))
      have HTT : Hid (∀ k, k < tn → (tl[k]?.getD 0).toNat < tn) := fun k hk => by have := unhide HTR k hk; omega
      have htc := hT.2.1
      have htm := hT.2.2.1
      unfold maxLen at htm
      have HWW := hide hW
      have HT := hide hT
      have HR := hide hr
      have HFULL := hide hfull
      clear hz hz2 htr hW hT hr hfull
      go_enter Try.func14, Try.ntmps14
      go_wp2_with (first
        | (go_at_call 11; refine (unhide CM).mono ?_; rintro e w4 ⟨rfl, hw4⟩; subst w4)
        | (go_at_call 28; refine (unhide CO).mono ?_; rintro e w4 ⟨rfl, hw4⟩; subst w4)
        | (at_make; refine wpList_make_full _ rfl _ _ 23 rfl w.heap.size 3 i3 _ 1 Try.underlying23 hi3 hz0 hz1 .i64 .i64 _ _ tn rfl rfl rfl rfl (by rw [hz22]; omega) (by unfold maxLen; omega) (Nat.le_refl _) ?_; intro w3 ho3 hg3)
        | (at_make; refine wpList_make_full _ rfl _ _ 44 rfl w3.heap.size 4 i4 _ 1 Try.underlying44 hi4 hy0 hy1 .i64 .i64 _ _ tn rfl rfl rfl rfl (by rw [hy2]; omega) (by unfold maxLen; omega) (Nat.le_refl _) ?_; intro w4 ho4 hg4))
      have hb3 : Below w.heap.size w w3 := (Below.refl w.heap.size w).grown hg3 (Nat.le_refl _) (fun k hk => by cases hk)
      have hb4 : Below w3.heap.size w3 w4 := (Below.refl w3.heap.size w3).grown hg4 (Nat.le_refl _) (fun k hk => by cases hk)
      have hG3 := row_made ho3
      have hN4 := rowB_made ho4
      have hb04 : Below w.heap.size w w4 := hb3.trans (hb4.mono hb3.size)
      obtain ⟨gG, hgG⟩ : ∃ g, w.heap.size = g := ⟨_, rfl⟩
      obtain ⟨gN, hgN⟩ : ∃ g, w3.heap.size = g := ⟨_, rfl⟩
      have hgn : gG < gN := by
        rw [← hgN, ← hgG]
        rcases (show w3.ownsRow w.heap.size 3 1 (.slice (some ⟨w.heap.size, 0, none⟩) tn tn) tn _ from ho3).2 with ⟨h, _⟩ | ⟨g, cap, cur, h, hbg, hgg, _⟩
        · cases h
        · cases h; exact (Array.getElem?_eq_some_iff.1 hgg).1
      have hN4' : RowB w.heap.size w4 (some ⟨gN, 0, none⟩) tn (fun _ => false) := by
        rw [hgN] at hN4
        rcases hN4 with h | ⟨g, h1, h2, h3, h4, h5⟩
        · exact .inl h
        · exact .inr ⟨g, h1, by cases h1; omega, h3, h4, h5⟩
      have hG4' : Row w.heap.size w4 (some ⟨gG, 0, none⟩) tn (fun _ => 0) := by
        rw [← hgG]; exact hG3.later hb4
      have HRS := hide (And.intro hG4' hN4')
      rw [hgN, hgG]
      clear ho3 ho4 hg3 hg4 hG3 hN4 hN4' hG4' hgN hgG
      go_wp2_with fail
      go_loopw [9] (fun i wr => Below w.heap.size w wr ∧ ∃ k : Nat, k ≤ tn ∧ i = .int .i64 k ∧ Row w.heap.size wr (some ⟨gG, 0, none⟩) tn (tAll (lisA WL) tl k).2 ∧ RowB w.heap.size wr (some ⟨gN, 0, none⟩) tn (tAll (lisA WL) tl k).1) (fun i _ => tn - (intOf i).toNat)
      case atStart => exact ⟨hb04, 0, Nat.zero_le _, rfl, (unhide HRS).1, (unhide HRS).2⟩
      case round =>
        obtain ⟨hbr, k, hk, rfl, hG, hL⟩ := hrel
        clear HRS
        by_cases hlt : k < tn
        · obtain ⟨bT, oT, hta, hbT, hcT⟩ := ((unhide HT).later hbr).cellAt (by omega)
          subst hta
          have hck := hcT k hlt
          have htr := unhide HTR k hlt
          obtain ⟨t, htn, hft, hgt⟩ := turn_best (unhide HR) (unhide HFULL) (unhide HTT) hlt
          have HST : Hid (tAll (lisA WL) tl (k + 1) = tStep (lisA WL) (tl[k]?.getD 0).toNat (tAll (lisA WL) tl k)) := rfl
          obtain ⟨x, hx⟩ : ∃ x : Nat, tl[k]?.getD 0 = x := ⟨(tl[k]?.getD 0).toNat, by omega⟩
          rw [hx] at hck htr hft HST
          rw [Int.toNat_natCast] at hft HST
          have hxn : x < tn := by omega
          obtain ⟨bW, oW, hWa, hbW, hcW⟩ := ((unhide HWW).later hbr).cellAt (by omega)
          subst hWa
          have hcx := hcW x hxn
          have hbd := hbr.trans ((Below.refl _ _).drew.mono hbr.size)
          have CB := bestLeft_any (slAt WL x).la (slAt WL x).ln (slAt WL x).lc (slAt WL x).ints (some ⟨gN, 0, none⟩) tn tn (tAll (lisA WL) tl k).1 wr.drew (((unhide HWW).later hbd).mem hxn) ((hL.later (Below.refl _ _).drew).gon (Nat.le_refl _) (by unfold maxLen; omega)) (unhide HR x)
          rw [show fst (fun s => (tAll (lisA WL) tl k).1 s = false) (slAt WL x).ints = t from hft] at CB
          have C1 := hide CB
          obtain ⟨hgc, hgf, hgs, hgb⟩ := hG.at hxn
          obtain ⟨hlc, hlf, hls, hlb⟩ := hL.at htn
          have hneb : bT ≠ gG := by
            have hbw : bT < w.heap.size := by
              obtain ⟨b', o', e', h', _⟩ := (unhide HT).cellAt (by omega)
              cases e'; exact h'
            omega
          have hgx : (wr.setCell ⟨gG, x, none⟩ (.int .i64 (t : Int))).cell? ⟨gG, x, none⟩ = some (.int .i64 t) := World.cell?_setCell_same' _ _ _ (by rw [hgc]; rfl)
          have hck2 : (wr.setCell ⟨gG, x, none⟩ (.int .i64 (t : Int))).cell? ⟨bT, oT + k, none⟩ = some (.int .i64 (x : Int)) := by
            rw [World.cell?_setCell_other _ _ _ _ (by intro hh; cases hh; exact hneb rfl)]; exact hck
          have hlc2 : (wr.setCell ⟨gG, x, none⟩ (.int .i64 (t : Int))).cell? ⟨gN, t, none⟩ = some (.bool ((tAll (lisA WL) tl k).1 t)) := by
            rw [World.cell?_setCell_other _ _ _ _ (by intro hh; cases hh; omega)]; exact hlc
          have hlf2 : (wr.setCell ⟨gG, x, none⟩ (.int .i64 (t : Int))).frozen? ⟨gN, t, none⟩ = false := by rw [World.frozen?_setCell]; exact hlf
          have HP : Hid (∀ W, W = (wr.setCell ⟨gG, x, none⟩ (.int .i64 (t : Int))).setCell ⟨gN, t, none⟩ (.bool true) → Below w.heap.size w W ∧ Row w.heap.size W (some ⟨gG, 0, none⟩) tn (tAll (lisA WL) tl (k + 1)).2 ∧ RowB w.heap.size W (some ⟨gN, 0, none⟩) tn (tAll (lisA WL) tl (k + 1)).1) := fun W hWe => by
            subst hWe
            rw [unhide HST]
            unfold tStep
            rw [hft]
            refine ⟨(hbr.setCell (p := ⟨gG, x, none⟩) hgb _).setCell (p := ⟨gN, t, none⟩) hlb _, (hG.set hxn (fun j hj hjx => (if_neg hjx).symm) (if_pos rfl).symm).apart (fun b hb => by cases hb; omega), (hL.apart (fun b hb => by cases hb; omega)).set htn (fun j hj hjt => ?_) ?_⟩
            · show (tAll (lisA WL) tl k).1 j = if (j : Int) = (t : Int) then true else (tAll (lisA WL) tl k).1 j
              rw [if_neg (show ¬ (j : Int) = (t : Int) by omega)]
            · show true = if (t : Int) = (t : Int) then true else (tAll (lisA WL) tl k).1 t
              rw [if_pos rfl]
          clear CB hcW hcT hft hgt hx hG hL hbd
          generalize slAt WL x = s1 at *
          obtain ⟨sa, sn, sc, sl⟩ := s1
          simp only at hcx C1
          generalize (tAll (lisA WL) tl k).2 x = ov at *
          generalize (tAll (lisA WL) tl k).1 t = ob at *
          go_wp2_with fail
          refine wp_region_still_tail 15 (by kernel_rfl) (by kernel_rfl) ?_
          simp only [List.take_succ_cons, List.take_zero, List.drop_succ_cons, List.drop_zero]
          show wpStill Try.prog _ wr.drew (fun a' => wpList Try.prog _ _ _ a' wr.drew) _ _
          repeat (first | still_step | still_call (unhide C1))
          refine wpStill_nil ?_
          go_wp2_with fail
          obtain ⟨p1, p2, p3⟩ := unhide HP _ rfl
          go_roundw
          case rel => exact ⟨p1.trans ((Below.refl _ _).drew.mono p1.size), k + 1, by omega, by go_num, p2.later (Below.refl _ _).drew, p3.later (Below.refl _ _).drew⟩
          case measure => simp [intOf]; omega
        · obtain rfl : tn = k := by omega
          go_wp2
          go_ret2
          refine ⟨hbr, .inr (.inr ⟨(unhide HZ).1, (unhide HZ).2, _, _, rfl, hG.ints (by simp) (Nat.le_refl _) (by unfold maxLen; omega) (fun j hj => ?_)⟩)⟩
          rw [List.getElem?_map, List.getElem?_range hj]
          rfl
    · have hzb : (ordE tl n != 0) = true := by simpa using hz2
      have HZ := hide (And.intro hz hz2)
      clear hz hz2
      go_enter Try.func14, Try.ntmps14
      go_wp2_with (first | (go_at_call 11; refine (unhide CM).mono ?_; rintro e w4 ⟨rfl, hw4⟩; subst w4) | (go_at_call 28; refine (unhide CO).mono ?_; rintro e w4 ⟨rfl, hw4⟩; subst w4))
      go_ret2
      exact ⟨Below.refl _ _, .inr (.inl ⟨(unhide HZ).1, (unhide HZ).2, rfl⟩)⟩
  · have hzb : (tE WL n != 0) = true := by simpa using hz
    have HZ := hide hz
    clear hz
    go_enter Try.func14, Try.ntmps14
    go_wp2_with (go_at_call 11; refine (unhide CM).mono ?_; rintro e w4 ⟨rfl, hw4⟩; subst w4)
    go_ret2
    exact ⟨Below.refl _ _, .inl ⟨unhide HZ, rfl⟩⟩
end Go.Proofs.Ytihmbfapbkddeaa
