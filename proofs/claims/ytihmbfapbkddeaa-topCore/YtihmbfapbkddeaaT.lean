import Derived.Test.YtihmbfapbkddeaaR
import Derived.Deep.RegionWith
namespace Go.Proofs.Ytihmbfapbkddeaa
open Go.RowKit
theorem sub_len : ∀ (A B : List Nat), A.Nodup → (∀ x ∈ A, x ∈ B) → A.length ≤ B.length := by
  intro A
  induction A with
  | nil => intro B _ _; simp
  | cons x A ih =>
    intro B hn hs
    have hx : x ∈ B := hs x (by simp)
    have h1 := ih (B.erase x) (List.nodup_cons.1 hn).2 (fun y hy => by
      have hne : y ≠ x := fun e => by subst e; exact (List.nodup_cons.1 hn).1 hy
      exact (List.mem_erase_of_ne hne).2 (hs y (by simp [hy])))
    rw [List.length_erase_of_mem hx] at h1
    have : 0 < B.length := List.length_pos_of_mem hx
    rw [List.length_cons]
    omega
/-- In turn each takes the best that is there. -/
def tStep (wi : Nat → List Int) (x : Nat) (s : (Nat → Bool) × (Nat → Int)) : (Nat → Bool) × (Nat → Int) :=
  (fun j => if (j : Int) = fst (fun s' => s.1 s' = false) (wi x) then true else s.1 j, fun j => if j = x then fst (fun s' => s.1 s' = false) (wi x) else s.2 j)
def tAll (wi : Nat → List Int) (tl : List Int) : Nat → (Nat → Bool) × (Nat → Int)
  | 0 => (fun _ => false, fun _ => 0)
  | k + 1 => tStep wi (tl[k]?.getD 0).toNat (tAll wi tl k)
theorem turn_some {wi : Nat → List Int} {tl : List Int} {n : Nat} :
    ∀ k, k ≤ n → ∃ L : List Nat, L.length = k ∧ ∀ s, (tAll wi tl k).1 s = true → s ∈ L := by
  intro k
  induction k with
  | zero => intro _; exact ⟨[], rfl, fun s h => by cases h⟩
  | succ k ih =>
    intro hk
    obtain ⟨L, h1, h2⟩ := ih (by omega)
    refine ⟨(fst (fun s' => (tAll wi tl k).1 s' = false) (wi (tl[k]?.getD 0).toNat)).toNat :: L, by simp [h1], fun s hs => ?_⟩
    have hs : (if (s : Int) = fst (fun s' => (tAll wi tl k).1 s' = false) (wi (tl[k]?.getD 0).toNat) then true else (tAll wi tl k).1 s) = true := hs
    by_cases e : (s : Int) = fst (fun s' => (tAll wi tl k).1 s' = false) (wi (tl[k]?.getD 0).toNat)
    · rw [← e, Int.toNat_natCast]; simp
    · rw [if_neg e] at hs
      simp [h2 s hs]
theorem turn_best {wi : Nat → List Int} {tl : List Int} {n : Nat} (hr : ∀ i, ∀ x ∈ wi i, 0 ≤ x ∧ x < n) (hfull : ∀ i, i < n → ∀ k, k < n → (k : Int) ∈ wi i) (ht : ∀ k, k < n → (tl[k]?.getD 0).toNat < n) {k : Nat} (hk : k < n) :
    ∃ t : Nat, t < n ∧ fst (fun s => (tAll wi tl k).1 s = false) (wi (tl[k]?.getD 0).toNat) = t ∧ (tAll wi tl k).1 t = false := by
  obtain ⟨L, h1, h2⟩ := turn_some (n := n) (wi := wi) (tl := tl) k (by omega)
  rcases fst_spec (p := fun s => (tAll wi tl k).1 s = false) (l := wi (tl[k]?.getD 0).toNat) with h | ⟨h, h'⟩
  · exfalso
    have h3 := fst_none (fun x hx => (hr _ x hx).1) h
    have h4 := sub_len (List.range n) L List.nodup_range (fun s hs => by
      have hs := List.mem_range.1 hs
      have := h3 (s : Int) (hfull _ (ht k hk) s hs)
      rw [Int.toNat_natCast] at this
      refine h2 s ?_
      cases hv : (tAll wi tl k).1 s
      · exact absurd hv this
      · rfl)
    rw [List.length_range] at h4
    omega
  · have := hr _ _ h
    exact ⟨(fst (fun s => (tAll wi tl k).1 s = false) (wi (tl[k]?.getD 0).toNat)).toNat, by omega, by omega, h'⟩
def TuPost (WL : List Sl) (n : Nat) (tl : List Int) (w : World) (e : Ending) (w' : World) : Prop :=
  Below w.heap.size w w' ∧ ((tE WL n ≠ 0 ∧ e = .returned (two (.slice none 0 0) (tE WL n))) ∨ (tE WL n = 0 ∧ ordE tl n ≠ 0 ∧ e = .returned (two (.slice none 0 0) (ordE tl n))) ∨
    (tE WL n = 0 ∧ ordE tl n = 0 ∧ ∃ a c, e = .returned (two (.slice a n c) 0) ∧ Ints w' a n c ((List.range n).map (tAll (lisA WL) tl n).2)))
theorem lof (b : Bool) : (0 : Int) < (if b = true then 0 else 1) ↔ b = false := by cases b <;> simp
set_option maxRecDepth 100000 in
set_option maxHeartbeats 8000000 in
theorem turns_any (n : Nat) (wa : Option Addr) (wc : Nat) (WL : List Sl) (ta : Option Addr) (tn tc : Nat) (tl : List Int) (w : World) (hW : Lsts w wa n wc WL) (hT : Ints w ta tn tc tl) :
    Calls Try.prog 13 #[.slice wa n wc, .slice ta tn tc] w fun e w' => TuPost WL n tl w e w' := by
  have CM := hide (tmay_any n wa wc WL w hW)
  have CO := hide (ordersMay_any ta tn tc tl n w hT)
  have HN := hide hW.1
  have h1 := hW.2.1
  have h2 := hW.2.2.1
  unfold maxLen at h2
  by_cases hz : tE WL n = 0
  · obtain ⟨hn6, hr, hfull, _⟩ := tr_ok (unhide HN) hz
    rw [hz] at CM
    by_cases hz2 : ordE tl n = 0
    · rw [hz2] at CO
      obtain ⟨i3, hi3, hz0, hz1, hz22⟩ := info_parts info3
      have HZ := hide (And.intro hz hz2)
      have htl : tn = n := by
        have := hT.1
        unfold ordE at hz2
        by_cases c : (tl.length : Int) = n
        · omega
        · rw [if_neg c] at hz2; omega
      subst htl
      have htr := ord_range hz2
      have HTR : Hid (∀ k, k < tn → 0 ≤ tl[k]?.getD 0 ∧ tl[k]?.getD 0 < tn) := fun k hk => htr _ (getD_mem (by have := hT.1; omega))
      have HTT : Hid (∀ k, k < tn → (tl[k]?.getD 0).toNat < tn) := fun k hk => by have := unhide HTR k hk; omega
      have htc := hT.2.1
      have htm := hT.2.2.1
      unfold maxLen at htm
      have HWW := hide hW
      have HT := hide hT
      have HR := hide hr
      have HFULL := hide hfull
      clear hz hz2 htr hW hT hr hfull
      obtain ⟨mk, HMK⟩ : ∃ mk : World → World, Hid (∀ W : World, (Instr.makeSlice 23 (.int .i64 tn) (.int .i64 tn)).run Try.prog W = .ok (.slice (some ⟨W.heap.size, 0, none⟩) tn tn) (mk W) ∧ (mk W).ownsRow W.heap.size 3 1 (.slice (some ⟨W.heap.size, 0, none⟩) tn tn) tn (madeCells (Value.int .i64 0).cells (tn * 1)).toList ∧ W.grownBy (mk W) none) := by
        have hex := fun W : World => run_make_full (P := Try.prog) W W.heap.size 23 3 i3 _ 1 Try.underlying23 hi3 hz0 hz1 .i64 .i64 tn (by rw [hz22]; omega) (by unfold maxLen; omega) (Nat.le_refl _)
        exact ⟨fun W => Classical.choose (hex W), fun W => Classical.choose_spec (hex W)⟩
      have hmk := fun W => (unhide HMK W).1
      have HMB : Hid (∀ W, Below W.heap.size W (mk W) ∧ Row W.heap.size (mk W) (some ⟨W.heap.size, 0, none⟩) tn (fun _ => 0) ∧ W.heap.size < (mk W).heap.size) := fun W => by
        obtain ⟨_, h2, h3⟩ := unhide HMK W
        refine ⟨(Below.refl W.heap.size W).grown h3 (Nat.le_refl _) (fun k hk => by cases hk), row_made h2, ?_⟩
        rcases h2.2 with ⟨h, _⟩ | ⟨g, cap, cur, h, hbg, hgg, _⟩
        · cases h
        · cases h; exact (Array.getElem?_eq_some_iff.1 hgg).1
      go_enter Try.func13, Try.ntmps13
      go_wp2_with (first | (go_at_call 10; refine (unhide CM).mono ?_; rintro e w4 ⟨rfl, hw4⟩; subst w4) | (go_at_call 27; refine (unhide CO).mono ?_; rintro e w4 ⟨rfl, hw4⟩; subst w4))
      go_cut [8, 9] from 24 to 28 (fun s8 s9 wc => ∃ gG gL, s8 = .slice (some ⟨gG, 0, none⟩) tn tn ∧ s9 = .slice (some ⟨gL, 0, none⟩) tn tn ∧ Below w.heap.size w wc ∧ (0 < tn → gG ≠ gL) ∧ Row w.heap.size wc (some ⟨gG, 0, none⟩) tn (fun _ => 0) ∧ Row w.heap.size wc (some ⟨gL, 0, none⟩) tn (fun _ => 1))
      case first =>
        go_region_with (first | (go_at_call 25; refine (oneEach_any tn wa wc _ hn6).mono ?_; rintro e w5 ⟨gL, rfl, hL5, hb5⟩))
        · go_wp2_with fail
          go_meet
          case rel =>
            obtain ⟨m1, m2, m3⟩ := unhide HMB w.drew
            have hbd : Below w.heap.size w w.drew := (Below.refl _ _).drew
            have hb1 : Below w.heap.size w (mk w.drew) := hbd.trans m1
            have hb2 : Below w.heap.size w w5 := hb1.trans (hb5.mono hb1.size)
            refine ⟨w.heap.size, gL, rfl, rfl, hb2, fun h => ?_, m2.later hb5, ?_⟩
            · have := (hL5.at h).2.2.2
              have h3 : w.heap.size < (mk w.drew).heap.size := m3
              omega
            · rcases hL5 with h | ⟨g, h1, h2, h3, h4, h5⟩
              · exact .inl h
              · exact .inr ⟨g, h1, by have := hb1.size; omega, h3, h4, h5⟩
        · go_wp2_with fail
          go_meet
          case rel =>
            obtain ⟨m1, m2, m3⟩ := unhide HMB w5
            have hb1 : Below w.heap.size w w5 := (show Below w.heap.size w w.drew from (Below.refl _ _).drew).trans hb5
            have hb2 : Below w.heap.size w (mk w5) := hb1.trans (m1.mono hb1.size)
            refine ⟨w5.heap.size, gL, rfl, rfl, hb2, fun h => ?_, ?_, hL5.later m1⟩
            · have := (hL5.at h).2.2.1
              omega
            · rcases m2 with h | ⟨g, h1, h2, h3, h4, h5⟩
              · exact .inl h
              · exact .inr ⟨g, h1, by have := hb1.size; omega, h3, h4, h5⟩
      case rest =>
        obtain ⟨gG, gL, rfl, rfl, hbc, hne, hG0, hL0⟩ := hcut
        have HRS := hide (And.intro hG0 hL0)
        have HNE := hide hne
        clear hG0 hL0 hne hmk HMB
        go_wp2_with fail
        go_loopw [31, 11] (fun i _ wr => Below w.heap.size w wr ∧ ∃ k : Nat, k ≤ tn ∧ i = .int .i64 k ∧ Row w.heap.size wr (some ⟨gG, 0, none⟩) tn (tAll (lisA WL) tl k).2 ∧ Row w.heap.size wr (some ⟨gL, 0, none⟩) tn (fun s => if (tAll (lisA WL) tl k).1 s = true then 0 else 1)) (fun i _ _ => tn - (intOf i).toNat)
        case atStart => exact ⟨hbc, 0, Nat.zero_le _, rfl, (unhide HRS).1, (unhide HRS).2⟩
        case round =>
          obtain ⟨hbr, k, hk, rfl, hG, hL⟩ := hrel
          clear HRS
          by_cases hlt : k < tn
          · obtain ⟨bT, oT, hta, hbT, hcT⟩ := ((unhide HT).later hbr).cellAt (by omega)
            subst hta
            have hck := hcT k hlt
            have htr := unhide HTR k hlt
            obtain ⟨t, htn, hft, hgt⟩ := turn_best (unhide HR) (unhide HFULL) (unhide HTT) hlt
            have HST : Hid (tAll (lisA WL) tl (k + 1) = tStep (lisA WL) (tl[k]?.getD 0).toNat (tAll (lisA WL) tl k)) := rfl
            obtain ⟨x, hx⟩ : ∃ x : Nat, tl[k]?.getD 0 = x := ⟨(tl[k]?.getD 0).toNat, by omega⟩
            rw [hx] at hck htr hft HST
            rw [Int.toNat_natCast] at hft HST
            have hxn : x < tn := by omega
            have hgL : gG ≠ gL := unhide HNE (by omega)
            obtain ⟨bW, oW, hWa, hbW, hcW⟩ := ((unhide HWW).later hbr).cellAt (by omega)
            subst hWa
            have hcx := hcW x hxn
            have CB := best_any (slAt WL x).la (slAt WL x).ln (slAt WL x).lc (slAt WL x).ints (some ⟨gL, 0, none⟩) tn tn (fun s => if (tAll (lisA WL) tl k).1 s = true then 0 else 1) wr (((unhide HWW).later hbr).mem hxn) (hL.cel (Nat.le_refl _) (by unfold maxLen; omega)) (unhide HR x)
            rw [fst_congr (q := fun s => (tAll (lisA WL) tl k).1 s = false) (fun y _ => lof _), show fst (fun s => (tAll (lisA WL) tl k).1 s = false) (slAt WL x).ints = t from hft] at CB
            have C1 := hide CB
            obtain ⟨hgc, hgf, hgs, hgb⟩ := hG.at hxn
            obtain ⟨hlc, hlf, hls, hlb⟩ := hL.at htn
            have e1 : (if (tAll (lisA WL) tl k).1 t = true then (0 : Int) else 1) = 1 := by rw [hgt]; rfl
            have hlc1 : wr.cell? ⟨gL, t, none⟩ = some (.int .i64 1) := by rw [hlc]; show some (Value.int .i64 (if (tAll (lisA WL) tl k).1 t = true then 0 else 1)) = _; rw [e1]
            have hgx : (wr.setCell ⟨gG, x, none⟩ (.int .i64 (t : Int))).cell? ⟨gG, x, none⟩ = some (.int .i64 t) := World.cell?_setCell_same' _ _ _ (by rw [hgc]; rfl)
            have hlc2 : (wr.setCell ⟨gG, x, none⟩ (.int .i64 (t : Int))).cell? ⟨gL, t, none⟩ = some (.int .i64 1) := by
              rw [World.cell?_setCell_other _ _ _ _ (by intro hh; cases hh; exact hgL rfl)]; exact hlc1
            have hlf2 : (wr.setCell ⟨gG, x, none⟩ (.int .i64 (t : Int))).frozen? ⟨gL, t, none⟩ = false := by rw [World.frozen?_setCell]; exact hlf
            have HP : Hid (∀ W, W = (wr.setCell ⟨gG, x, none⟩ (.int .i64 (t : Int))).setCell ⟨gL, t, none⟩ (.int .i64 0) → Below w.heap.size w W ∧ Row w.heap.size W (some ⟨gG, 0, none⟩) tn (tAll (lisA WL) tl (k + 1)).2 ∧ Row w.heap.size W (some ⟨gL, 0, none⟩) tn (fun s => if (tAll (lisA WL) tl (k + 1)).1 s = true then 0 else 1)) := fun W hWe => by
              subst hWe
              rw [unhide HST]
              unfold tStep
              rw [hft]
              refine ⟨(hbr.setCell (p := ⟨gG, x, none⟩) hgb _).setCell (p := ⟨gL, t, none⟩) hlb _, (hG.set hxn (fun j hj hjx => (if_neg hjx).symm) (if_pos rfl).symm).apart (fun b hb => by cases hb; exact hgL), (hL.apart (fun b hb => by cases hb; exact Ne.symm hgL)).set htn (fun j hj hjt => ?_) ?_⟩
              · show (if (tAll (lisA WL) tl k).1 j = true then (0 : Int) else 1) = if (if (j : Int) = (t : Int) then true else (tAll (lisA WL) tl k).1 j) = true then 0 else 1
                rw [if_neg (show ¬ (j : Int) = (t : Int) by omega)]
              · show (0 : Int) = if (if (t : Int) = (t : Int) then true else (tAll (lisA WL) tl k).1 t) = true then 0 else 1
                rw [if_pos rfl, if_pos rfl]
            clear CB hcW hcT hft hgt hlc hx hG hL e1
            generalize slAt WL x = s1 at *
            obtain ⟨sa, sn, sc, sl⟩ := s1
            simp only at hcx C1
            generalize (tAll (lisA WL) tl k).2 x = ov at *
            go_wp2_with (go_at_call 29; refine (unhide C1).mono ?_; rintro e w9 ⟨rfl, hw9⟩; subst w9)
            obtain ⟨p1, p2, p3⟩ := unhide HP _ rfl
            go_roundw
            case rel => exact ⟨p1, k + 1, by omega, by go_num, p2, p3⟩
            case measure => simp [intOf]; omega
          · obtain rfl : tn = k := by omega
            go_wp2
            go_ret2
            refine ⟨hbr, .inr (.inr ⟨(unhide HZ).1, (unhide HZ).2, _, _, rfl, hG.ints (by simp) (Nat.le_refl _) (by unfold maxLen; omega) (fun j hj => ?_)⟩)⟩
            rw [List.getElem?_map, List.getElem?_range hj]
            rfl
    · have hzb : (ordE tl n != 0) = true := by simpa using hz2
      have HZ := hide (And.intro hz hz2)
      clear hz hz2
      go_enter Try.func13, Try.ntmps13
      go_wp2_with (first | (go_at_call 10; refine (unhide CM).mono ?_; rintro e w4 ⟨rfl, hw4⟩; subst w4) | (go_at_call 27; refine (unhide CO).mono ?_; rintro e w4 ⟨rfl, hw4⟩; subst w4))
      go_ret2
      exact ⟨Below.refl _ _, .inr (.inl ⟨(unhide HZ).1, (unhide HZ).2, rfl⟩)⟩
  · have hzb : (tE WL n != 0) = true := by simpa using hz
    have HZ := hide hz
    clear hz
    go_enter Try.func13, Try.ntmps13
    go_wp2_with (go_at_call 10; refine (unhide CM).mono ?_; rintro e w4 ⟨rfl, hw4⟩; subst w4)
    go_ret2
    exact ⟨Below.refl _ _, .inl ⟨unhide HZ, rfl⟩⟩
end Go.Proofs.Ytihmbfapbkddeaa
