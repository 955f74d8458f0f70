import Derived.Test.YtihmbfapbkddeaaQ
import Derived.Test.YtihmbfapbkddeaaC2
namespace Go.Proofs.Ytihmbfapbkddeaa
open Go.RowKit
theorem info23 : (Try.prog.info? 23).map (fun i => (i.zero, i.size, i.bytes)) = some (some (.slice none 0 0), 1, 24) := by kernel_rfl
set_option maxHeartbeats 1000000 in
theorem oneEach_any (n : Nat) (wa : Option Addr) (wc : Nat) (w : World) (h1 : n ≤ 6) :
    Calls Try.prog 25 #[.slice wa n wc] w fun e w' => ∃ g, e = .returned (.slice (some ⟨g, 0, none⟩) n n) ∧ Row w.heap.size w' (some ⟨g, 0, none⟩) n (fun _ => 1) ∧ Below w.heap.size w w' := by
  obtain ⟨wA, hwA⟩ : ∃ y, y = w.alloc (.cells #[.int .i64 1] 3) := ⟨_, rfl⟩
  have hbA : Below w.heap.size w wA := by rw [hwA]; go_grown
  have a0 : wA.cell? ⟨w.heap.size, 0, none⟩ = some (.int .i64 1) := by rw [hwA]; simp
  have HW := hide hwA
  clear hwA
  have CR := hide (rep_any1 w.heap.size n wA h1 a0)
  go_enter Try.func25, Try.ntmps25
  go_wp2_with fail
  rw [← unhide HW]
  refine (unhide CR).mono ?_
  rintro e w1 ⟨rfl, hG1, hb1⟩
  go_wp2
  go_ret
  refine ⟨_, rfl, ?_, hbA.trans (hb1.mono hbA.size)⟩
  rcases hG1 with h | ⟨g, h1, h2, h3, h4, h5⟩
  · exact .inl h
  · exact .inr ⟨g, h1, by have := hbA.size; omega, h3, h4, h5⟩
def RoPost (WL : List Sl) (n : Nat) (w : World) (e : Ending) (w' : World) : Prop :=
  Below w.heap.size w w' ∧ ((tE WL n ≠ 0 ∧ e = .returned (two (.slice none 0 0) (tE WL n))) ∨
    (tE WL n = 0 ∧ ∃ a c T kk, e = .returned (two (.slice a n c) 0) ∧ Ints w' a n c (gotL T n) ∧ Reach n (lisA WL) (ownF n) kk (Ex0 fun _ => 1) T ∧ Done n T))
def olist (n : Nat) (Bf : Nat → Nat) : List Sl := (List.range n).map fun j => ⟨some ⟨Bf j, 0, none⟩, 1, 1, [(j : Int)]⟩
theorem olist_at {n : Nat} {Bf : Nat → Nat} {j : Nat} (h : j < n) : slAt (olist n Bf) j = ⟨some ⟨Bf j, 0, none⟩, 1, 1, [(j : Int)]⟩ := by
  unfold slAt olist
  rw [List.getElem?_map, List.getElem?_range h]
  rfl
theorem olist_lis (n : Nat) (Bf : Nat → Nat) : lisA (olist n Bf) = ownF n := by
  funext s
  by_cases h : s < n
  · rw [ownF_in h]
    unfold lisA
    rw [olist_at h]
  · rw [lisA_out (by simp [olist]; omega)]
    exact (if_neg h).symm
set_option maxRecDepth 100000 in
set_option maxHeartbeats 4000000 in
theorem rounds_any (n : Nat) (wa : Option Addr) (wc : Nat) (WL : List Sl) (w : World) (hW : Lsts w wa n wc WL) :
    Calls Try.prog 8 #[.slice wa n wc] w fun e w' => RoPost WL n w e w' := by
  have CM := hide (tmay_any n wa wc WL w hW)
  have HN := hide hW.1
  have h1 := hW.2.1
  have h2 := hW.2.2.1
  unfold maxLen at h2
  by_cases hz : tE WL n = 0
  · obtain ⟨hn6, hr, hfull, _⟩ := tr_ok (unhide HN) hz
    have HZ := hide hz
    rw [hz] at CM
    obtain ⟨i3, hi3, hz0, hz1, hz2⟩ := info_parts info23
    have HR := hide hr
    have HFULL := hide hfull
    clear hr hfull hz
    go_enter Try.func8, Try.ntmps8
    go_wp2_with (first | (go_at_call 10; refine (unhide CM).mono ?_; rintro e w4 ⟨rfl, hw4⟩; subst w4) | (at_make; refine wpList_make_full _ rfl _ _ 22 rfl w.heap.size 23 i3 _ 1 Try.underlying22 hi3 hz0 hz1 .i64 .i64 _ _ n rfl rfl rfl rfl (by rw [hz2]; omega) (by unfold maxLen; omega) (Nat.le_refl _) ?_; intro w1 ho1 hg1))
    obtain ⟨g, hg⟩ : ∃ g, w.heap.size = g := ⟨_, rfl⟩
    have hb1 : Below w.heap.size w w1 := (Below.refl w.heap.size w).grown hg1 (Nat.le_refl _) (fun k hk => by cases hk)
    obtain ⟨hgl, hgc, hgf⟩ : g < w1.heap.size ∧ (∀ j, j < n → w1.cell? ⟨g, j, none⟩ = some (.slice none 0 0)) ∧ (∀ j, j < n → w1.frozen? ⟨g, j, none⟩ = false) := by
      have h0 := ho1
      rcases ho1.2 with ⟨h, _⟩ | ⟨g', cap, cur, h, hbg, hgg, hnc, hcm, hcs, htake⟩
      · cases h
      · cases h
        rw [← hg]
        refine ⟨(Array.getElem?_eq_some_iff.1 hgg).1, fun j hj => ?_, fun j _ => by simp [World.frozen?, hgg]⟩
        rw [h0.cellAt j (by omega), made_at _ rfl n j hj]
    rw [hg]
    have HG := hide hg
    have HGC := hide hgc
    have HGF := hide hgf
    clear ho1 hg1 hg hgc hgf
    go_wp2_with fail
    go_loopw [17, 6] (fun i _ wr => Below w.heap.size w wr ∧ ∃ (k : Nat) (Bf : Nat → Nat), k ≤ n ∧ i = .int .i64 k ∧ g < wr.heap.size ∧ (∀ j, j < n → wr.cell? ⟨g, j, none⟩ = some (if j < k then .slice (some ⟨Bf j, 0, none⟩) 1 1 else .slice none 0 0)) ∧ (∀ j, j < n → wr.frozen? ⟨g, j, none⟩ = false) ∧ (∀ j, j < k → g < Bf j ∧ Bf j < wr.heap.size ∧ wr.cell? ⟨Bf j, 0, none⟩ = some (.int .i64 (j : Int)))) (fun i _ _ => n - (intOf i).toNat)
    case atStart => exact ⟨hb1, 0, fun _ => 0, Nat.zero_le _, rfl, hgl, fun j hj => by rw [unhide HGC j hj, if_neg (by omega)], unhide HGF, fun j hj => by omega⟩
    case round =>
      obtain ⟨hbr, k, Bf, hk, rfl, hgr, hc, hf, hB⟩ := hrel
      by_cases hlt : k < n
      · have hck := hc k hlt
        have hfk := hf k hlt
        rw [if_neg (by omega)] at hck
        have hck2 : (wr.alloc (.cells #[.int .i64 (k : Int)] 3)).cell? ⟨g, k, none⟩ = some (.slice none 0 0) := by rw [World.cell?_alloc_past _ _ _ hgr]; exact hck
        have HP : Hid (∀ W, W = (wr.setCell ⟨g, k, none⟩ (.slice (some ⟨wr.heap.size, 0, none⟩) 1 1)).alloc (.cells #[.int .i64 (k : Int)] 3) → Below w.heap.size w W ∧ g < W.heap.size ∧ (∀ j, j < n → W.cell? ⟨g, j, none⟩ = some (if j < k + 1 then .slice (some ⟨(if j = k then wr.heap.size else Bf j), 0, none⟩) 1 1 else .slice none 0 0)) ∧ (∀ j, j < n → W.frozen? ⟨g, j, none⟩ = false) ∧ (∀ j, j < k + 1 → g < (if j = k then wr.heap.size else Bf j) ∧ (if j = k then wr.heap.size else Bf j) < W.heap.size ∧ W.cell? ⟨(if j = k then wr.heap.size else Bf j), 0, none⟩ = some (.int .i64 (j : Int)))) := fun W hWe => by
          have hgb : w.heap.size ≤ g := by have := unhide HG; omega
          have hbS := hbr.setCell (p := ⟨g, k, none⟩) hgb (.slice (some ⟨wr.heap.size, 0, none⟩) 1 1)
          obtain ⟨W1, hW1⟩ : ∃ y, y = wr.setCell ⟨g, k, none⟩ (.slice (some ⟨wr.heap.size, 0, none⟩) 1 1) := ⟨_, rfl⟩
          have hs1 : W1.heap.size = wr.heap.size := by rw [hW1]; simp
          rw [← hW1] at hWe hbS
          subst hWe
          have hbA : Below W1.heap.size W1 (W1.alloc (.cells #[.int .i64 (k : Int)] 3)) := by go_grown
          refine ⟨hbS.trans (hbA.mono hbS.size), by simp; omega, fun j hj => ?_, fun j hj => ?_, fun j hj => ?_⟩
          · rw [World.cell?_alloc_past _ _ _ (show g < _ by omega), hW1]
            by_cases e : j = k
            · subst e
              rw [if_pos (by omega), if_pos rfl]
              exact World.cell?_setCell_same' _ _ _ (by rw [hck]; rfl)
            · rw [World.cell?_setCell_other _ _ _ _ (by intro hh; cases hh; exact e rfl), hc j hj, if_neg e]
              by_cases h : j < k
              · rw [if_pos h, if_pos (by omega)]
              · rw [if_neg h, if_neg (by omega)]
          · refine (hbA.frozen (p := ⟨g, j, none⟩) (show g < _ by omega)).trans ?_
            rw [hW1, World.frozen?_setCell]
            exact hf j hj
          · by_cases e : j = k
            · subst e
              rw [if_pos rfl]
              refine ⟨hgr, by simp; omega, ?_⟩
              rw [← hs1]
              simp
            · rw [if_neg e]
              obtain ⟨q1, q2, q3⟩ := hB j (by omega)
              refine ⟨q1, by simp; omega, ?_⟩
              rw [World.cell?_alloc_past _ _ _ (show Bf j < _ by omega), hW1, World.cell?_setCell_other _ _ _ _ (by intro hh; cases hh; omega)]
              exact q3
        have hfk2 : (wr.alloc (.cells #[.int .i64 (k : Int)] 3)).frozen? ⟨g, k, none⟩ = false := by
          have hbA : Below wr.heap.size wr (wr.alloc (.cells #[.int .i64 (k : Int)] 3)) := by go_grown
          exact (hbA.frozen (p := ⟨g, k, none⟩) hgr).trans hfk
        clear hc hf hB
        go_wp2
        obtain ⟨p1, p2, p3, p4, p5⟩ := unhide HP _ rfl
        go_roundw
        case rel => exact ⟨p1, k + 1, fun j => if j = k then wr.heap.size else Bf j, by omega, by go_num, p2, p3, p4, p5⟩
        case measure => simp [intOf]; omega
      · obtain rfl : n = k := by omega
        have hO : Lsts wr (some ⟨g, 0, none⟩) n n (olist n Bf) := by
          refine ⟨by simp [olist], Nat.le_refl _, by unfold maxLen; omega, fun s hs => ?_, ?_⟩
          · unfold olist at hs
            rw [List.mem_map] at hs
            obtain ⟨j, hj, rfl⟩ := hs
            obtain ⟨q1, q2, q3⟩ := hB j (List.mem_range.1 hj)
            refine ⟨rfl, Nat.le_refl _, by show 1 ≤ maxLen; unfold maxLen; omega, .inr ⟨Bf j, 0, rfl, q2, fun t ht => ?_⟩⟩
            have ht1 : t < 1 := ht
            have : t = 0 := by omega
            subst this
            exact q3
          · by_cases h0 : n = 0
            · exact .inl h0
            · refine .inr ⟨g, 0, rfl, hgr, fun j hj => ?_⟩
              rw [Nat.zero_add, hc j hj, if_pos hj, olist_at hj]
        have CO := hide (oneEach_any n wa wc wr hn6)
        clear hc hf hB
        go_wp2_with fail
        refine (unhide CO).mono ?_
        rintro e w3 ⟨gL, rfl, hL3, hb3⟩
        have CX := hide (exchange_any n n wa wc WL (some ⟨gL, 0, none⟩) n (fun _ => 1) (some ⟨g, 0, none⟩) n (olist n Bf) wr w3 hb3 (hW.later hbr) hO hL3 (Nat.le_refl _) (by unfold maxLen; omega) hn6 hn6 (fun s _ => ⟨by omega, by omega⟩) (unhide HR) (fun i x hx => by
          rw [olist_lis] at hx
          unfold ownF at hx
          by_cases h : i < n
          · rw [if_pos h] at hx; simp at hx; omega
          · rw [if_neg h] at hx; cases hx) (fun kk S hre i hi => by
          rw [olist_lis] at hre ⊢
          obtain ⟨t, ht, hB, hgt, _⟩ := inv_best (unhide HR) (unhide HFULL) (fun s hs => ownF_in hs) (inv_reach (unhide HR) (unhide HFULL) (fun s hs => ownF_in hs) kk _ S hre inv_start) hi.1 hi.2.1
          rw [hB, Int.toNat_natCast, ownF_in ht]
          exact ⟨(t : Int), by simp, by rw [Int.toNat_natCast]; exact hgt⟩))
        rw [olist_lis] at CX
        go_wp2_with fail
        refine (unhide CX).mono ?_
        rintro e w5 ⟨gR, T, kk, rfl, hrow, hre, hdn, hb5⟩
        go_wp2
        go_ret2
        refine ⟨hbr.trans (hb5.mono hbr.size), .inr ⟨unhide HZ, _, _, T, kk, rfl, hrow.ints (by simp [gotL]) (Nat.le_refl _) (by unfold maxLen; omega) (fun j hj => (gotL_at T hj).symm), hre, hdn⟩⟩
  · have hzb : (tE WL n != 0) = true := by simpa using hz
    have HZ := hide hz
    clear hz
    go_enter Try.func8, Try.ntmps8
    go_wp2_with (go_at_call 10; refine (unhide CM).mono ?_; rintro e w4 ⟨rfl, hw4⟩; subst w4)
    go_ret2
    exact ⟨Below.refl _ _, .inl ⟨unhide HZ, rfl⟩⟩
end Go.Proofs.Ytihmbfapbkddeaa
