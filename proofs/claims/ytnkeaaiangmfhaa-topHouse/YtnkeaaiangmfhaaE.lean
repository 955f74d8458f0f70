import Derived.Test.YtnkeaaiangmfhaaD
namespace Go.Proofs.Ytnkeaaiangmfhaa
open Go.RowKit
def seatL (r : Int) (vl : List Int) (n h : Nat) : List Int := (List.range n).map (dv r (fun j => vl[j]?.getD 0) n h)
theorem seatL_at {r : Int} {vl : List Int} {n h j : Nat} (hj : j < n) : (seatL r vl n h)[j]?.getD 0 = dv r (fun j => vl[j]?.getD 0) n h j := by
  unfold seatL
  rw [List.getElem?_map, List.getElem?_range hj]
  rfl
theorem seatL_len (r : Int) (vl : List Int) (n h : Nat) : (seatL r vl n h).length = n := by simp [seatL]
set_option maxRecDepth 100000 in
set_option maxHeartbeats 4000000 in
theorem divide_any (r : Int) (va : Option Addr) (n vc : Nat) (vl : List Int) (ho : Nat) (w : World) (h : Ints w va n vc vl) (hv : Vot n vl) (h200 : ho ≤ 200) (hr1 : 1 ≤ r) (hr4 : r ≤ 4) :
    Calls Try.prog 6 #[.int .i64 r, .slice va n vc, .int .i64 ho] w fun e w' => ∃ a c, e = .returned (two (.slice a n c) 0) ∧ Ints w' a n c (seatL r vl n ho) ∧ Below w.heap.size w w' := by
  have CM := hide (may_any va n vc vl ho w h hv (by omega) (by omega))
  have h1 := h.2.1
  have h2 := h.2.2.1
  unfold maxLen at h2
  obtain ⟨i3, hi3, hz0, hz1, hz2⟩ := info_parts info3
  have hn0 := hv.1
  have hn8 := hv.2.1
  have HI := hide h
  have HV := hide hv
  clear h hv
  go_enter Try.func6, Try.ntmps6
  go_wp2_with (first | (go_at_call 8; refine (unhide CM).mono ?_; rintro e w4 ⟨rfl, hw4⟩; subst w4) | (at_make; refine wpList_make_full _ rfl _ _ 22 rfl w.heap.size 3 i3 _ 1 Try.underlying22 hi3 hz0 hz1 .i64 .i64 _ _ n rfl rfl rfl rfl (by rw [hz2]; omega) (by unfold maxLen; omega) (Nat.le_refl _) ?_; intro w1 ho1 hg1))
  have hb1 : Below w.heap.size w w1 := (Below.refl w.heap.size w).grown hg1 (Nat.le_refl _) (fun k hk => by cases hk)
  have hR1 := row_made ho1
  have HR1 := hide hR1
  clear ho1 hg1 hR1
  go_wp2_with fail
  go_loopw [26] (fun i wr => Below w.heap.size w wr ∧ ∃ k : Nat, k ≤ ho ∧ i = .int .i64 k ∧ Row w.heap.size wr (some ⟨w.heap.size, 0, none⟩) n (dv r (fun j => vl[j]?.getD 0) n k)) (fun i _ => ho - (intOf i).toNat)
  case atStart => exact ⟨hb1, 0, Nat.zero_le _, rfl, (unhide HR1).same (fun j _ => rfl)⟩
  case round =>
    obtain ⟨hbr, k, hk, rfl, hR⟩ := hrel
    by_cases hlt : k < ho
    · have C9 := next_any r va n vc vl (some ⟨w.heap.size, 0, none⟩) n (seatL r vl n k) wr ((unhide HI).later hbr) (hR.ints (seatL_len _ _ _ _).symm (Nat.le_refl _) (by unfold maxLen; omega) (fun j hj => (seatL_at hj).symm))
      rw [nxt_congr (s' := dv r (fun j => vl[j]?.getD 0) n k) (fun j hj => seatL_at hj)] at C9
      have hq : (nxt r (fun j => vl[j]?.getD 0) (dv r (fun j => vl[j]?.getD 0) n k) n).1 < n := by
        rcases nxt_lt r (fun j => vl[j]?.getD 0) (dv r (fun j => vl[j]?.getD 0) n k) n with h1 | h1 <;> omega
      have HD : Hid (∀ j, dv r (fun j => vl[j]?.getD 0) n (k + 1) j = if j = (nxt r (fun j => vl[j]?.getD 0) (dv r (fun j => vl[j]?.getD 0) n k) n).1 then dv r (fun j => vl[j]?.getD 0) n k j + 1 else dv r (fun j => vl[j]?.getD 0) n k j) := fun j => rfl
      generalize (nxt r (fun j => vl[j]?.getD 0) (dv r (fun j => vl[j]?.getD 0) n k) n).1 = q at *
      have C9 := hide C9
      have HR := hide hR
      clear hR
      go_wp2_with fail
      refine (unhide C9).mono ?_
      rintro e w2 ⟨rfl, hb2⟩
      have hR2 := (unhide HR).later hb2
      obtain ⟨hc, hf, hs, _⟩ := hR2.at hq
      have hle := dv_le r (fun j => vl[j]?.getD 0) n k q
      have HR2 := hide hR2
      have hb := hbr.trans (hb2.mono hbr.size)
      clear hR2
      have HX : Hid (Row w.heap.size (w2.setCell ⟨w.heap.size, q, none⟩ (.int .i64 (dv r (fun j => vl[j]?.getD 0) n k q + 1))) (some ⟨w.heap.size, 0, none⟩) n (dv r (fun j => vl[j]?.getD 0) n (k + 1))) :=
        (unhide HR2).set hq (fun j hj hjq => by rw [unhide HD j, if_neg hjq]) (by rw [unhide HD q, if_pos rfl])
      generalize dv r (fun j => vl[j]?.getD 0) n k q = y at *
      go_wp2
      go_roundw
      case rel => exact ⟨hb.setCell (p := ⟨w.heap.size, q, none⟩) (Nat.le_refl _) _, k + 1, by omega, by go_num, unhide HX⟩
      case measure => simp [intOf]; omega
    · obtain rfl : ho = k := by omega
      go_wp2
      go_ret2
      exact ⟨_, _, rfl, hR.ints (seatL_len _ _ _ _).symm (Nat.le_refl _) (by unfold maxLen; omega) (fun j hj => (seatL_at hj).symm), hbr⟩
end Go.Proofs.Ytnkeaaiangmfhaa
