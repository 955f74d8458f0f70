import Derived.Test.YtodbnjainpjkcaaGD
import Derived.BigQuiet
import Derived.Lib.QuietBelow
namespace Go.Proofs.Ytodbnjainpjkcaa
open Go.RowKit
/-- How far from best something is to one. -/
def gapI (likes : List Int) (x : Int) : Int := if idxFrom likes x 0 < 0 then likes.length else idxFrom likes x 0
set_option maxHeartbeats 400000 in
theorem gap_any (nm : ByteArray) (room : Int) (la : Option Addr) (ln lc : Nat) (likes : List Int) (x : Int) (w : World) (h : Ints w la ln lc likes) :
    Calls Try.prog 14 #[.agg #[.string nm, .int .i64 room, .slice la ln lc], .int .i64 x] w fun e w' => e = .returned (.int .i64 (gapI likes x)) ∧ Below w.heap.size w w' := by
  have hbw : Below w.heap.size w (w.alloc (.cells #[.string nm, .int .i64 room, .slice la ln lc] 37)) := by go_grown
  have hn := hide h.1
  have hc := h.2.1
  have hm := h.2.2.1
  unfold maxLen at hm
  have hI := h.later hbw
  by_cases hx : idxFrom likes x 0 < 0
  · have d1 : decide (idxFrom likes x 0 < 0) = true := decide_eq_true hx
    have HG : Hid (gapI likes x = likes.length) := by show _ = _; unfold gapI; rw [if_pos hx]
    clear hx
    go_enter Try.func14, Try.ntmps14
    go_wp2_with fail
    refine (place_any la ln lc likes x _ hI).mono ?_
    rintro e w1 ⟨rfl, hw1⟩
    subst w1
    go_wp2
    go_ret
    exact ⟨ret_int (by rw [unhide HG, ← unhide hn]), hbw⟩
  · have d1 : decide (idxFrom likes x 0 < 0) = false := decide_eq_false hx
    have HG : Hid (gapI likes x = idxFrom likes x 0) := by show _ = _; unfold gapI; rw [if_neg hx]
    clear hx
    go_enter Try.func14, Try.ntmps14
    go_wp2_with fail
    refine (place_any la ln lc likes x _ hI).mono ?_
    rintro e w1 ⟨rfl, hw1⟩
    subst w1
    go_wp2
    go_ret
    exact ⟨ret_int (by rw [unhide HG]), hbw⟩
theorem gap_gr {lL lR : List Ag} (hM : mayE lL lR = 0) {m : List Int} (h : Stab lL lR m) {l : Nat} (hl : l < lL.length) : gapI (agAt lL l).likes (atL m l) = gr lL l (atL m l) := by
  rcases Int.lt_or_eq_of_le (h.rng l hl).1 with p | q
  · obtain ⟨s, hs⟩ : ∃ s : Nat, atL m l = s := ⟨(atL m l).toNat, by omega⟩
    have hk := (h.like l s hl hs).1
    rw [hs, gr_in hk]
    unfold gapI
    unfold rkL at hk ⊢
    rw [if_neg (by omega)]
  · rw [← q, gr_alone]
    unfold gapI
    rw [if_pos]
    rcases idxFrom_spec (agAt lL l).likes (-1) _ 0 rfl with ⟨e, _⟩ | ⟨k, _, hk, he, _, _⟩
    · rw [e]; omega
    · have := (likes_left hM hl hk).1
      unfold atL at this
      omega
/-- The k-th of raw numbers; which of n. -/
def atI (l : List Int) (k : Int) : Int := l[k.toNat % l.length]?.getD 0
def pickI (c : Int) (n : Nat) : Nat := ((if c < 0 then -(c + 1) else c) % (n : Int)).toNat
theorem atI_in {l : List Int} (hr : ∀ x ∈ l, InR x) (k : Int) : InR (atI l k) := by
  unfold atI
  by_cases h : k.toNat % l.length < l.length
  · rw [List.getElem?_eq_getElem h]
    exact hr _ (by simp)
  · rw [List.getElem?_eq_none (by omega)]
    exact ⟨by show _ ≤ (0 : Int); omega, by show (0 : Int) ≤ _; omega⟩
theorem pickI_lt (c : Int) (n : Nat) (h : 0 < n) : pickI c n < n := by
  unfold pickI
  have := Int.emod_lt_of_pos (if c < 0 then -(c + 1) else c) (show (0 : Int) < n by omega)
  omega
set_option maxHeartbeats 400000 in
theorem pick_val (c : Int) (n : Nat) (hc : InR c) (hn : 0 < n) (hm : n ≤ 1000) (w : World) :
    Calls Try.prog 18 #[.int .i64 c, .int .i64 n] w fun e w' => e = .returned (.int .i64 (pickI c n)) ∧ w' = w := by
  obtain ⟨h1, h2⟩ := hc
  have hnz : ((n : Int) == 0) = false := by simp; omega
  by_cases hneg : c < 0
  · have HP : Hid ((pickI c n : Int) = (-(c + 1)) % (n : Int)) := by
      have := Int.emod_nonneg (-(c + 1)) (show (n : Int) ≠ 0 by omega)
      show _ = _
      unfold pickI
      rw [if_pos hneg]
      omega
    go_enter Try.func18, Try.ntmps18
    go_wp2
    go_ret
    refine ⟨ret_int ?_, rfl⟩
    rw [unhide HP, ← Int.neg_tmod, Int.tmod_eq_emod_of_nonneg (by omega)]
  · have HP : Hid ((pickI c n : Int) = c % (n : Int)) := by
      have := Int.emod_nonneg c (show (n : Int) ≠ 0 by omega)
      show _ = _
      unfold pickI
      rw [if_neg hneg]
      omega
    go_enter Try.func18, Try.ntmps18
    go_wp2
    go_ret
    exact ⟨ret_int (unhide HP).symm, rfl⟩
theorem at_val (a : Option Addr) (n c : Nat) (l : List Int) (ki : Int) (w : World) (h : Ints w a n c l) (hk0 : 0 ≤ ki) (hk : ki ≤ 1000) (hn : n ≤ 256) :
    Calls Try.prog 22 #[.slice a n c, .int .i64 ki] w fun e w' => e = .returned (.int .i64 (atI l ki)) ∧ w' = w := by
  obtain ⟨k, rfl⟩ : ∃ k : Nat, ki = k := ⟨ki.toNat, by omega⟩
  obtain ⟨hl, hc, hm, h⟩ := h
  unfold maxLen at hm
  by_cases hz : n = 0
  · have hl0 : l = [] := List.length_eq_zero_iff.1 (by omega)
    have HA : Hid (atI l k = 0) := by rw [hl0]; show _ = _; simp [atI]
    clear h hl hl0
    subst hz
    go_enter Try.func22, Try.ntmps22
    go_wp2
    go_ret
    exact ⟨ret_int (unhide HA).symm, rfl⟩
  · rcases h with h0 | ⟨b, off, rfl, hb, hcell⟩
    · omega
    have hnz : ((n : Int) == 0) = false := by simp; omega
    have hlt : k % n < n := Nat.mod_lt _ (by omega)
    have hck := hcell (k % n) hlt
    have HA : Hid (atI l k = l[k % n]?.getD 0) := by show _ = _; unfold atI; rw [hl]; rfl
    have HL : Hid (n = l.length) := hl
    clear hl hcell
    go_enter Try.func22, Try.ntmps22
    go_wp2
    go_ret
    exact ⟨ret_int (unhide HA).symm, rfl⟩
set_option maxRecDepth 100000 in
set_option maxHeartbeats 4000000 in
theorem withOf_any (aL : Option Addr) (nL cL : Nat) (lL : List Ag) (vR : Value) (ao : Option Addr) (mo co : Nat) (ro : List Int) (w : World) (hL : Ags w aL nL cL lL) (ho : Ints w ao mo co ro) (hr : ∀ x ∈ ro, InR x) (hmo : mo ≤ 256) (hn6 : nL ≤ 6) (hln : ∀ g ∈ lL, g.ln ≤ 500) (aR : Option Addr) (nR cR : Nat) (hvR : vR = .slice aR nR cR) :
    Calls Try.prog 13 #[.agg #[.slice aL nL cL, vR], .slice ao mo co] w fun e w' => ∃ a c l, e = .returned (.slice a nL c) ∧ Ints w' a nL c l ∧ Below w.heap.size w w' := by
  subst hvR
  have HR := hide hr
  have HLN := hide hln
  clear hr hln
  have hcL := hL.2.1
  have hcmL := hL.2.2.1
  unfold maxLen at hcmL
  obtain ⟨wA, hwA⟩ : ∃ y, y = w.alloc (.cells #[.slice aL nL cL, .slice aR nR cR] 26) := ⟨_, rfl⟩
  have hbA : Below w.heap.size w wA := by rw [hwA]; go_grown
  have p0 : wA.cell? ⟨w.heap.size, 0, none⟩ = some (.slice aL nL cL) := by rw [hwA]; simp
  have HW := hide hwA
  clear hwA
  go_enter Try.func13, Try.ntmps13
  go_wp2_with fail
  rw [← unhide HW]
  go_loopw [6, 5] (fun i v wr => Below wA.heap.size wA wr ∧ ∃ (l : Nat) (ws : List Int), l ≤ nL ∧ i = .int .i64 l ∧ wr.ownsRow wA.heap.size 3 1 v l (intVals ws)) (fun i _ _ => nL - (intOf i).toNat)
  case atStart => exact ⟨Below.refl _ _, 0, [], Nat.zero_le _, rfl, World.ownsRow_nil _ _ _ _⟩
  case round =>
    obtain ⟨hbr, l, ws, hl, rfl, hown⟩ := hrel
    have hbwr := hbA.trans (hbr.mono hbA.size)
    have p0r := (hbr.cell (p := ⟨w.heap.size, 0, none⟩) (World.block_lt_of_cell? wA _ p0)).trans p0
    have HO := hide hown
    clear hown
    by_cases hlt : l < nL
    · obtain ⟨bL, oL, rfl, hbL, q1, q2, q3⟩ := (hL.later hbwr).at hlt
      have hI := ((hL.later hbwr).mem hlt).1
      have hsl := unhide HLN (agAt lL l) (by unfold agAt; rw [List.getElem?_eq_getElem (show l < lL.length by have := hL.1; omega)]; simp)
      generalize agAt lL l = G at *
      obtain ⟨nm, room, la, ln, lc, likes⟩ := G
      simp only at q1 q2 q3 hI hsl
      have hlc := hI.2.1
      have hlcm := hI.2.2.1
      unfold maxLen at hlcm
      by_cases hz : ln = 0
      · subst hz
        go_wp2_with (at_builtin; refine wpList_append_int _ rfl _ _ rfl wA.heap.size _ l _ rfl ((unhide HO).alloc _) wr.heap.size (-1) rfl (by simp) (by omega) (by have := hbr.size; simp; omega) ?_; intro v2 w2 ho2 hg2)
        go_roundw
        case rel =>
          have hb5 := (((Below.refl wA.heap.size wr).alloc hbr.size (.cells #[.int .i64 (-1)] 3)).grown hg2 (by have := hbr.size; simp; omega) (fun q hq => ((unhide HO).lt q hq).1))
          refine ⟨hbr.trans hb5, l + 1, ws ++ [-1], by omega, by go_num, ?_⟩
          rw [intVals_append]
          exact ho2
        case measure => simp [intOf]; omega
      · have hgt : decide (0 < (ln : Int)) = true := by simp; omega
        obtain ⟨bI, oI, rfl, hbI, hcI⟩ := hI.cellAt (by omega)
        go_wp2_with fail
        refine (at_val ao mo co ro (2 * l) wr (ho.later hbwr) (by omega) (by omega) hmo).mono ?_
        rintro e w2 ⟨rfl, hw2⟩
        subst w2
        have hin := atI_in (unhide HR) (2 * (l : Int))
        generalize atI ro (2 * (l : Int)) = x at *
        go_wp2_with fail
        refine (pick_val x 5 hin (by omega) (by omega) wr).mono ?_
        rintro e w2 ⟨rfl, hw2⟩
        subst w2
        generalize pickI x 5 = q at *
        by_cases hq : 0 < q
        · have hq1 : decide (0 < (q : Int)) = true := by simp; omega
          have hin2 := atI_in (unhide HR) (2 * (l : Int) + 1)
          have C1 := hide (fun n => at_val ao mo co ro (2 * l + 1) (wr.drewN n) ((ho.later hbwr).later (below_drewN _ _ _)) (by omega) (by omega) hmo)
          generalize atI ro (2 * (l : Int) + 1) = y at *
          have C2 := hide (fun n => pick_val y ln hin2 (by omega) (by omega) (wr.drewN n))
          have hpl := pickI_lt y ln (by omega)
          generalize pickI y ln = t at *
          have hct := hcI t hpl
          clear hin
          have z1 : IntKind.i64.wrap (2 * (l : Int)) = 2 * (l : Int) := wrap_in _ (by omega) (by omega)
          have z2 : IntKind.i64.wrap (2 * (l : Int) + 1) = 2 * (l : Int) + 1 := wrap_in _ (by omega) (by omega)
          go_wp2_with fail
          go_quiet (first | (go_at_call 22; exact Calls.quiet_of_same (unhide C1 _)) | (go_at_call 18; exact Calls.quiet_of_same (unhide C2 _)))
          obtain ⟨wd, hwd⟩ : ∃ y, y = wr.drewN nq := ⟨_, rfl⟩
          rw [← hwd]
          have hbd : Below wr.heap.size wr wd := by rw [hwd]; exact below_drewN _ _ _
          have HOq := hide (owns_later (unhide HO) hbd)
          have hbrd := hbr.trans (hbd.mono hbr.size)
          clear hwd
          go_wp2_with (at_builtin; refine wpList_append_int _ rfl _ _ rfl wA.heap.size _ l _ rfl ((unhide HOq).alloc _) wd.heap.size (likes[t]?.getD 0) rfl (by simp) (by omega) (by have := hbrd.size; simp; omega) ?_; intro v2 w2 ho2 hg2)
          go_roundw
          case rel =>
            have hb5 := (((Below.refl wA.heap.size wd).alloc hbrd.size (.cells #[.int .i64 (likes[t]?.getD 0)] 3)).grown hg2 (by have := hbrd.size; simp; omega) (fun q hq => ((unhide HOq).lt q hq).1))
            refine ⟨hbrd.trans hb5, l + 1, ws ++ [likes[t]?.getD 0], by omega, by go_num, ?_⟩
            rw [intVals_append]
            exact ho2
          case measure => simp [intOf]; omega
        · have hq1 : decide (0 < (q : Int)) = false := by simp; omega
          go_wp2_with (at_builtin; refine wpList_append_int _ rfl _ _ rfl wA.heap.size _ l _ rfl ((unhide HO).alloc _) wr.heap.size (-1) rfl (by simp) (by omega) (by have := hbr.size; simp; omega) ?_; intro v2 w2 ho2 hg2)
          go_roundw
          case rel =>
            have hb5 := (((Below.refl wA.heap.size wr).alloc hbr.size (.cells #[.int .i64 (-1)] 3)).grown hg2 (by have := hbr.size; simp; omega) (fun q hq => ((unhide HO).lt q hq).1))
            refine ⟨hbr.trans hb5, l + 1, ws ++ [-1], by omega, by go_num, ?_⟩
            rw [intVals_append]
            exact ho2
          case measure => simp [intOf]; omega
    · obtain rfl : l = nL := by omega
      go_wp2
      go_ret
      obtain ⟨a2, c2, rfl, hI2, _⟩ := Ints.of_owns (unhide HO) (by omega)
      exact ⟨a2, c2, ws, rfl, hI2, hbwr⟩
end Go.Proofs.Ytodbnjainpjkcaa
