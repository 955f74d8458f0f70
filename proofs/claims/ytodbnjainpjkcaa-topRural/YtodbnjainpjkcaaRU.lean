import Derived.Test.YtodbnjainpjkcaaLA
import Derived.BigQuiet
import Derived.Lib.QuietBelow
namespace Go.Proofs.Ytodbnjainpjkcaa
open Go.RowKit
set_option maxHeartbeats 1000000 in
theorem sameT_any (a a' : Option Addr) (n c n' c' : Nat) (l m : List Int) (w : World) (h : Ints w a n c l) (h' : Ints w a' n' c' m) :
    Calls Try.prog 17 #[.slice a n c, .slice a' n' c'] w fun e w' => e = .returned (.bool (decide (l = m))) ∧ Below w.heap.size w w' := by
  obtain ⟨hn, hc, hm, h⟩ := h
  obtain ⟨hn', hc', hm', h'⟩ := h'
  unfold maxLen at hm hm'
  have HN : Hid (n = l.length) := hn
  have HN' : Hid (n' = m.length) := hn'
  clear hn hn'
  by_cases hnn : n = n'
  · subst hnn
    have HL : Hid (decide (l = m) = eqFrom l m 0) := (eqFrom_eq (HN.out.symm.trans HN'.out)).symm
    rcases h with h0 | ⟨b, off, rfl, hb, hcell⟩
    · subst h0
      go_enter Try.func17, Try.ntmps17
      go_wp2
      refine wp_loop_rounds 1 ?_
      rw [rounds_succ]
      go_wp2
      go_ret
      exact ⟨ret_bool (by rw [HL.out, eqFrom_end (by have := HN.out; omega)]), Below.refl _ _⟩
    · rcases h' with h0 | ⟨b', off', rfl, hb', hcell'⟩
      · subst h0
        go_enter Try.func17, Try.ntmps17
        go_wp2
        refine wp_loop_rounds 1 ?_
        rw [rounds_succ]
        go_wp2
        go_ret
        exact ⟨ret_bool (by rw [HL.out, eqFrom_end (by have := HN.out; omega)]), Below.refl _ _⟩
      · go_enter Try.func17, Try.ntmps17
        go_wp2
        go_loopw [5] (fun i wr => Below w.heap.size w wr ∧ ∃ k : Nat, k ≤ n ∧ i = .int .i64 k ∧ eqFrom l m 0 = eqFrom l m k) (fun i _ => n - (intOf i).toNat)
        case atStart => exact ⟨Below.refl _ _, 0, Nat.zero_le _, rfl, rfl⟩
        case round =>
          obtain ⟨hbr, k, hk, rfl, hn⟩ := hrel
          have HI : Hid (eqFrom l m 0 = eqFrom l m k) := hn
          clear hn
          by_cases hlt : k < n
          · have hck := (hbr.cell (p := ⟨b, off + k, none⟩) hb).trans (hcell k hlt)
            have hck' := (hbr.cell (p := ⟨b', off' + k, none⟩) hb').trans (hcell' k hlt)
            clear hcell hcell'
            by_cases q : l[k]?.getD 0 = m[k]?.getD 0
            · have HQ : Hid (l[k]?.getD 0 = m[k]?.getD 0) := q
              rw [← q] at hck'
              clear q
              go_wp2
              go_quiet (fail)
              go_wp2
              go_roundw
              case rel => exact ⟨hbr.trans (below_drewN _ _ _), k+1, by omega, by go_num, by rw [HI.out]; exact eqFrom_yes (by have := HN.out; omega) HQ.out⟩
              case measure => simp [intOf]; omega
            · go_wp2
              go_quiet (fail)
              go_wp2
              go_ret
              refine ⟨ret_bool ?_, hbr.trans (below_drewN _ _ _)⟩
              rw [HL.out, HI.out]; exact (eqFrom_no (by have := HN.out; omega) q).symm
          · go_wp2
            go_ret
            exact ⟨ret_bool (by rw [HL.out, HI.out, eqFrom_end (by have := HN.out; omega)]), hbr⟩
  · have HL : Hid (decide (l = m) = false) := decide_eq_false (fun e => hnn (by rw [HN.out, HN'.out, e]))
    have hnn' : ¬ (n : Int) = (n' : Int) := by omega
    go_enter Try.func17, Try.ntmps17
    go_wp2
    go_ret
    exact ⟨ret_bool HL.out.symm, Below.refl _ _⟩
/-- THE RURAL HOSPITALS: of two that are stable. -/
theorem goes_ext {a b : List Int} {r : Int} : ∀ n, (∀ k, k < n → (a[k]?.getD 0 = r ↔ b[k]?.getD 0 = r)) → goesTo a r n = goesTo b r n := by
  intro n
  induction n with
  | zero => intro _; rfl
  | succ n ih =>
    intro h
    have e := ih fun k hk => h k (by omega)
    by_cases c : a[n]?.getD 0 = r
    · rw [goes_yes c, goes_yes ((h n (by omega)).1 c), e]
    · rw [goes_no c, goes_no (fun d => c ((h n (by omega)).2 d)), e]
theorem rural {lL lR : List Ag} {a b : List Int} (ha : Stab lL lR a) (hb : Stab lL lR b) :
    (∀ l, l < lL.length → (atL a l < 0 ↔ atL b l < 0)) ∧ ∀ r, r < lR.length → a.count (r : Int) = b.count (r : Int) ∧ ((a.count (r : Int) : Int) < (agAt lR r).room → goesTo a r lL.length = goesTo b r lL.length) := by
  have J := jm_pick ha hb
  have sa := J.same ha hb
  have sb := J.symm.same hb ha
  refine ⟨fun l hl => ?_, fun r hr => ?_⟩
  · have h1 := sa.2 l hl
    have h2 := sb.2 l hl
    have r1 := ha.rng l hl
    have r2 := hb.rng l hl
    constructor
    · intro c
      have : atL b l = -1 := h2.2 (h1.1 (by omega))
      omega
    · intro c
      have : atL a l = -1 := h1.2 (h2.1 (by omega))
      omega
  · have c1 := sa.1 r hr
    have c2 := sb.1 r hr
    refine ⟨by omega, fun hlt => goes_ext _ fun k hk => ?_⟩
    have subB : ∀ l, l < lL.length → atL (pickTo (secJ lL a b) a b lL.length) l = r → atL b l = r := fun l hl e => Classical.byContradiction fun hx => by
      have := (J.only ha hb hl hr e hx).2.1
      omega
    have subA : ∀ l, l < lL.length → atL (pickTo (secJ lL a b) a b lL.length) l = r → atL a l = r := fun l hl e => Classical.byContradiction fun hx => by
      have := (J.symm.only hb ha hl hr e hx).2.1
      omega
    have eqB := (count_sub (s := r) hb.len J.lenJ subB).2
    have eqA := (count_sub (s := r) ha.len J.lenJ subA).2
    constructor
    · intro e
      refine subB k hk (Classical.byContradiction fun hx => ?_)
      have := eqA k hk e hx
      omega
    · intro e
      refine subA k hk (Classical.byContradiction fun hx => ?_)
      have := eqB k hk e hx
      omega
set_option maxRecDepth 100000 in
set_option maxHeartbeats 8000000 in
/-- TOPRURAL'S WALK. -/
theorem rural_any (a : Option Addr) (m c : Nat) (raw : List Int) (li ri : Int) (w : World) (h : Ints w a m c raw) (hr : ∀ x ∈ raw, InR x) (hli : InR li) (hri : InR ri) (hmx : m ≤ 140737488351232) :
    Calls Try.prog 5 #[.slice a m c, .int .i64 li, .int .i64 ri] w fun e w' => e = .returned (.bool true) ∧ Below w.heap.size w w' := by
  have HR := hide hr
  clear hr
  by_cases hbig : 256 < m
  · go_enter Try.func5, Try.ntmps5
    go_wp2
    go_ret
    exact ⟨rfl, Below.refl _ _⟩
  go_enter Try.func5, Try.ntmps5
  go_wp2_with fail
  refine (sides_any a m c raw li ri 4 false w h (unhide HR) hli hri (by omega) (by omega) (by omega)).mono ?_
  rintro e w1 ⟨aL, nL, cL, lL, aR, nR, cR, lR, rfl, hL, hR, hnL0, h1, hnR0, h2, m1, m2, hb1⟩
  have hF : Fit lL lR := made_fit hL.1 hR.1 (by omega) (by omega) m1 m2
  have HZ := hide (made_match hF fun j hj => (m1 j (by have := hL.1; omega)).room.2.2 rfl)
  have HFL := hide (made_ln hL.1 m1)
  have HFR := hide (made_ln hR.1 m2)
  clear hF m1 m2
  go_wp2_with fail
  obtain ⟨wA, hwA⟩ : ∃ y, y = w1.alloc (.cells #[.slice aL nL cL, .slice aR nR cR] 26) := ⟨_, rfl⟩
  have hbA : Below w1.heap.size w1 wA := by rw [hwA]; go_grown
  have p0 : wA.cell? ⟨w1.heap.size, 0, none⟩ = some (.slice aL nL cL) := by rw [hwA]; simp
  have p1 : wA.cell? ⟨w1.heap.size, 1, none⟩ = some (.slice aR nR cR) := by rw [hwA]; simp
  rw [← hwA]
  have HW := hide hwA
  clear hwA
  refine (all_ok aL nL cL lL aR nR cR lR wA (hL.later hbA) (hR.later hbA) (unhide HFL) (unhide HFR) (unhide HZ)).mono ?_
  rintro e w2 ⟨a2, n2, c2, L2, rfl, hL2, hl2, hb2⟩
  have hbw2 := hbA.trans (hb2.mono hbA.size)
  have p0b := (hb2.cell (p := ⟨w1.heap.size, 0, none⟩) (World.block_lt_of_cell? wA _ p0)).trans p0
  have p1b := (hb2.cell (p := ⟨w1.heap.size, 1, none⟩) (World.block_lt_of_cell? wA _ p1)).trans p1
  clear p0 p1
  have hn2 : 0 < n2 ∧ n2 ≤ 1000 := by
    have e1 : n2 = (progF lL lR lL.length []).length := by rw [← hl2, hL2.1]; simp [lists]
    have e2 := prog_some (unhide HZ)
    have e3 := prog_len (lL := lL) (lR := lR) lL.length []
    have hlL := hL.1
    have hlR := hR.1
    have e4 : (lR.length + 1) ^ lL.length ≤ 5 ^ 4 := Nat.le_trans (Nat.pow_le_pow_left (show lR.length + 1 ≤ 5 by omega) _) (Nat.pow_le_pow_right (by omega) (by omega))
    have e5 : (5 : Nat) ^ 4 ≤ 1000 := by decide
    omega
  obtain ⟨hn0, hn9⟩ := hn2
  unfold two
  go_wp2_with fail
  refine (left_ok aL nL cL lL aR nR cR lR w2 (hL.later hbw2) (hR.later hbw2) (unhide HFR) (unhide HZ)).mono ?_
  rintro e w3 ⟨g3, ws, asked, rfl, hI3, _, hA3, hF3, hb3⟩
  have hbw3 := hbw2.trans (hb3.mono hbw2.size)
  have p0c := (hb3.cell (p := ⟨w1.heap.size, 0, none⟩) (World.block_lt_of_cell? w2 _ p0b)).trans p0b
  have p1c := (hb3.cell (p := ⟨w1.heap.size, 1, none⟩) (World.block_lt_of_cell? w2 _ p1b)).trans p1b
  clear p0b p1b
  have hS3 : Stab lL lR ws := (hA3.inv (match_may (unhide HZ))).stab hF3
  clear hA3 hF3
  have hL3 := hL2.later hb3
  have HST : Hid (∀ i, i < n2 → Stab lL lR (slAt L2 i).ints ∧ Ints w3 (slAt L2 i).la (slAt L2 i).ln (slAt L2 i).lc (slAt L2 i).ints) := fun i hi => by
    have hm := slAt_mem (l := L2) (j := i) (by have := hL2.1; omega)
    refine ⟨prog_stab (unhide HZ) ?_, hL3.2.2.2.1 _ hm⟩
    rw [← hl2]
    exact List.mem_map.2 ⟨_, hm, rfl⟩
  have hc2 := hL2.2.1
  have hm2 := hL2.2.2.1
  unfold maxLen at hm2
  obtain ⟨b2, off2, rfl, hbb2, hcell2⟩ := hL3.cellAt hn0
  have HC2 := hide hcell2
  have HS3 := hide hS3
  clear hL2 hL3 hl2 hcell2 hS3
  have n0 : ((n2 : Int) == 0) = false := by simp; omega
  have hcL := hL.2.1
  have hcmL := hL.2.2.1
  unfold maxLen at hcmL
  have hcR := hR.2.1
  have hcmR := hR.2.2.1
  unfold maxLen at hcmR
  unfold two
  go_wp2_with fail
  go_loopw [12] (fun i wr => Below w3.heap.size w3 wr ∧ ∃ k : Nat, k ≤ n2 ∧ i = .int .i64 k) (fun i _ => n2 - (intOf i).toNat)
  case atStart => exact ⟨Below.refl _ _, 0, Nat.zero_le _, rfl⟩
  case round =>
    obtain ⟨hbr, k, hk, rfl⟩ := hrel
    by_cases hlt : k < n2
    · have hck := (hbr.cell (p := ⟨b2, off2 + k, none⟩) hbb2).trans (unhide HC2 k hlt)
      obtain ⟨hSx, hIx0⟩ := unhide HST k hlt
      have hIx := hIx0.later hbr
      obtain ⟨sx, hsx⟩ : ∃ s, s = slAt L2 k := ⟨_, rfl⟩
      rw [← hsx] at hck hSx hIx
      clear hsx hIx0
      obtain ⟨xa, xn, xc, xs⟩ := sx
      simp only at hck hSx hIx
      obtain ⟨hru1, hru2⟩ := rural (unhide HS3) hSx
      have hxn : xn = nL := by have := hIx.1; have := hSx.len; have := hL.1; omega
      subst hxn
      have HRU1 := hide hru1
      have HRU2 := hide hru2
      clear hru1 hru2
      have hlLn := hide hL.1
      have hlRn := hide hR.1
      have hI3r := hI3.later hbr
      obtain ⟨b3, o3, hb3e, hb3lt, hcell3⟩ := hI3r.cellAt hnL0
      cases hb3e
      obtain ⟨bx, ox, rfl, hbxlt, hcellx⟩ := hIx.cellAt hnL0
      have hcx := hIx.2.1
      have hcmx := hIx.2.2.1
      unfold maxLen at hcmx
      have HC3 := hide hcell3
      have HCX := hide hcellx
      have HSX := hide hSx
      clear hcell3 hcellx hSx
      go_wp2_with fail
      rename World => wk
      go_loopw [13] (fun i wr => Below wk.heap.size wk wr ∧ ∃ l : Nat, l ≤ xn ∧ i = .int .i64 l) (fun i _ => xn - (intOf i).toNat)
      case atStart => exact ⟨Below.refl _ _, 0, Nat.zero_le _, rfl⟩
      case round =>
        obtain ⟨hbr2, l, hl, rfl⟩ := hrel
        by_cases hll : l < xn
        · have q1 := (hbr2.cell (p := ⟨g3, 0 + l, none⟩) hb3lt).trans (unhide HC3 l hll)
          have q2 := (hbr2.cell (p := ⟨b2, off2 + k, none⟩) (World.block_lt_of_cell? wk _ hck)).trans hck
          have q3 := (hbr2.cell (p := ⟨bx, ox + l, none⟩) hbxlt).trans (unhide HCX l hll)
          rw [Nat.zero_add] at q1
          have hiff : (ws[l]?.getD 0 < 0 ↔ xs[l]?.getD 0 < 0) := unhide HRU1 l (by have := unhide hlLn; omega)
          by_cases hneg : ws[l]?.getD 0 < 0
          · have d1 : decide (ws[l]?.getD 0 < 0) = true := decide_eq_true hneg
            have d2 : decide (xs[l]?.getD 0 < 0) = true := decide_eq_true (hiff.1 hneg)
            clear hneg hiff
            go_wp2_with fail
            go_quiet (fail)
            go_wp2_with fail
            go_roundw
            case rel => exact ⟨by first | exact hbr2 | exact hbr2.drew | exact hbr2.trans (below_drewN _ _ _), l + 1, by omega, by go_num⟩
            case measure => simp [intOf]; omega
          · have d1 : decide (ws[l]?.getD 0 < 0) = false := decide_eq_false hneg
            have d2 : decide (xs[l]?.getD 0 < 0) = false := decide_eq_false (fun e => hneg (hiff.2 e))
            clear hneg hiff
            go_wp2_with fail
            go_quiet (fail)
            go_wp2_with fail
            go_roundw
            case rel => exact ⟨by first | exact hbr2 | exact hbr2.drew | exact hbr2.trans (below_drewN _ _ _), l + 1, by omega, by go_num⟩
            case measure => simp [intOf]; omega
        · rename World => wl
          have hb3l : Below w3.heap.size w3 wl := hbr.trans (hbr2.mono hbr.size)
          have q2 := (hbr2.cell (p := ⟨b2, off2 + k, none⟩) (World.block_lt_of_cell? wk _ hck)).trans hck
          have hIxl := hIx.later hbr2
          go_wp2_with fail
          go_loopw [14] (fun i wr => Below wl.heap.size wl wr ∧ ∃ r : Nat, r ≤ nR ∧ i = .int .i64 r) (fun i _ => nR - (intOf i).toNat)
          case atStart => exact ⟨Below.refl _ _, 0, Nat.zero_le _, rfl⟩
          case round =>
            obtain ⟨hbr4, r, hr, rfl⟩ := hrel
            have hb3r := hb3l.trans (hbr4.mono hb3l.size)
            have hbwr := hbw3.trans (hb3r.mono hbw3.size)
            have p1r := (hb3r.cell (p := ⟨w1.heap.size, 1, none⟩) (World.block_lt_of_cell? w3 _ p1c)).trans p1c
            by_cases hrr : r < nR
            · go_wp2_with fail
              refine (goes_any _ xn xn ws r wr (hI3.later hb3r) (by omega)).mono ?_
              rintro e w5 ⟨v5, rfl, ho5, hb5⟩
              have hgl := goes_len ws r xn (by have := hI3.1; omega)
              have hgle := cnt_le ws r xn
              obtain ⟨a5, c5, hv5, hI5, _⟩ := Ints.of_owns ho5 (by omega)
              subst hv5
              have hcw : (goesTo ws r xn).length = ws.count (r : Int) := by rw [hgl, ← cnt_len, ← hI3.1]
              obtain ⟨q, hq⟩ : ∃ q, q = ws.count (r : Int) := ⟨_, rfl⟩
              have hq9 : q ≤ 1000 := by omega
              rw [hcw, ← hq] at hI5 ⊢
              have HQ := hide hq
              clear ho5 hgl hgle hcw hq
              have q2b := ((hbr4.trans (hb5.mono hbr4.size)).cell (p := ⟨b2, off2 + k, none⟩) (World.block_lt_of_cell? wl _ q2)).trans q2
              go_wp2_with fail
              refine (goes_any _ xn xc xs r w5 (hIxl.later (hbr4.trans (hb5.mono hbr4.size))) (by omega)).mono ?_
              rintro e w6 ⟨v6, rfl, ho6, hb6⟩
              have hgl6 := goes_len xs r xn (by have := hIx.1; omega)
              have hgle6 := cnt_le xs r xn
              obtain ⟨a6, c6, hv6, hI6, _⟩ := Ints.of_owns ho6 (by omega)
              subst hv6
              obtain ⟨hcnt, hsame⟩ := unhide HRU2 r (by have := unhide hlRn; omega)
              have hcx2 : (goesTo xs r xn).length = q := by rw [hgl6, unhide HQ, hcnt, ← cnt_len, ← hIx.1]
              rw [hcx2] at hI6 ⊢
              rw [← unhide HQ, ← unhide hlLn] at hsame
              clear ho6 hgl6 hgle6 hcx2 hcnt
              have hb46 := hb5.trans (hb6.mono hb5.size)
              have p1s := (hb46.cell (p := ⟨w1.heap.size, 1, none⟩) (World.block_lt_of_cell? wr _ p1r)).trans p1r
              have hb36 := hb3r.trans (hb46.mono hb3r.size)
              have hbw6 := hbw3.trans (hb36.mono hbw3.size)
              have hR6 := hR.later hbw6
              obtain ⟨bR, oR, hRe, hbR, hRc⟩ := hR6.cellAt hnR0
              subst hRe
              have hroom := (hRc r hrr).2.1
              have hI5' := hI5.later hb6
              have HRC := hide hRc
              clear hI5 hRc
              have nq : ((q : Int) != (q : Int)) = false := by simp
              by_cases hlt3 : (q : Int) < (agAt lR r).room
              · have d1 : decide ((q : Int) < (agAt lR r).room) = true := decide_eq_true hlt3
                have hsm := hsame hlt3
                clear hlt3 hsame
                rw [← hsm] at hI6
                have HI5 := hide hI5'
                have HI6 := hide hI6
                clear hI5' hI6 hsm
                go_wp2_with (go_at_call 17; refine (sameT_any a5 a6 q c5 q c6 (goesTo ws r xn) (goesTo ws r xn) w6 (unhide HI5) (unhide HI6)).mono ?_; rintro e w7 ⟨rfl, hb7⟩; rw [decide_eq_true rfl])
                go_roundw
                case rel =>
                  have hbx := hbr4.trans ((hb46.trans (hb7.mono hb46.size)).mono hbr4.size)
                  exact ⟨hbx, r + 1, by omega, by go_num⟩
                case measure => simp [intOf]; omega
              · have d1 : decide ((q : Int) < (agAt lR r).room) = false := decide_eq_false hlt3
                clear hlt3 hsame
                go_wp2_with fail
                go_roundw
                case rel => exact ⟨hbr4.trans (hb46.mono hbr4.size), r + 1, by omega, by go_num⟩
                case measure => simp [intOf]; omega
            · go_wp2_with fail
              go_roundw
              case rel => exact ⟨hb3r, k + 1, by omega, by go_num⟩
              case measure => simp [intOf]; omega
    · go_wp2
      go_ret
      have hbF := hbw3.trans (hbr.mono hbw3.size)
      exact ⟨rfl, hb1.trans (hbF.mono hb1.size)⟩
end Go.Proofs.Ytodbnjainpjkcaa
