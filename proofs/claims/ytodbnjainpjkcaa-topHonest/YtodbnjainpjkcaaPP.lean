import Derived.Test.YtodbnjainpjkcaaOO
namespace Go.Proofs.Ytodbnjainpjkcaa
open Go.RowKit
theorem cast1 (l : Nat) : ((l + 1 : Nat) : Int) = (l : Int) + 1 := by omega
def progPart (lL lR : List Ag) (f : Nat) (ws : List Int) : Nat → List (List Int)
  | 0 => progF lL lR f (ws ++ [-1])
  | k + 1 => progPart lL lR f ws k ++ (if (likeB lL lR ws.length k && decide ((ws.count (k : Int) : Int) < (agAt lR k).room)) = true then progF lL lR f (ws ++ [(k : Int)]) else [])
theorem progPart_all (lL lR : List Ag) (f : Nat) (ws : List Int) : ∀ n, progPart lL lR f ws n = progF lL lR f (ws ++ [-1]) ++ (List.range n).flatMap fun r => if (likeB lL lR ws.length r && decide ((ws.count (r : Int) : Int) < (agAt lR r).room)) = true then progF lL lR f (ws ++ [(r : Int)]) else [] := by
  intro n
  induction n with
  | zero => simp [progPart]
  | succ n ih => rw [progPart, ih, List.range_succ, List.flatMap_append, List.flatMap_cons, List.flatMap_nil, List.append_nil, List.append_assoc]
set_option maxRecDepth 100000 in
set_option maxHeartbeats 8000000 in
theorem settle_any (lL lR : List Ag) (w0 : World) (aL : Option Addr) (nL cL : Nat) (aR : Option Addr) (nR cR : Nat) (hL : Ags w0 aL nL cL lL) (hR : Ags w0 aR nR cR lR) (hfL : ∀ g ∈ lL, g.ln ≤ 500) (hfR : ∀ g ∈ lR, g.ln ≤ 500) (hsix : nL ≤ 6) (hsixR : nR ≤ 6)
    (g Bw Bp Ba Bs B1 : Nat) (hp0 : w0.cell? ⟨Bp, 0, none⟩ = some (.slice aL nL cL)) (hp1 : w0.cell? ⟨Bp, 1, none⟩ = some (.slice aR nR cR)) (h1 : g < B1) (h2 : Ba < B1) (h3 : Bw < B1) (h4 : Bs < B1) (h5 : Ba ≠ g) (h6 : Ba ≠ Bw) (h7 : Ba ≠ Bs) (h8 : w0.heap.size ≤ Ba) (h9 : g ≠ Bw) (h10 : g ≠ Bs) (h11 : w0.heap.size ≤ g) :
    ∀ (f l : Nat) (pre : List Int) (W : World) (v : Value) (L : List Sl), pre.length = l → l + f = lL.length → St w0 nL g Bw Bp Ba Bs B1 W (fullOf nL pre) v L → L.length + 7 ^ f ≤ 1000000 →
    Calls Try.prog 39 #[.int .i64 l, .pointer (some ⟨Bw, 0, none⟩), .pointer (some ⟨Bp, 0, none⟩), .pointer (some ⟨Ba, 0, none⟩), .pointer (some ⟨Bs, 0, none⟩)] W fun e W' =>
      e = .returned (.tuple #[]) ∧ ∃ v' L', St w0 nL g Bw Bp Ba Bs B1 W' (fullOf nL pre) v' L' ∧ lists L' = lists L ++ progF lL lR f pre := by
  have hlL := hide hL.1
  have hlR := hide hR.1
  have hnR := hR.2.1
  have hcR := hR.2.2.1
  unfold maxLen at hcR
  intro f
  induction f with
  | zero =>
    intro l pre W v L hl hlf hS hbd
    have hpn : pre.length = nL := by have := unhide hlL; omega
    have e : fullOf nL pre = pre := by rw [← hpn]; exact fullOf_whole
    rw [e] at hS ⊢
    rw [← hl]
    exact settle_leaf lL lR w0 aL nL cL aR nR cR hL hR hfL hfR hsix g Bw Bp Ba Bs B1 hp0 hp1 h1 h2 h3 h4 h5 h6 h7 h8 pre W v L (by omega) hS (by simpa using hbd)
  | succ f ih =>
    intro l pre W v L hl hlf hS hbd
    have hln : l < nL := by have := unhide hlL; omega
    have hne : ((l : Int) == (nL : Int)) = false := by simp; omega
    have HL := hide hl
    have HLF := hide hlf
    have HBD := hide hbd
    clear hl hlf hbd
    have hpw : 7 ^ (f + 1) = 7 ^ f * 7 := Nat.pow_succ _ _
    have hp1' : 1 ≤ 7 ^ f := Nat.pow_pos (show 0 < 7 by omega)
    have HPW := hide hpw
    have HP1 := hide hp1'
    clear hpw hp1'
    have hplen : ∀ x, (progF lL lR f x).length ≤ 7 ^ f := fun x => Nat.le_trans (prog_len f x) (Nat.pow_le_pow_left (by have := unhide hlR; omega) f)
    have HPLEN := hide hplen
    clear hplen
    have HIH := hide ih
    clear ih
    have q1 := (hS.below.cell (p := ⟨Bp, 1, none⟩) (World.block_lt_of_cell? w0 _ hp1)).trans hp1
    have c1 := hS.cw
    have cs := hS.cs
    go_enter Try.func39, Try.ntmps39
    go_wp2_with fail
    rw [← cast1 l]
    refine (unhide HIH (l + 1) (pre ++ [-1]) W v L (by simp; exact unhide HL) (by have := unhide HLF; omega) (by rw [fullOf_alone (by have := unhide HL; omega)]; exact hS) (by have := unhide HBD; have := unhide HPW; have := unhide HP1; omega)).mono ?_
    rintro e w1 ⟨rfl, v1, L1, hS1, hl1⟩
    rw [fullOf_alone (by have := unhide HL; omega)] at hS1
    have q1a := (hS1.below.cell (p := ⟨Bp, 1, none⟩) (World.block_lt_of_cell? w0 _ hp1)).trans hp1
    have HS1 := hide hS1
    have HL1 := hide hl1
    clear hS hS1 hl1 c1 cs q1
    go_wp2_with fail
    clear q1a
    go_loopw [34] (fun i wr => ∃ (k : Nat) (v : Value) (M : List Sl), k ≤ nR ∧ i = .int .i64 k ∧ St w0 nL g Bw Bp Ba Bs B1 wr (fullOf nL pre) v M ∧ lists M = lists L ++ progPart lL lR f pre k ∧ M.length ≤ L.length + (k + 1) * 7 ^ f) (fun i _ => nR - (intOf i).toNat)
    case atStart =>
      refine ⟨0, v1, L1, Nat.zero_le _, rfl, unhide HS1, unhide HL1, ?_⟩
      have h := congrArg List.length (unhide HL1)
      have := unhide HPLEN (pre ++ [-1])
      simp [lists] at h
      omega
    case round =>
      obtain ⟨k, v, M, hk, rfl, hS, hlst, hbl⟩ := hrel
      have HLST := hide hlst
      have HBL := hide hbl
      clear hlst hbl
      by_cases hkt : k < nR
      · obtain ⟨bR, oR, rfl, hbR, q1, q2, q3⟩ := (hR.later hS.below).at hkt
        have HP0 := hide (show progPart lL lR f pre (k + 1) = progPart lL lR f pre k ++ (if (likeB lL lR pre.length k && decide ((pre.count (k : Int) : Int) < (agAt lR k).room)) = true then progF lL lR f (pre ++ [(k : Int)]) else []) from rfl)
        rw [unhide HL] at HP0
        generalize agAt lR k = G at *
        obtain ⟨nm, room, la, ln, lc, likes⟩ := G
        simp only at q1 q2 q3 HP0
        obtain ⟨wB, hwB⟩ : ∃ y, y = wr.alloc (.cells #[.string nm, .int .i64 room, .slice la ln lc] 37) := ⟨_, rfl⟩
        have hbB : Below wr.heap.size wr wB := by rw [hwB]; go_grown
        have A1b : wB.cell? ⟨wr.heap.size, 1, none⟩ = some (.int .i64 room) := by rw [hwB]; simp
        have HWB := hide hwB
        clear hwB
        have hSB := hS.later hbB
        have hI := hSB.row.ints' (cap := nL) (fullOf_len (by have := unhide HL; omega)).symm (Nat.le_refl _) (by unfold maxLen; omega)
        have C1 := hide (fun d os => Calls.regrown_of (like_any aL nL cL lL _ nR cR lR l k _ (hL.later (hSB.below.trans ((below_regrown wB d os).mono hSB.below.size))) (hR.later (hSB.below.trans ((below_regrown wB d os).mono hSB.below.size))) hln hkt))
        have C2 : Hid (∀ d os, Calls Try.prog 34 #[.slice (some ⟨g, 0, none⟩) nL nL, .int .i64 k] (Sort.grow (redrawn wB d) os) fun e w'' => e = .returned (.int .i64 (pre.count (k : Int))) ∧ ∃ p : Regrown, w'' = Sort.grow (redrawn wB p.d) p.os) := fun d os => by
          have := Calls.regrown_of ((count_any (some ⟨g, 0, none⟩) nL nL (fullOf nL pre) k _ (hI.later (below_regrown wB d os))).mono (fun e w' ⟨h1, h2⟩ => ⟨h1, by rw [h2]; exact Below.refl _ _⟩))
          rw [count_full] at this
          exact this
        have b0g := cell_regrown ((hSB.below.cell (p := ⟨Bp, 0, none⟩) (World.block_lt_of_cell? w0 _ hp0)).trans hp0)
        have b1g := cell_regrown ((hSB.below.cell (p := ⟨Bp, 1, none⟩) (World.block_lt_of_cell? w0 _ hp1)).trans hp1)
        have cwg := cell_regrown hSB.cw
        have A1g := cell_regrown A1b
        have HSB := hide hSB
        clear hSB hS hI A1b
        cases hk1 : likeB lL lR l k with
        | false =>
          have HP : Hid (progPart lL lR f pre (k + 1) = progPart lL lR f pre k) := by show _ = _; rw [unhide HP0, hk1]; simp
          rw [hk1] at C1
          go_wp2_with fail
          rw [← unhide HWB]
          clear q1 q2 q3
          refine wp_region_quiet_below (by kernel_rfl) (by kernel_rfl) ?_
          repeat (quiet_step (first | exact unhide C1 _ _ | exact unhide C2 _ _))
          refine wpQuiet_nil ?_
          intro _ hw'
          obtain ⟨⟨dq, osq⟩, hw''⟩ := hw'
          subst hw''
          have HSd := hide ((unhide HSB).later (below_regrown wB dq osq))
          clear b0g b1g cwg A1g C1 C2
          generalize Sort.grow (redrawn wB dq) osq = wd at *
          go_wp2
          go_roundw
          case rel =>
            refine ⟨k + 1, v, M, by omega, by go_num, unhide HSd, by rw [unhide HP]; exact unhide HLST, ?_⟩
            exact Nat.le_trans (unhide HBL) (Nat.add_le_add_left (Nat.mul_le_mul_right _ (by omega)) _)
          case measure => simp [intOf]; omega
        | true =>
          rw [hk1] at C1
          by_cases hc : (pre.count (k : Int) : Int) < room
          · have d2 : decide ((pre.count (k : Int) : Int) < room) = true := decide_eq_true hc
            have HP : Hid (progPart lL lR f pre (k + 1) = progPart lL lR f pre k ++ progF lL lR f (pre ++ [(k : Int)])) := by show _ = _; rw [unhide HP0, hk1, d2]; simp
            clear hc
            go_wp2_with fail
            rw [← unhide HWB]
            clear q1 q2 q3
            refine wp_region_quiet_below (by kernel_rfl) (by kernel_rfl) ?_
            repeat (quiet_step (first | exact unhide C1 _ _ | exact unhide C2 _ _))
            refine wpQuiet_nil ?_
            intro _ hw'
            obtain ⟨⟨dq, osq⟩, hw''⟩ := hw'
            subst hw''
            have hSd := (unhide HSB).later (below_regrown wB dq osq)
            clear b0g b1g cwg A1g C1 C2
            generalize Sort.grow (redrawn wB dq) osq = wd at *
            have cwd := hSd.cw
            obtain ⟨cg, fg⟩ := hSd.row.cf hln
            have hSe := hSd.set h9 h10 (fun e => h5 e.symm) h1 h11 (fullOf_len (by have := unhide HL; omega)).symm hln (k : Int)
            have cse := hSe.cs
            rw [show (fullOf nL pre).set l (k : Int) = fullOf nL (pre ++ [(k : Int)]) by rw [← unhide HL]; exact fullOf_set _ (by have := unhide HL; omega)] at hSe
            have HSE := hide hSe
            clear hSe hSd
            go_wp2_with fail
            rw [← cast1 l]
            refine (unhide HIH (l + 1) (pre ++ [(k : Int)]) _ v M (by simp; exact unhide HL) (by have := unhide HLF; omega) (unhide HSE) (by
              have := unhide HBD; have := unhide HPW; have := unhide HBL
              have h7 : (k + 1) * 7 ^ f ≤ 6 * 7 ^ f := Nat.mul_le_mul_right _ (by omega)
              omega)).mono ?_
            rintro e wf ⟨rfl, vf, Mf, hSf, hlf⟩
            have cwf := hSf.cw
            obtain ⟨cgf, fgf⟩ := hSf.row.cf hln
            have hSg := hSf.set h9 h10 (fun e => h5 e.symm) h1 h11 (fullOf_len (by have := unhide HL; simp; omega)).symm hln (-1)
            rw [show (fullOf nL (pre ++ [(k : Int)])).set l (-1) = fullOf nL pre by rw [← unhide HL]; exact fullOf_back _ (by have := unhide HL; omega)] at hSg
            have HSG := hide hSg
            have HLF2 := hide hlf
            clear hSg hSf hlf cwd cg fg cse
            go_wp2
            go_roundw
            case rel =>
              refine ⟨k + 1, vf, Mf, by omega, by go_num, unhide HSG, by rw [unhide HLF2, unhide HP, unhide HLST, List.append_assoc], ?_⟩
              have h := congrArg List.length (unhide HLF2)
              have := unhide HPLEN (pre ++ [(k : Int)])
              have := unhide HBL
              simp [lists] at h
              have h8' : (k + 1 + 1) * 7 ^ f = (k + 1) * 7 ^ f + 7 ^ f := by rw [Nat.succ_mul]
              omega
            case measure => simp [intOf]; omega
          · have d2 : decide ((pre.count (k : Int) : Int) < room) = false := decide_eq_false hc
            have HP : Hid (progPart lL lR f pre (k + 1) = progPart lL lR f pre k) := by show _ = _; rw [unhide HP0, hk1, d2]; simp
            clear hc
            go_wp2_with fail
            rw [← unhide HWB]
            clear q1 q2 q3
            refine wp_region_quiet_below (by kernel_rfl) (by kernel_rfl) ?_
            repeat (quiet_step (first | exact unhide C1 _ _ | exact unhide C2 _ _))
            refine wpQuiet_nil ?_
            intro _ hw'
            obtain ⟨⟨dq, osq⟩, hw''⟩ := hw'
            subst hw''
            have HSd := hide ((unhide HSB).later (below_regrown wB dq osq))
            clear b0g b1g cwg A1g C1 C2
            generalize Sort.grow (redrawn wB dq) osq = wd at *
            go_wp2
            go_roundw
            case rel =>
              refine ⟨k + 1, v, M, by omega, by go_num, unhide HSd, by rw [unhide HP]; exact unhide HLST, ?_⟩
              exact Nat.le_trans (unhide HBL) (Nat.add_le_add_left (Nat.mul_le_mul_right _ (by omega)) _)
            case measure => simp [intOf]; omega
      · have hkn : k = nR := by omega
        have HS := hide hS
        clear hS
        go_wp2
        first | go_end0 | ((try simp only [Exit.inBlock, Exit.then]); refine bodyPost_ret (results_none rfl _ _ _) rfl ?_)
        refine ⟨rfl, v, M, unhide HS, ?_⟩
        rw [unhide HLST, progPart_all, progF, hkn, unhide hlR]
end Go.Proofs.Ytodbnjainpjkcaa
