import Derived.Test.YtfknnededkdodaaR
namespace Go.Proofs.Ytfknnededkdodaa
open Go.RowKit
theorem nth_upd {L : List Int} {n i : Nat} {x : Int} (hl : n = L.length) (hi : i < n) : nth (lF n (upd (nth L) i x)) = upd (nth L) i x := by
  funext j
  by_cases h : j < n
  · exact lF_at h
  · rw [upd_ne (by omega)]
    unfold nth
    rw [List.getElem?_eq_none (by rw [lF_len]; omega), List.getElem?_eq_none (by omega)]
theorem bE_is {n : Nat} {v : Nat → Int} (h1 : 1 ≤ n) (h4 : n ≤ 4) (h : Bl n v) : bE n v = 0 := bE_ok (by omega) h
set_option maxRecDepth 100000 in
set_option maxHeartbeats 8000000 in
theorem topBids_any (ra : Option Addr) (rn rc : Nat) (raw : List Int) (x1 x2 x3 : Int) (sa : Option Addr) (sn sc : Nat) (sl : List Int) (w : World) (hR : Ints w ra rn rc raw) (hRi : ∀ x ∈ raw, InR x) (h1 : InR x1) (h2 : InR x2) (h3 : InR x3)
    (hS : Ints w sa sn sc sl) (hSi : ∀ x ∈ sl, InR x) (hm0 : rn ≤ 140737488351232) (hm1 : sn ≤ 140737488351232) :
    Calls Try.prog 4 #[.slice ra rn rc, .int .i64 x1, .int .i64 x2, .int .i64 x3, .slice sa sn sc] w fun e w' => e = .returned (.bool true) ∧ Below w.heap.size w w' := by
  by_cases hbig : 256 < rn + sn
  · clear hR hS
    go_enter Try.func4, Try.ntmps4
    go_wp2
    go_ret
    exact ⟨rfl, Below.refl _ _⟩
  · have hrn : rn ≤ 256 := by omega
    have hsn : sn ≤ 256 := by omega
    have CP1 := hide (pick_val x1 4 h1 (by omega) (by omega) w)
    have hp1 := pkN_lt x1 (show 0 < 4 by omega)
    generalize pkN x1 4 = p1 at *
    obtain ⟨N, hN⟩ : ∃ N, N = 1 + p1 := ⟨_, rfl⟩
    have zN : (1 : Int) + (p1 : Int) = (N : Int) := by omega
    have hN1 : 1 ≤ N := by omega
    have hN4 : N ≤ 4 := by omega
    have CP2 := hide (pick_val x2 N h2 (by omega) (by omega) w)
    have hwho := pkN_lt x2 (show 0 < N by omega)
    generalize pkN x2 N = who at *
    have CP3 := hide (pick_val x3 1001 h3 (by omega) (by omega) w)
    have hlie := pkN_lt x3 (show 0 < 1001 by omega)
    generalize pkN x3 1001 = lie at *
    have HR := hide hR
    have HRi := hide hRi
    have HS := hide hS
    have HSi := hide hSi
    clear hR hRi hS hSi hN hp1
    go_enter Try.func4, Try.ntmps4
    go_wp2_with fail
    refine (unhide CP1).mono ?_
    rintro e w2 ⟨rfl, hw2⟩
    subst w2
    go_wp2_with fail
    refine (unhide CP2).mono ?_
    rintro e w2 ⟨rfl, hw2⟩
    subst w2
    go_wp2_with fail
    refine (unhide CP3).mono ?_
    rintro e w2 ⟨rfl, hw2⟩
    subst w2
    clear CP1 CP2 CP3
    go_wp2_with fail
    go_loopw [12, 11] (fun i v wr => Below w.heap.size w wr ∧ ∃ (k : Nat) (vl : List Int), k ≤ N ∧ i = .int .i64 k ∧ wr.ownsRow w.heap.size 3 1 v k (intVals vl) ∧ (∀ x ∈ vl, 0 ≤ x ∧ x ≤ 1000)) (fun i _ _ => N - (intOf i).toNat)
    case atStart => exact ⟨Below.refl _ _, 0, [], Nat.zero_le _, rfl, World.ownsRow_nil _ _ _ _, fun x hx => (by cases hx)⟩
    case round =>
      obtain ⟨hbr, k, vl, hk, rfl, hown, hvl⟩ := hrel
      by_cases hlt : k < N
      · have CA := hide (at_val ra rn rc raw k wr ((unhide HR).later hbr) (by omega) (by omega))
        have hin := atV_in (unhide HRi) k
        generalize atV raw k = y at *
        have CB := hide (pick_val y 40 hin (by omega) (by omega) wr)
        have hpk := pkN_lt y (show 0 < 40 by omega)
        generalize pkN y 40 = z at *
        have HO := hide hown
        have HVL := hide hvl
        clear hown hvl hin
        go_wp2_with fail
        refine (unhide CA).mono ?_
        rintro e w2 ⟨rfl, hw2⟩
        subst w2
        go_wp2_with fail
        refine (unhide CB).mono ?_
        rintro e w2 ⟨rfl, hw2⟩
        subst w2
        go_wp2_with (at_builtin; refine wpList_append_int _ rfl _ _ rfl w.heap.size _ k _ rfl ((unhide HO).alloc _) wr.heap.size (z : Int) rfl (by simp) (by omega) (by have := hbr.size; simp; omega) ?_; intro v2 w2 ho2 hg2)
        go_roundw
        case rel =>
          have hb5 := (((Below.refl w.heap.size wr).alloc hbr.size (.cells #[.int .i64 (z : Int)] 3)).grown hg2 (by have := hbr.size; simp; omega) (fun q hq => ((unhide HO).lt q hq).1))
          refine ⟨hbr.trans hb5, k+1, vl ++ [(z : Int)], by omega, by go_num, ?_, fun x hx => ?_⟩
          · rw [intVals_append]
            exact ho2
          · rcases List.mem_append.1 hx with h | h
            · exact unhide HVL x h
            · rw [List.mem_singleton] at h; subst h; omega
        case measure => simp [intOf]; omega
      · obtain rfl : k = N := by omega
        have hlen : k = vl.length := by have := hown.1; rw [intVals_len] at this; omega
        obtain ⟨la, lc, hv, hLI, _⟩ := Ints.of_owns hown (by omega)
        subst hv
        have hBl : Bl k (nth vl) := fun j hj => hvl _ (by unfold nth; rw [List.getElem?_eq_getElem (by omega)]; exact List.getElem_mem _)
        have HBl := hide hBl
        have HLI := hide hLI
        have HU := hide (fun (x : Int) => nth_upd (x := x) hlen hwho)
        have hlc := hLI.2.1
        have hlm := hLI.2.2.1
        unfold maxLen at hlm
        clear hown hvl hBl hLI hlen
        have hb0 : Below wr.heap.size wr (wr.alloc (.cells #[] 3)) := by go_grown
        have hI1 := hide ((unhide HLI).later hb0)
        have hown0 : (wr.alloc (.cells #[] 3)).ownsRow wr.heap.size 3 1 (.slice (some ⟨wr.heap.size, 0, none⟩) 0 0) 0 (intVals []) :=
          World.ownsRow_made (base := wr.heap.size) (e := 3) (size := 1) wr #[] 0 (Nat.le_refl _) (by unfold maxLen; omega) rfl
        have HOW := hide hown0
        clear hown0
        have HO : Hid (∀ (W : World) (B : Nat) (v' : Value), W.ownsRow B 3 1 v' k (intVals vl) → ∃ g bc, v' = .slice (some ⟨g, 0, none⟩) k bc ∧ k ≤ bc ∧ bc ≤ maxLen ∧ Row B W (some ⟨g, 0, none⟩) k (upd (nth vl) who (nth vl who))) := fun W B v' ho => by
          obtain ⟨va, bc, e1, e2, e3, hR⟩ := Row.of_owns ho
          have hR2 : Row B W va k (upd (nth vl) who (nth vl who)) := hR.same (fun j _ => by rw [upd_self]; rfl)
          rcases hR2 with h0 | ⟨g, k1, k2⟩
          · omega
          · subst k1
            exact ⟨g, bc, e1, e2, e3, .inr ⟨g, rfl, k2⟩⟩
        go_wp2_with (at_builtin; refine wpList_append_ints _ rfl _ _ rfl wr.heap.size _ 0 [] rfl (unhide HOW) _ k lc vl rfl (unhide hI1) (by omega) (by simp) ?_; intro v2 w2 ho2 hg2; have ho3 : w2.ownsRow wr.heap.size 3 1 v2 k (intVals vl) := (by simpa using ho2); obtain ⟨g, bc, hv2, hbc, hbm, hR2⟩ := unhide HO w2 wr.heap.size v2 ho3; subst hv2; obtain ⟨hc, hf, hsz, hge⟩ := hR2.at hwho; have HR2 := hide hR2; have HBM := hide hbm; have HG2 := hide hg2; clear hR2 ho2 ho3 hg2; unfold maxLen at hbm; generalize upd (nth vl) who (nth vl who) who = y0 at *)
        have hbA : Below wr.heap.size wr w2 := hb0.trans ((Below.refl wr.heap.size _).grown (unhide HG2) (by simp) (fun k hk => ((unhide HOW).lt k hk).1))
        have hbB : Below wr.heap.size wr (w2.setCell ⟨g, who, none⟩ (.int .i64 (lie : Int))) := hbA.setCell (p := ⟨g, who, none⟩) hge _
        have hR3 : Row wr.heap.size (w2.setCell ⟨g, who, none⟩ (.int .i64 (lie : Int))) (some ⟨g, 0, none⟩) k (upd (nth vl) who (lie : Int)) := (unhide HR2).set hwho (fun j _ hj => by rw [upd_ne hj, upd_ne hj]) (upd_at _ _ _).symm
        have HMI : Hid (Ints (w2.setCell ⟨g, who, none⟩ (.int .i64 (lie : Int))) (some ⟨g, 0, none⟩) k bc (lF k (upd (nth vl) who (lie : Int)))) := hR3.ints (lF_len _ _).symm hbc (unhide HBM) (fun j hj => (lF_at hj).symm)
        have HLI3 := hide ((unhide HLI).later hbB)
        have hbW := hbr.trans (hbB.mono hbr.size)
        have hUe := unhide HU (lie : Int)
        have HUe := hide hUe
        have HB2 : Hid (Bl k (upd (nth vl) who (lie : Int))) := upd_bl (unhide HBl) (by omega) (by omega)
        clear hR3 hbA hbB hc hf hsz hge HR2 HG2 HOW HO hI1 hb0 HLI HBM HU hUe
        generalize w2.setCell ⟨g, who, none⟩ (.int .i64 (lie : Int)) = W3 at *
        refine (second_any la k lc vl W3 (unhide HLI3)).mono ?_
        rintro e w4 ⟨hb4, ⟨hne, -⟩ | ⟨-, a, p, hWa, hSa, rfl⟩⟩
        · exact absurd (bE_is hN1 hN4 (unhide HBl)) hne
        have HWS := hide (And.intro hWa hSa)
        have hpb := hSa.le (unhide HBl)
        have hak := hWa.1
        clear hWa hSa
        unfold three
        go_wp2_with fail
        refine (second_any _ k bc _ w4 ((unhide HMI).later hb4)).mono ?_
        rw [unhide HUe]
        rintro e w5 ⟨hb5, ⟨hne, -⟩ | ⟨-, b, q, hWb, hSb, rfl⟩⟩
        · exact absurd (bE_is hN1 hN4 (unhide HB2)) hne
        have HWT := hide (And.intro hWb hSb)
        have hqb := hSb.le (unhide HB2)
        clear hWb hSb
        have hb45 := hb4.trans (hb5.mono hb4.size)
        unfold three
        go_wp2_with fail
        refine (clock_any la k lc vl w5 ((unhide HLI3).later hb45)).mono ?_
        rintro e w6 ⟨hb6, ⟨hne, -⟩ | ⟨-, a', p', hWa, hSa, rfl⟩⟩
        · exact absurd (bE_is hN1 hN4 (unhide HBl)) hne
        obtain rfl : a' = a := hWa.uniq (unhide HWS).1
        obtain rfl : p' = p := hSa.uniq (unhide HWS).2
        clear hWa hSa
        have hb46 := hb45.trans (hb6.mono hb45.size)
        unfold three
        have hVK := vickrey (unhide HBl) hwho (unhide HWS).1 (unhide HWS).2 (unhide HWT).1 (unhide HWT).2
        have hx := unhide HBl who hwho
        obtain ⟨lb, lo, hla, hlb, hlcell⟩ := ((unhide HLI3).later hb46).nth (by omega)
        subst hla
        have hcw := hlcell who hwho
        have HLC := hide (show ∀ W, Below w6.heap.size w6 W → W.cell? ⟨lb, lo + who, none⟩ = some (.int .i64 (nth vl who)) from fun W hW => by rw [hW.cell (p := ⟨lb, lo + who, none⟩) hlb, hcw])
        have hb36 := hbW.trans (hb46.mono hbW.size)
        have PA := hide (fun W => profit_any (nth vl who) (decide (a' = who)) p' W hx hpb)
        have PB := hide (fun W => profit_any (nth vl who) (decide (b = who)) q W hx hqb)
        have HMY := hide (fun m S p q => myerson (m := m) (S := S) (x := (lie : Int)) (v := nth vl) (p := p) (q := q) hwho)
        have HPX : Hid (∀ m S p, PayP (nth vl) k S m who p → 0 ≤ p ∧ p ≤ 1000) := fun m S p h => h.le (unhide HBl) hwho
        have HPY : Hid (∀ m S p, PayP (upd (nth vl) who (lie : Int)) k S m who p → 0 ≤ p ∧ p ≤ 1000) := fun m S p h => h.le (unhide HB2) hwho
        have PF := hide (fun b p W (hp : 0 ≤ p ∧ p ≤ 1000) => profit_any (nth vl who) b p W hx hp)
        have hA : ((a' : Int) == (who : Int)) = decide (a' = who) := by
          by_cases e : a' = who
          · subst e; simp
          · rw [decide_eq_false e]; simp; omega
        have hBq : ((b : Int) == (who : Int)) = decide (b = who) := by
          by_cases e : b = who
          · subst e; simp
          · rw [decide_eq_false e]; simp; omega
        clear hlcell HWS HWT
        generalize decide (a' = who) = A at *
        generalize decide (b = who) = B at *
        generalize nth vl who = x at *
        generalize pf x A p' = f1 at *
        generalize pf x B q = f2 at *
        have hd1 : decide (f1 < f2) = false := decide_eq_false (by omega)
        have hd2 : decide (f1 < 0) = false := decide_eq_false (by omega)
        go_wp2_with fail
        go_quiet (first | (go_at_call 17; with_reducible exact Calls.quiet_of_same (unhide PA _)) | (go_at_call 17; with_reducible exact Calls.quiet_of_same (unhide PB _)))
        go_wp2_with fail
        have hb7 : Below w6.heap.size w6 (w6.drewN nq) := below_drewN _ _ _
        generalize w6.drewN nq = W7 at *
        have hb37 := hb36.trans (hb7.mono hb36.size)
        have hb47 := hb46.trans (hb7.mono hb46.size)
        have CL := hide (fun W => pick_len sn 9 (by omega) (by omega) (by omega) W)
        have h9 : sn % 9 < 9 := Nat.mod_lt _ (by omega)
        generalize sn % 9 = r9 at *
        obtain ⟨M9, hM9⟩ : ∃ M9, M9 = 1 + r9 := ⟨_, rfl⟩
        have z9 : (1 : Int) + (r9 : Int) = (M9 : Int) := by omega
        have hM1 : 1 ≤ M9 := by omega
        have hM2 : M9 ≤ 9 := by omega
        clear hM9 h9
        obtain ⟨P, hP⟩ : ∃ P : Nat, P = 2 ^ k := ⟨_, rfl⟩
        have hP2 : (2 : Int) ^ k = (P : Int) := by rw [hP]; simp
        have hP1 : P ≤ 16 := by rw [hP]; exact pow_le hN4
        have hP0 : 0 < P := by rw [hP]; exact Nat.two_pow_pos k
        have hwP : IntKind.i64.wrap ((2 : Int) ^ k) = (P : Int) := by rw [hP2]; exact wrap_in _ (by omega) (by omega)
        have HP2 := hide hP2
        clear hP hP2
        have mx : Try.prog.follows .mixedOrders = true := by kernel_rfl
        go_loopw [24, 23] (fun i v wr => Below W7.heap.size W7 wr ∧ ∃ (j : Nat) (tl : List Int), j ≤ M9 ∧ i = .int .i64 j ∧ wr.ownsRow W7.heap.size 3 1 v j (intVals tl) ∧ (∀ x ∈ tl, 0 ≤ x ∧ x < P)) (fun i _ _ => M9 - (intOf i).toNat)
        case atStart => exact ⟨Below.refl _ _, 0, [], Nat.zero_le _, rfl, World.ownsRow_nil _ _ _ _, fun x hx => (by cases hx)⟩
        case round =>
          obtain ⟨hbs, j, tl, hj, rfl, hown, htl⟩ := hrel
          have hb38 := hb37.trans (hbs.mono hb37.size)
          by_cases hlj : j < M9
          · have CA := hide (fun W hW => at_val sa sn sc sl j W ((unhide HS).later hW) (by omega) (by omega))
            have hin := atV_in (unhide HSi) j
            generalize atV sl j = y at *
            have CB := hide (fun W => pick_val y P hin (by omega) (by omega) W)
            have hpk := pkN_lt y hP0
            generalize pkN y P = z at *
            have HO := hide hown
            have HTL := hide htl
            clear hown htl hin
            have hbdr : Below wr.heap.size wr wr.drew := (Below.refl _ _).drew
            have hbal : Below wr.heap.size wr (wr.alloc (.cells #[.int .i64 (z : Int)] 3)).drew := (show Below wr.heap.size wr (wr.alloc (.cells #[.int .i64 (z : Int)] 3)) by go_grown).drew
            have CA2 := hide (unhide CA wr.drew (hb38.trans (hbdr.mono hb38.size)))
            have CB2 := hide (unhide CB wr.drew)
            have HO2 := hide (owns_later (unhide HO) hbal)
            have hszd : W7.heap.size ≤ (wr.alloc (.cells #[.int .i64 (z : Int)] 3)).drew.heap.size := Nat.le_trans hbs.size hbal.size
            go_wp2_with fail
            refine (unhide CL _).mono ?_
            rintro e w9 ⟨rfl, hw9⟩
            subst w9
            go_wp2_with fail
            go_region_law (first
              | (refine step_at _ rfl (.tmp 143) (.tmp 144) rfl (.slice sa sn sc) (.int .i64 (j : Int)) (.int .i64 y) (by simp [Act.eval, Act.put]) (by simp [Act.eval, Act.put]) (unhide CA2) ?_)
              | (refine step_pick _ rfl (.tmp 145) (.tmp 147) rfl (.int .i64 y) (.int .i64 (P : Int)) (.int .i64 (z : Int)) (by simp [Act.eval]) (by simp [Act.eval]) (unhide CB2) ?_)
              | (refine step_append_int1 _ rfl (.tmp 142) (.tmp 149) rfl W7.heap.size u23 j tl (by simp [Act.eval]) (unhide HO2) wr.heap.size 1 (z : Int) (by simp [Act.eval]) (by simp) (by omega) hszd ?_; intro v2 w2 ho2 hg2 _))
            all_goals
              go_wp2_with fail
              go_roundw
              case rel =>
                have hb5 := ((Below.refl W7.heap.size _).grown hg2 hszd (fun q hq => ((unhide HO2).lt q hq).1))
                refine ⟨(hbs.trans (hbal.mono hbs.size)).trans hb5, j+1, tl ++ [(z : Int)], by omega, by go_num, ho2, fun x hx => ?_⟩
                rcases List.mem_append.1 hx with h | h
                · exact unhide HTL x h
                · rw [List.mem_singleton] at h; subst h; omega
              case measure => simp [intOf]; omega
          · obtain rfl : j = M9 := by omega
            have hlen : j = tl.length := by have := hown.1; rw [intVals_len] at this; omega
            obtain ⟨ta, tc, hv, hTI, _⟩ := Ints.of_owns hown (by omega)
            subst hv
            have hSL : SL (2 ^ k) j (nth tl) := fun i hi => by
              rw [unhide HP2]
              exact htl _ (by unfold nth; rw [List.getElem?_eq_getElem (by omega)]; exact List.getElem_mem _)
            have HE1 : Hid (smE k (nth vl) j (nth tl) = 0) := smE_ok (bE_is hN1 hN4 (unhide HBl)) (by omega) hSL
            have HE2 : Hid (smE k (upd (nth vl) who (lie : Int)) j (nth tl) = 0) := smE_ok (bE_is hN1 hN4 (unhide HB2)) (by omega) hSL
            have hT := (smE_zero (unhide HE1)).2
            have hq16 : ∀ v, (wS v k (sN tl) j).2 < 16 := fun v => Nat.lt_of_lt_of_le (wS_lt (m := j) (fun i hi => (hT.nat hi).2) j (Nat.le_refl _)) (pow_le hN4)
            have HTI := hide hTI
            clear hown htl hTI hSL hT hlen
            have hb48 := hb47.trans (hbs.mono hb47.size)
            have C1 := hide (slots_any _ k lc vl ta j tc tl wr ((unhide HLI3).later hb48) (unhide HTI))
            go_wp2_with fail
            refine (unhide CL _).mono ?_
            rintro e w9 ⟨rfl, hw9⟩
            subst w9
            go_wp2_with fail
            refine (unhide C1).mono ?_
            rintro e w10 ⟨hb10, ⟨hne, -⟩ | ⟨-, pa, pc, PL, rfl, hPI, hPP⟩⟩
            · exact absurd (unhide HE1) hne
            unfold slo
            have hb410 := hb48.trans (hb10.mono hb48.size)
            have C2 := slots_any _ k bc _ ta j tc tl w10 ((unhide HMI).later hb410) ((unhide HTI).later hb10)
            rw [unhide HUe] at C2
            have C2 := hide C2
            have HPI := hide hPI
            have hp3 := hPP who hwho
            clear hPI hPP C1
            go_wp2_with fail
            refine (unhide C2).mono ?_
            rintro e w11 ⟨hb11, ⟨hne, -⟩ | ⟨-, qa, qc, QL, rfl, hQI, hQP⟩⟩
            · exact absurd (unhide HE2) hne
            unfold slo
            have hp4 := hQP who hwho
            have hmy := unhide HMY j (sN tl) _ _ hp3 hp4
            have hpp3 := unhide HPX j _ _ hp3
            have hpp4 := unhide HPY j _ _ hp4
            have hb311 := (hb38.trans (hb10.mono hb38.size)).trans (hb11.mono (hb38.trans (hb10.mono hb38.size)).size)
            have hb611 := (hb7.trans (hbs.mono hb7.size))
            have hb612 := hb611.trans (hb10.mono hb611.size)
            have hb613 := hb612.trans (hb11.mono hb612.size)
            have hcl := unhide HLC w11 hb613
            obtain ⟨b1, o1, e1, hb1', hc1⟩ := ((unhide HPI).later hb11).nth (by omega)
            subst e1
            obtain ⟨b2, o2, e2, hb2', hc2⟩ := hQI.nth (by omega)
            subst e2
            have hcp := hc1 who hwho
            have hcq := hc2 who hwho
            have hq1 := hq16 (nth vl)
            have hq2 := hq16 (upd (nth vl) who (lie : Int))
            have hpc1 := (unhide HPI).2.1
            have hpc2 := (unhide HPI).2.2.1
            have hqc1 := hQI.2.1
            have hqc2 := hQI.2.2.1
            unfold maxLen at hpc2 hqc2
            clear hc1 hc2 hp3 hp4 hQI hQP C2 hq16 HPI
            generalize nth PL who = p3 at *
            generalize nth QL who = p4 at *
            generalize (wS (nth vl) k (sN tl) j).2 = q1 at *
            generalize (wS (upd (nth vl) who (lie : Int)) k (sN tl) j).2 = q2 at *
            obtain ⟨P2, hP2⟩ : ∃ P2 : Nat, P2 = 2 ^ who := ⟨_, rfl⟩
            have hP22 : (2 : Int) ^ who = (P2 : Int) := by rw [hP2]; simp
            have hP21 : P2 ≤ 16 := by rw [hP2]; exact pow_le (by omega)
            have hP20 : 0 < P2 := by rw [hP2]; exact Nat.two_pow_pos who
            have hwP2 : IntKind.i64.wrap ((2 : Int) ^ who) = (P2 : Int) := by rw [hP22]; exact wrap_in _ (by omega) (by omega)
            have hPz : ((P2 : Int) == 0) = false := by simp; omega
            have hr1 : ((wrap64 ((q1 : Int) / (P2 : Int))).tmod 2 == 1) = hs q1 who := by
              cases e : hs q1 who
              · rw [rem_no hP2 hq1 e]; rfl
              · rw [rem_yes hP2 hq1 e]; rfl
            have hr2 : ((wrap64 ((q2 : Int) / (P2 : Int))).tmod 2 == 1) = hs q2 who := by
              cases e : hs q2 who
              · rw [rem_no hP2 hq2 e]; rfl
              · rw [rem_yes hP2 hq2 e]; rfl
            have PX := hide (fun W => unhide PF (hs q1 who) p3 W hpp3)
            have PY := hide (fun W => unhide PF (hs q2 who) p4 W hpp4)
            clear hP2 hP22
            generalize hs q1 who = B1 at *
            generalize hs q2 who = B2 at *
            generalize pf x B1 p3 = f3 at *
            generalize pf x B2 p4 = f4 at *
            have hd3 : decide (f4 ≤ f3) = true := decide_eq_true hmy.1
            have hd4 : decide (0 ≤ f3) = true := decide_eq_true hmy.2
            go_wp2_with fail
            go_quiet (first | (go_at_call 17; with_reducible exact Calls.quiet_of_same (unhide PX _)))
            have hbZ : Below w11.heap.size w11 (w11.drewN nq) := below_drewN _ _ _
            have hcl2 : (w11.drewN nq).cell? ⟨lb, lo + who, none⟩ = some (.int .i64 x) := hcl
            have hcq2 : (w11.drewN nq).cell? ⟨b2, o2 + who, none⟩ = some (.int .i64 p4) := hcq
            have hb314 := hb311.trans (hbZ.mono hb311.size)
            clear hcl hcq hcp
            generalize w11.drewN nq = W12 at *
            go_wp2_with fail
            go_quiet (first | (go_at_call 17; with_reducible exact Calls.quiet_of_same (unhide PY _)))
            go_wp2
            go_ret
            exact ⟨rfl, hb314.trans ((below_drewN _ _ _).mono hb314.size)⟩
end Go.Proofs.Ytfknnededkdodaa
