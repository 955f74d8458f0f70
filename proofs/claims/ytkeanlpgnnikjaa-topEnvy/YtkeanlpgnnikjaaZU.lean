import Derived.Test.YtkeanlpgnnikjaaZT
import Derived.Test.YtkeanlpgnnikjaaZP
import Derived.Test.YtkeanlpgnnikjaaZM
namespace Go.Proofs.Ytkeanlpgnnikjaa
open Go.RowKit
set_option maxRecDepth 100000 in
set_option maxHeartbeats 8000000 in
theorem topEnvy_any (a0 : Option Addr) (n0 c0 : Nat) (l0 : List Int) (x1 x2 : Int) (a3 : Option Addr) (n3 c3 : Nat) (l3 : List Int) (w : World) (h0 : Ints w a0 n0 c0 l0) (hR0 : ∀ x ∈ l0, InR x) (hx1 : InR x1) (hx2 : InR x2) (h3 : Ints w a3 n3 c3 l3) (hR3 : ∀ x ∈ l3, InR x) (hm0 : n0 ≤ 140737488351232) (hm3 : n3 ≤ 140737488351232) :
    Calls Try.prog 5 #[.slice a0 n0 c0, .int .i64 x1, .int .i64 x2, .slice a3 n3 c3] w fun e w' => e = .returned (.bool true) ∧ Below w.heap.size w w' := by
  have e1 := h0.2.1
  have e2 := h0.2.2.1
  have e3 := h3.2.1
  have e4 := h3.2.2.1
  unfold maxLen at e2 e4
  have hw0 : wrap64 ((n0 : Int) + (n3 : Int)) = (n0 : Int) + (n3 : Int) := wrap64_in _ (by omega) (by omega)
  by_cases hbig : (256 : Int) < (n0 : Int) + (n3 : Int)
  · clear h0 hR0 hx1 hx2 h3 hR3
    go_enter Try.func5, Try.ntmps5
    go_wp2
    go_ret
    exact ⟨rfl, Below.refl _ _⟩
  · have C1 := pick_val x1 3 hx1 (by omega) (by omega) w
    have C2 := pick_val x2 7 hx2 (by omega) (by omega) w
    have p1 := pkN_lt x1 (n := 3) (by omega)
    have p2 := pkN_lt x2 (n := 7) (by omega)
    generalize pkN x1 3 = p at *
    generalize pkN x2 7 = G at *
    obtain ⟨n, hn⟩ : ∃ n : Nat, n = 1 + p := ⟨_, rfl⟩
    have hadd : (1 : Int) + (p : Int) = (n : Int) := by omega
    have hn1 : 1 ≤ n := by omega
    have hn4 : n ≤ 4 := by omega
    have C1 := hide C1
    have C2 := hide C2
    have CV := hide (valuesOf_any a0 n0 c0 l0 n G w h0 hR0 (by omega) hn1 hn4 (by omega))
    have CA : Hid (∀ W, Below w.heap.size w W → ∀ k, k ≤ 1000 → Calls Try.prog 22 #[.slice a3 n3 c3, .int .i64 (k : Nat)] W fun e w' => e = .returned (.int .i64 (atV l3 k)) ∧ w' = W) := fun W hW k hk => at_val a3 n3 c3 l3 k W (h3.later hW) hk (by omega)
    have CP : Hid (∀ W k, Calls Try.prog 19 #[.int .i64 (atV l3 k), .int .i64 (n : Nat)] W fun e w' => e = .returned (.int .i64 (pkN (atV l3 k) n)) ∧ w' = W) := fun W k => pick_val (atV l3 k) n (atV_in hR3 k) (by omega) (by omega) W
    clear h0 hR0 hx1 hx2 h3 hR3 hn
    go_enter Try.func5, Try.ntmps5
    go_wp2_with fail
    refine (unhide C1).mono ?_
    rintro e w1 ⟨rfl, hw1⟩
    subst w1
    go_wp2_with fail
    refine (unhide C2).mono ?_
    rintro e w1 ⟨rfl, hw1⟩
    subst w1
    go_wp2_with fail
    refine (unhide CV).mono ?_
    rintro e w1 ⟨aa, cc, LL, rfl, hL, hV, hb1⟩
    have hg8 := hV.g8
    have hv0 : ∀ i, i < n → OkF (vl LL i) G := fun i hi => hV.okF hi
    have n1' := hL.2.1
    have n2' := hL.2.2.1
    unfold maxLen at n2'
    have HLL := hide (fun W (hW : Below w1.heap.size w1 W) => hL.later hW)
    have HV := hide hV
    have HV0 := hide hv0
    obtain ⟨b, off, haa, hb, hcell⟩ := hL.cellAt hn1
    have HC0 : Hid (∀ W, Below w1.heap.size w1 W → W.cell? ⟨b, off, none⟩ = some (.slice (slAt LL 0).la G (slAt LL 0).lc)) := fun W hW => by have := (hW.cell (p := ⟨b, off + 0, none⟩) hb).trans (hcell 0 hn1); rw [Nat.add_zero, hV.row 0 hn1] at this; exact this
    have i1 := (hL.mem hn1).2.1
    have i2 := (hL.mem hn1).2.2.1
    rw [hV.row 0 hn1] at i1
    unfold maxLen at i2
    subst haa
    have CT := hide (turns_ok _ n cc G LL w1 hL hV)
    clear hL hV hv0 hcell C1 C2 CV
    generalize (slAt LL 0).la = la0 at *
    generalize (slAt LL 0).lc = lc0 at *
    go_wp2_with fail
    refine (unhide CT).mono ?_
    rintro e w2 ⟨g2, rfl, hrow2, hb2⟩
    unfold two
    have CC := hide (circles_ok _ n cc G LL w2 (unhide HLL w2 hb2) (unhide HV))
    have HR2 := hide hrow2
    clear hrow2 CT
    go_wp2_with fail
    refine (unhide CC).mono ?_
    rintro e w3 ⟨g3, gl3, rfl, hrow3, hcs3, hb3⟩
    unfold two
    have hb13 := hb2.trans (hb3.mono hb2.size)
    have CEv := hide (even_ok _ n cc G LL w3 (unhide HLL w3 hb13) (unhide HV))
    have HR3 := hide hrow3
    have HCS := hide hcs3
    clear hrow3 hcs3 CC
    go_wp2_with fail
    refine (unhide CEv).mono ?_
    rintro e w4 ⟨q, ae, ce, hbq, hwq, rfl, hIq, hb4⟩
    unfold two
    have hb14 := hb13.trans (hb4.mono hb13.size)
    have HBEST := hide (best_of hbq hwq)
    have HIQ := hide hIq
    have d5 := hIq.2.1
    have d6 := hIq.2.2.1
    unfold maxLen at d6
    have hR2' := ((unhide HR2).later hb3).later hb4
    have hR3' := (unhide HR3).later hb4
    have CK1 := hide (fun W (hW : Below w4.heap.size w4 W) => calm_any _ n cc G LL (some ⟨g2, 0, none⟩) G (lF G (trF (vl LL) n G G)) W (unhide HLL W (hb14.trans (hW.mono hb14.size))) (unhide HV) (((hR2').later hW).ints (lF_len _ _).symm (Nat.le_refl _) (by unfold maxLen; omega) (fun j hj => (lF_at hj).symm)) (fun g hg => by rw [lF_at hg]; exact turns_full hn1 (unhide HV0) g hg) ((turns_ef hn1 (unhide HV0)).congr (fun j hj => (lF_at hj).symm)))
    have CK2 := hide (fun W (hW : Below w4.heap.size w4 W) => calm_any _ n cc G LL (some ⟨g3, 0, none⟩) G gl3 W (unhide HLL W (hb14.trans (hW.mono hb14.size))) (unhide HV) (((hR3').later hW).ints (unhide HCS).len.symm (Nat.le_refl _) (by unfold maxLen; omega) (fun _ _ => rfl)) (fun g hg => ((unhide HCS).inN g hg).resolve_left ((unhide HCS).done g hg hg)) (unhide HCS).ef)
    have CK3 := hide (fun W (hW : Below w4.heap.size w4 W) => calm_any _ n cc G LL ae ce q W (unhide HLL W (hb14.trans (hW.mono hb14.size))) (unhide HV) ((unhide HIQ).later hW) (fun g hg => (unhide HBEST).wy.nth hg) ((unhide HBEST).ef (unhide HV0)))
    clear hbq hwq hIq hR2' hR3' CEv HR2 HR3 HCS
    have CK1a := hide (unhide CK1 w4 (Below.refl _ _))
    go_wp2_with fail
    refine (unhide CK1a).mono ?_
    rintro e w5 ⟨rfl, hb5⟩
    have CK2a := hide (unhide CK2 w5 hb5)
    go_wp2_with fail
    refine (unhide CK2a).mono ?_
    rintro e w6 ⟨rfl, hb6⟩
    have hb46 := hb5.trans (hb6.mono hb5.size)
    have CK3a := hide (unhide CK3 w6 hb46)
    go_wp2_with fail
    refine (unhide CK3a).mono ?_
    rintro e w7 ⟨rfl, hb7⟩
    have hb47 := hb46.trans (hb7.mono hb46.size)
    have hb17 := hb14.trans (hb47.mono hb14.size)
    have HI7 := hide ((unhide HIQ).later hb47)
    have HB17 := hide hb17
    have HBW : Hid (Below w.heap.size w w7) := hb1.trans (hb17.mono hb1.size)
    clear CK1 CK2 CK3 CK1a CK2a CK3a hb5 hb6 hb7 hb46 hb47 hb17 hb14 hb13 hb2 hb3 hb4 HIQ
    obtain ⟨dd, hdd⟩ : ∃ dd : Nat → Int, dd = fun k => ((pkN (atV l3 k) n : Nat) : Int) := ⟨_, rfl⟩
    have HD : Hid (∀ k, ((pkN (atV l3 k) n : Nat) : Int) = dd k) := fun k => by rw [hdd]
    have HDR : Hid (∀ k, ∃ x : Nat, x < n ∧ dd k = (x : Int)) := fun k => ⟨pkN (atV l3 k) n, pkN_lt _ (by omega), by rw [hdd]⟩
    clear hdd
    go_wp2
    go_loopw [17, 16] (fun i r wr => Hid (Below w7.heap.size w7 wr) ∧ ∃ t : Nat, t ≤ G ∧ i = .int .i64 t ∧ Hid (wr.ownsRow w7.heap.size 3 1 r t (intVals ((List.range t).map dd)))) (fun i _ _ => G - (intOf i).toNat)
    case atStart => exact ⟨Below.refl _ _, 0, Nat.zero_le _, rfl, World.ownsRow_nil _ _ _ _⟩
    case round =>
      obtain ⟨HB2, k, hk2, rfl, HR⟩ := hrel
      have HB1r : Hid (Below w1.heap.size w1 wr) := (unhide HB17).trans ((unhide HB2).mono (unhide HB17).size)
      have HBr : Hid (Below w.heap.size w wr) := (unhide HBW).trans ((unhide HB2).mono (unhide HBW).size)
      have hc0 := unhide HC0 _ (unhide HB1r)
      by_cases hlt : k < G
      · have CA1 := hide (unhide CA wr (unhide HBr) k (by omega))
        have CP1 := unhide CP wr k
        rw [unhide HD] at CP1
        obtain ⟨pv, hpv⟩ : ∃ pv, pv = dd k := ⟨_, rfl⟩
        rw [← hpv] at CP1
        have CP1 := hide CP1
        have HPV := hide hpv
        generalize atV l3 k = av at *
        clear hpv
        go_wp2_with fail
        refine (unhide CA1).mono ?_
        rintro e w8 ⟨rfl, hw8⟩
        subst w8
        go_wp2_with fail
        refine (unhide CP1).mono ?_
        rintro e w8 ⟨rfl, hw8⟩
        subst w8
        go_wp2_with (at_builtin; refine wpList_append_int _ rfl _ _ rfl w7.heap.size _ _ _ rfl ((unhide HR).alloc _) wr.heap.size pv rfl (by simp) (by omega) (by have := (unhide HB2).size; simp; omega) ?_; intro v2 w9 ho2 hg2)
        go_roundw
        case rel =>
          have hb5 := (((Below.refl w7.heap.size wr).alloc (unhide HB2).size (.cells #[.int .i64 pv] 3)).grown hg2 (by have := (unhide HB2).size; simp; omega) (fun q hq => ((unhide HR).lt q hq).1))
          refine ⟨(unhide HB2).trans hb5, k + 1, by omega, by go_num, ?_⟩
          show _root_.Go.World.ownsRow _ _ _ _ _ _ _
          rw [List.range_succ, List.map_append, intVals_append]
          show _root_.Go.World.ownsRow _ _ _ _ _ _ (_ ++ intVals [dd k])
          rw [← unhide HPV]
          exact ho2
        case measure => simp [intOf]; omega
      · obtain rfl : G = k := by omega
        obtain ⟨ad, cd, hvd, hId, -⟩ := Ints.of_owns (unhide HR) (by omega)
        subst hvd
        have d7 := hId.2.1
        have d8 := hId.2.2.1
        unfold maxLen at d8
        have hdl : (List.range G).map dd = lF G dd := rfl
        rw [hdl] at hId
        have HWD : Hid (Wy n G (lF G dd)) := wy_lF (fun g _ => unhide HDR g)
        have HX : Hid (∀ i, i < n → Calls Try.prog 23 #[.slice (some ⟨b, off, none⟩) n cc, .slice ae G ce, .int .i64 (i : Int), .int .i64 (i : Int)] wr fun e w' => e = .returned (.int .i64 (hv (vl LL i) (nth q) (i : Nat) G)) ∧ w' = wr) := fun i hi => has_any _ n cc G LL ae ce q i _ wr (unhide HLL wr (unhide HB1r)) (unhide HV) ((unhide HI7).later (unhide HB2)) hi
        have HY : Hid (∀ i, i < n → Calls Try.prog 23 #[.slice (some ⟨b, off, none⟩) n cc, .slice ad G cd, .int .i64 (i : Int), .int .i64 (i : Int)] wr fun e w' => e = .returned (.int .i64 (hv (vl LL i) (nth (lF G dd)) (i : Nat) G)) ∧ w' = wr) := fun i hi => has_any _ n cc G LL ad cd (lF G dd) i _ wr (unhide HLL wr (unhide HB1r)) (unhide HV) hId hi
        have HPA := hide (fun hle => (unhide HBEST).pareto (unhide HV0) (unhide HWD) hle)
        clear hId hdl HR
        go_wp2
        go_loop [19, 18, 20, 21] (fun i mo _ _ => ∃ (k : Nat) (mm : Bool), k ≤ n ∧ i = .int .i64 k ∧ mo = .bool mm ∧ Hid ((∀ i, i < k → hv (vl LL i) (nth q) (i : Nat) G ≤ hv (vl LL i) (nth (lF G dd)) (i : Nat) G) ∧ (mm = true → ∃ i, i < k ∧ hv (vl LL i) (nth q) (i : Nat) G < hv (vl LL i) (nth (lF G dd)) (i : Nat) G))) (fun i _ _ _ => n - (intOf i).toNat)
        case atStart => exact ⟨0, false, Nat.zero_le _, rfl, rfl, fun i hi => by omega, fun q => by cases q⟩
        case round =>
          obtain ⟨k, mm, hk, rfl, rfl, HM⟩ := hrel
          by_cases hlt : k < n
          · have CX := hide (unhide HX k hlt)
            have CY := hide (unhide HY k hlt)
            have HN : Hid (¬ hv (vl LL k) (nth (lF G dd)) (k : Nat) G < hv (vl LL k) (nth q) (k : Nat) G → ∀ i, i < k + 1 → hv (vl LL i) (nth q) (i : Nat) G ≤ hv (vl LL i) (nth (lF G dd)) (i : Nat) G) := fun hc i hi => by
              by_cases e : i = k
              · subst e; omega
              · exact (unhide HM).1 i (by omega)
            have HM1 : Hid (mm = true → ∃ i, i < k + 1 ∧ hv (vl LL i) (nth q) (i : Nat) G < hv (vl LL i) (nth (lF G dd)) (i : Nat) G) := fun q => by
              obtain ⟨i, i1, i2⟩ := (unhide HM).2 q
              exact ⟨i, by omega, i2⟩
            have HM2 : Hid (hv (vl LL k) (nth q) (k : Nat) G < hv (vl LL k) (nth (lF G dd)) (k : Nat) G → ∃ i, i < k + 1 ∧ hv (vl LL i) (nth q) (i : Nat) G < hv (vl LL i) (nth (lF G dd)) (i : Nat) G) := fun q => ⟨k, by omega, q⟩
            generalize hgx : hv (vl LL k) (nth q) (k : Nat) G = x at CX HN HM2
            generalize hgy : hv (vl LL k) (nth (lF G dd)) (k : Nat) G = y at CY HN HM2
            clear hgx hgy
            go_wp2_with fail
            refine (unhide CX).mono ?_
            rintro e w8 ⟨rfl, hw8⟩
            subst w8
            go_wp2_with fail
            refine (unhide CY).mono ?_
            rintro e w8 ⟨rfl, hw8⟩
            subst w8
            by_cases hc : y < x
            · go_wp2
              go_ret
              exact ⟨rfl, HBr⟩
            · have HN2 := hide (unhide HN (by omega))
              cases mm with
              | true =>
                have HM3 := hide (unhide HM1 rfl)
                go_wp2
                exact ⟨⟨k + 1, true, by omega, by go_num, rfl, unhide HN2, fun _ => unhide HM3⟩, by simp [intOf]; omega⟩
              | false =>
                by_cases hd : x < y
                · have HM3 := hide (unhide HM2 hd)
                  go_wp2
                  exact ⟨⟨k + 1, true, by omega, by go_num, by simp, unhide HN2, fun _ => unhide HM3⟩, by simp [intOf]; omega⟩
                · go_wp2
                  exact ⟨⟨k + 1, false, by omega, by go_num, by simp; omega, unhide HN2, fun q => by cases q⟩, by simp [intOf]; omega⟩
          · obtain rfl : n = k := by omega
            cases mm with
            | true => exact absurd ((unhide HM).2 rfl) (unhide HPA (unhide HM).1)
            | false =>
              go_wp2
              go_ret
              exact ⟨rfl, HBr⟩
end Go.Proofs.Ytkeanlpgnnikjaa
