import Derived.Test.YtbcchbhchfdbiaaWCE
import Derived.Test.YtbcchbhchfdbiaaWGA
namespace Go.Proofs.Ytbcchbhchfdbiaa
open Go.RowKit Go.Shelf
attribute [local go_sem] Oper.semAt_some
theorem back_shape {w w' : World} {P : Int} {n : Nat} {L : List Nd} {e : Ending} (h : BackP w P n L e w') : Below w.heap.size w w' ∧ ∃ (ba : Option Addr) (bn bc : Nat), e = .returned (.tuple #[.slice ba bn bc, .int .i64 (tmE P n L)]) ∧ bn ≤ bc ∧ bc ≤ 9223372036854775807 ∧
    ((tmE P n L ≠ 0 ∧ bn = 0) ∨ (tmE P n L = 0 ∧ bn = n ∧ ∃ ch ge, Ints w' ba n bc (lF n ch) ∧ Done L n 0 (CHB L) (kd L) ch ge)) := by
  obtain ⟨hb, h1, h2⟩ := h
  refine ⟨hb, ?_⟩
  by_cases hm : tmE P n L = 0
  · obtain ⟨gc, ch, ge, he, -, hr, hd⟩ := h2 hm
    have hn := (tmE_zero hm).2.1
    have hI := hr.ints (by omega)
    rw [hm]
    exact ⟨_, _, _, he, Nat.le_refl _, by omega, .inr ⟨rfl, rfl, ch, ge, hI, hd⟩⟩
  · exact ⟨_, _, _, h1 hm, Nat.le_refl _, by omega, .inl ⟨hm, rfl⟩⟩
theorem play_shape {w w' : World} {P : Int} {n : Nat} {L : List Nd} {q : List Int} {at' : Int} {e : Ending} (h : PlayP w P n L q at' e w') (hc : mcE P n L q = 0) : Below w.heap.size w w' ∧ ∃ (pa : Option Addr) (pn pc : Nat) (pe : Int), e = .returned (.tuple #[.slice pa pn pc, .int .i64 pe]) ∧
    (((at' < 0 ∨ (n : Int) ≤ at') ∧ pn = 0 ∧ pe = 8) ∨ (∃ j : Nat, at' = j ∧ j < n ∧ pe = 0 ∧ ∃ ch ge, Done L n 0 (CHC q) (kd L) ch ge ∧ Ints w' pa pn pc (ge j).ints ∧ pn = (ge j).ln)) := by
  obtain ⟨hb, -, h2⟩ := h
  refine ⟨hb, ?_⟩
  by_cases hw : at' < 0 ∨ (n : Int) ≤ at'
  · exact ⟨_, _, _, _, (h2 hc).1 hw, .inl ⟨hw, rfl, rfl⟩⟩
  · obtain ⟨j, hj⟩ : ∃ j : Nat, at' = j := ⟨at'.toNat, by omega⟩
    obtain ⟨ch, ge, pa, pc, hD, he, hI⟩ := (h2 hc).2 j hj (by omega)
    exact ⟨_, _, _, _, he, .inr ⟨j, hj, by omega, rfl, ch, ge, hD, hI, rfl⟩⟩
theorem perf_shape {w w' : World} {P : Int} {n : Nat} {L : List Nd} {q : List Int} {e : Ending} (h : PerfP w P n L q e w') (hc : mcE P n L q = 0) : Below w.heap.size w w' ∧ ∃ (pb : Bool) (pi : Int), e = .returned (.tuple #[.bool pb, .int .i64 pi, .int .i64 0]) ∧
    ∃ ch ge gw, Done L n 0 (CHC q) (kd L) ch ge ∧ (∀ who : Nat, (who : Int) < P → ∃ cw, Done L n 0 (CHW L q who) (kd L) cw (gw who)) ∧
    ∀ (w2 w3 : World) (p : Nat) (e2 : Ending), P = p → PerfR w2 p n ge gw e2 w3 → e2 = .returned (.tuple #[.bool pb, .int .i64 pi]) := by
  obtain ⟨hb, -, h2⟩ := h
  refine ⟨hb, ?_⟩
  obtain ⟨ch, ge, gw, hD, hW, hh⟩ := h2 hc
  rcases hh with ⟨j, who, h1, h2, h3, h4, h5⟩ | ⟨h4, h5⟩
  · refine ⟨false, j, h5, ch, ge, gw, hD, hW, fun w2 w3 p e2 hp hR => ?_⟩
    subst hp
    obtain ⟨-, hR⟩ := hR
    rcases hR with ⟨j', who', k1, k2, k3, k4, k5⟩ | ⟨k4, k5⟩
    · have : j = j' := by
        rcases Nat.lt_trichotomy j j' with q | q | q
        · exact absurd h3 (k4 j who q (by omega))
        · exact q
        · exact absurd k3 (h4 j' who' q (by omega))
      rw [k5, this]
    · exact absurd h3 (k4 j who h1 (by omega))
  · refine ⟨true, 0, h5, ch, ge, gw, hD, hW, fun w2 w3 p e2 hp hR => ?_⟩
    subst hp
    obtain ⟨-, hR⟩ := hR
    rcases hR with ⟨j', who', k1, k2, k3, k4, k5⟩ | ⟨k4, k5⟩
    · exact absurd k3 (h4 j' who' k1 (by omega))
    · exact k5
theorem sing_shape {w w' : World} {P : Int} {n : Nat} {L : List Nd} {q : List Int} {e : Ending} (h : SingP w P n L q e w') (hc : mcE P n L q = 0) : Below w.heap.size w w' ∧ ∃ (pb : Bool), e = .returned (.tuple #[.bool pb, .int .i64 0]) ∧
    ∃ ch ge, Done L n 0 (CHC q) (kd L) ch ge ∧ ∀ (w2 w3 : World) (e2 : Ending), SingR w2 n L ge e2 w3 → e2 = .returned (.bool pb) := by
  obtain ⟨hb, -, h2⟩ := h
  refine ⟨hb, ?_⟩
  obtain ⟨ch, ge, hD, hh⟩ := h2 hc
  rcases hh with ⟨j, i, h1, h2, h3, h5⟩ | ⟨h4, h5⟩
  · refine ⟨false, h5, ch, ge, hD, fun w2 w3 e2 hR => ?_⟩
    obtain ⟨-, hR⟩ := hR
    rcases hR with ⟨j', i', k1, k2, k3, k5⟩ | ⟨k4, k5⟩
    · exact k5
    · exact absurd h3 (k4 j i h1 h2)
  · refine ⟨true, h5, ch, ge, hD, fun w2 w3 e2 hR => ?_⟩
    obtain ⟨-, hR⟩ := hR
    rcases hR with ⟨j', i', k1, k2, k3, k5⟩ | ⟨k4, k5⟩
    · exact absurd k3 (h4 j' i' k1 k2)
    · exact k5
theorem lF_ext {n : Nat} {f g : Nat → Int} (h : ∀ j, j < n → f j = g j) : lF n f = lF n g := by
  unfold lF
  exact List.map_congr_left (fun j hj => h j (List.mem_range.1 hj))
set_option maxRecDepth 100000 in
set_option maxHeartbeats 4000000 in
theorem treeSays_of (P : Int) (a : Option Addr) (n c : Nat) (L : List Nd) (qa : Option Addr) (qn qc : Nat) (q : List Int) (at' who : Int) (w : World) (h : Nodes w a n c L) (hq : Ints w qa qn qc q) (hn : n ≤ 140737488351232) (hs : ∀ d ∈ L, d.k.ln ≤ 140737488351232 ∧ d.p.ln ≤ 140737488351232)
    (N0 : ∀ W, Nodes W a n c L → plN L n ≤ 300 → Calls Try.prog 40 #[tV P a n c] W (NormP W P n L)) (N1 : ∀ W, Nodes W a n c L → plN L n ≤ 300 → Calls Try.prog 41 #[tV P a n c] W (NormP W P n L)) :
    Calls Try.prog 3 #[tV P a n c, .slice qa qn qc, .int .i64 at', .int .i64 who] w fun e w' => e = .returned (.bool true) ∧ Below w.heap.size w w' := by
  obtain ⟨W, hW, hbW, hlt0, hbox⟩ := tbox (w := w) P a n c
  have HW := hide hW
  have HBX := hide hbox
  have HBT := hide (fun (wr : World) (hb : Below W.heap.size W wr) => Below.trans hbW (hb.mono hbW.size))
  have w0 := (hbox W (Below.refl _ _)).1
  have w1 := (hbox W (Below.refl _ _)).2
  have hN := h.later hbW
  have HN := hide hN
  have HQ := hide (hq.later hbW)
  have CH := hide (heavyTree_any P a n c L W hN hn hs)
  have C0 := hide N0
  have C1 := hide N1
  have hc1 := h.2.1
  have hc2 := h.2.2.1
  have hq1 := hq.2.1
  have hq2 := hq.2.2.1
  unfold maxLen at hc2 hq2
  clear h hq hW hbW hbox hN hlt0 N0 N1 hs
  unfold tV at CH ⊢
  go_enter Try.func3, Try.ntmps3
  go_wp2_with fail
  rw [unhide HW]
  go_wp2_with fail
  refine (unhide CH).mono ?_
  rintro e w2 ⟨hv, rfl, hb2, hsm⟩
  have HB2 := hide hb2
  have HSM := hide hsm
  obtain ⟨x0, x1⟩ := unhide HBX w2 hb2
  clear hb2 hsm w0 w1 CH
  cases hv with
  | true =>
    go_wp2_with fail
    go_ret
    exact ⟨rfl, unhide HBT _ (unhide HB2)⟩
  | false =>
    by_cases hl : qn ≤ 100
    · have d0 : decide ((100 : Int) < (qn : Int)) = false := by simp; omega
      have CP := hide (planned_any P a n c L w2 ((unhide HN).later (unhide HB2)) (fun i hi => ((unhide HSM rfl).2 i hi).1))
      unfold tV at CP
      go_wp2_with fail
      refine (unhide CP).mono ?_
      rintro e w3 ⟨hv, rfl, hb3, hpl⟩
      have HB3 := hide ((unhide HB2).trans (hb3.mono (unhide HB2).size))
      obtain ⟨y0, y1⟩ := unhide HBX w3 (unhide HB3)
      clear hb3 x0 x1 CP
      cases hv with
      | false =>
        go_wp2_with fail
        go_ret
        exact ⟨rfl, unhide HBT _ (unhide HB3)⟩
      | true =>
        have hpl' := hpl rfl
        have HPL : Hid (plN L n ≤ 300) := by show _ ≤ _; omega
        clear hpl hpl'
        have CA1 : Hid (∀ X, Below W.heap.size W X → Calls Try.prog 8 #[.agg #[.int .i64 P, .slice a n c]] X fun e w' => e = .returned (.int .i64 (tmE P n L)) ∧ Below X.heap.size X w') := fun X hX => treeMay_any P a n c L X ((unhide HN).later hX)
        have CA2 : Hid (∀ X, Below W.heap.size W X → Calls Try.prog 9 #[.agg #[.int .i64 P, .slice a n c], .slice qa qn qc] X fun e w' => e = .returned (.int .i64 (mcE P n L q)) ∧ Below X.heap.size X w') := fun X hX => choicesMay_any P a n c L qa qn qc q X ((unhide HN).later hX) ((unhide HQ).later hX)
        have CA3 : Hid (∀ X, Below W.heap.size W X → Calls Try.prog 10 #[.agg #[.int .i64 P, .slice a n c]] X (BackP X P n L)) := fun X hX => backward_any P a n c L X ((unhide HN).later hX)
        have CA4 : Hid (∀ X, Below W.heap.size W X → Calls Try.prog 11 #[.agg #[.int .i64 P, .slice a n c]] X fun e w' => e = .returned (.int .i64 (tmE P n L)) ∧ Below X.heap.size X w') := fun X hX => may_any P a n c L X ((unhide HN).later hX)
        have CA5 : Hid (∀ X, Below W.heap.size W X → Calls Try.prog 14 #[.agg #[.int .i64 P, .slice a n c], .slice qa qn qc, .int .i64 at'] X (PlayP X P n L q at')) := fun X hX => play_any P a n c L qa qn qc q at' X ((unhide HN).later hX) ((unhide HQ).later hX)
        have CA6 : Hid (∀ X, Below W.heap.size W X → Calls Try.prog 15 #[.agg #[.int .i64 P, .slice a n c], .slice qa qn qc] X (PerfP X P n L q)) := fun X hX => perfect_any P a n c L qa qn qc q X ((unhide HN).later hX) ((unhide HQ).later hX)
        have CA7 : Hid (∀ X, Below W.heap.size W X → Calls Try.prog 16 #[.agg #[.int .i64 P, .slice a n c], .slice qa qn qc] X (SingP X P n L q)) := fun X hX => single_any P a n c L qa qn qc q X ((unhide HN).later hX) ((unhide HQ).later hX)
        have CA8 : Hid (∀ X, Below W.heap.size W X → Calls Try.prog 20 #[.agg #[.int .i64 P, .slice a n c], .int .i64 who, .int .i64 (tmE P n L)] X fun e w' => e = .returned (.bool true) ∧ Below X.heap.size X w') := fun X hX => treeForce_of P a n c L who X ((unhide HN).later hX) (fun Y hY => unhide C0 Y hY (unhide HPL)) (fun Y hY => unhide C1 Y hY (unhide HPL))
        have HGT : Hid (tmE P n L = 0 → ∃ p : Nat, P = p ∧ GT p n L (kd L)) := fun hm => gt_of (unhide HN) hm
        clear C0 C1 HSM HB2
        go_wp2_with fail
        refine (unhide CA1 w3 (unhide HB3)).mono ?_
        rintro e w4 ⟨rfl, hb4⟩
        have HB4 := hide ((unhide HB3).trans (hb4.mono (unhide HB3).size))
        obtain ⟨x0, x1⟩ := unhide HBX w4 (unhide HB4)
        clear hb4 y0 y1 HB3 CA1
        go_wp2_with fail
        refine (unhide CA2 w4 (unhide HB4)).mono ?_
        rintro e w5 ⟨rfl, hb5⟩
        have HB5 := hide ((unhide HB4).trans (hb5.mono (unhide HB4).size))
        obtain ⟨y0, y1⟩ := unhide HBX w5 (unhide HB5)
        clear hb5 x0 x1 HB4 CA2
        go_wp2_with fail
        refine (unhide CA3 w5 (unhide HB5)).mono ?_
        intro e w6 hBK
        obtain ⟨hb6, ba, bn, bc, rfl, hbn, hbc, hback⟩ := back_shape hBK
        have HB6 := hide ((unhide HB5).trans (hb6.mono (unhide HB5).size))
        obtain ⟨x0, x1⟩ := unhide HBX w6 (unhide HB6)
        have HBK := hide hback
        clear hBK hb6 hback y0 y1 HB5 CA3
        go_wp2_with fail
        refine (unhide CA4 w6 (unhide HB6)).mono ?_
        rintro e w7 ⟨rfl, hb7⟩
        have HB7 := hide ((unhide HB6).trans (hb7.mono (unhide HB6).size))
        obtain ⟨y0, y1⟩ := unhide HBX w7 (unhide HB7)
        by_cases hc : mcE P n L q = 0
        · obtain ⟨hm, hlq, hok⟩ := mcE_ok hc
          obtain ⟨p, hp, hT⟩ := unhide HGT hm
          subst hp
          have hqn : qn = n := by have := (unhide HQ).1; omega
          subst hqn
          rcases unhide HBK with ⟨hm', -⟩ | ⟨-, rfl, ch, ge, hI, hD⟩
          · exact absurd hm hm'
          have CRB := hide (backwardR_any p a bn c L ch ge hT hm hD w7 ((unhide HN).later (unhide HB7)))
          have HI7 := hide (hI.later hb7)
          have hn40 := hT.n40
          have HT := hide hT
          have HM := hide hm
          have HC := hide hc
          have HOK := hide hok
          unfold tV at CRB
          rw [hm] at CA8 ⊢
          rw [hc]
          clear hb7 x0 x1 HB6 HBK hm hc CA4 hI hD hT HGT hok hlq
          go_wp2_with fail
          refine (unhide CRB).mono ?_
          rintro e w8 ⟨g, f, rfl, hr, hf, hb8⟩
          have hsm := sameInts_any ba (some ⟨g, 0, none⟩) bn bc bn bn (lF bn ch) (lF bn f) w8 ((unhide HI7).later hb8) (hr.ints (by omega))
          rw [decide_eq_true (lF_ext (fun j hj => (hf j hj).symm))] at hsm
          have CSM := hide hsm
          have HB8 := hide ((unhide HB7).trans (hb8.mono (unhide HB7).size))
          clear hr hf hb8 hsm CRB HI7 y0 y1
          go_wp2_with fail
          refine (unhide CSM).mono ?_
          rintro e w9 ⟨rfl, hb9⟩
          have HBk := hide ((unhide HB8).trans (hb9.mono (unhide HB8).size))
          obtain ⟨y0, y1⟩ := unhide HBX w9 (unhide HBk)
          clear hb9 CSM HB8 HB7
          go_wp2_with fail
          refine (unhide CA5 _ (unhide HBk)).mono ?_
          intro e w10 hP
          obtain ⟨hb10, pa, pn, pc, pe, rfl, hplay⟩ := play_shape hP (unhide HC)
          have HB10 := hide ((unhide HBk).trans (hb10.mono (unhide HBk).size))
          have HPY := hide hplay
          obtain ⟨x0, x1⟩ := unhide HBX w10 (unhide HB10)
          clear hP hb10 hplay y0 y1 HBk CA5
          go_wp2_with fail
          refine (unhide CA6 _ (unhide HB10)).mono ?_
          intro e w11 hP
          obtain ⟨hb11, pb, pi, rfl, ch1, ge1, gw1, hD1, hW1, hR1⟩ := perf_shape hP (unhide HC)
          have HB11 := hide ((unhide HB10).trans (hb11.mono (unhide HB10).size))
          have HB1011 := hide hb11
          have HR1 := hide hR1
          have CR1 := hide (fun (X : World) (hX : Below W.heap.size W X) => perfectR_any p a bn c L qa qc q ch1 ge1 gw1 (unhide HT) (unhide HM) (unhide HOK) hD1 (fun who hw => hW1 who (by omega)) (unhide HPL) X ((unhide HN).later hX) ((unhide HQ).later hX))
          obtain ⟨y0, y1⟩ := unhide HBX w11 (unhide HB11)
          clear hP hb11 hD1 hW1 hR1 x0 x1 CA6
          go_wp2_with fail
          refine (unhide CA7 _ (unhide HB11)).mono ?_
          intro e w12 hP
          obtain ⟨hb12, sb, rfl, ch2, ge2, hD2, hR2⟩ := sing_shape hP (unhide HC)
          have HB12 := hide ((unhide HB11).trans (hb12.mono (unhide HB11).size))
          have HB1012 := hide ((unhide HB1011).trans (hb12.mono (unhide HB1011).size))
          have HR2 := hide hR2
          have CR2 := hide (fun (X : World) (hX : Below W.heap.size W X) => singleR_any p a bn c L qa qc q ch2 ge2 (unhide HT) hD2 X ((unhide HN).later hX) ((unhide HQ).later hX))
          obtain ⟨x0, x1⟩ := unhide HBX w12 (unhide HB12)
          unfold tV at CR1 CR2
          clear hP hb12 hD2 hR2 y0 y1 HB11 HB1011 CA7
          go_wp2_with fail
          refine (unhide CR1 _ (unhide HB12)).mono ?_
          intro e w13 hP
          obtain rfl := unhide HR1 _ _ _ _ rfl hP
          have hb13 := hP.1
          have HB13 := hide ((unhide HB12).trans (hb13.mono (unhide HB12).size))
          have HB1013 := hide ((unhide HB1012).trans (hb13.mono (unhide HB1012).size))
          obtain ⟨y0, y1⟩ := unhide HBX w13 (unhide HB13)
          clear hP hb13 x0 x1 HR1 CR1 HB12 HB1012
          go_wp2_with fail
          refine (unhide CR2 _ (unhide HB13)).mono ?_
          intro e w14 hP
          obtain rfl := unhide HR2 _ _ _ hP
          have hb14 := hP.1
          have HB14 := hide ((unhide HB13).trans (hb14.mono (unhide HB13).size))
          have HB1014 := hide ((unhide HB1013).trans (hb14.mono (unhide HB1013).size))
          obtain ⟨x0, x1⟩ := unhide HBX w14 (unhide HB14)
          clear hP hb14 y0 y1 HR2 CR2 HB13 HB1013
          rcases unhide HPY with ⟨hout, rfl, rfl⟩ | ⟨j, rfl, hj, rfl, ch3, ge3, hD3, hI3, hpn⟩
          · clear HPY
            by_cases ho : at' < 0
            · have d1 : decide (0 ≤ at') = false := by simp; omega
              clear hout
              go_wp2_with fail
              refine (unhide CA8 _ (unhide HB14)).mono ?_
              rintro e w16 ⟨rfl, hb16⟩
              have HB16 := hide ((unhide HB14).trans (hb16.mono (unhide HB14).size))
              clear hb16
              go_wp2_with fail
              go_ret
              exact ⟨rfl, unhide HBT _ (unhide HB16)⟩
            · have d1 : decide (0 ≤ at') = true := by simp; omega
              have d2 : decide (at' < (bn : Int)) = false := by simp; omega
              clear hout
              go_wp2_with fail
              refine (unhide CA8 _ (unhide HB14)).mono ?_
              rintro e w16 ⟨rfl, hb16⟩
              have HB16 := hide ((unhide HB14).trans (hb16.mono (unhide HB14).size))
              clear hb16
              go_wp2_with fail
              go_ret
              exact ⟨rfl, unhide HBT _ (unhide HB16)⟩
          · obtain ⟨i, i1, i2, i3⟩ := done_own (unhide HT) hD3 j hj
            have CRE := hide (reach_any p a bn c L qa qc q ch3 ge3 (unhide HT) hD3 j hj w14 ((unhide HN).later (unhide HB14)) ((unhide HQ).later (unhide HB14)))
            have HI3 := hide (hI3.later (unhide HB1014))
            have HI4 : Hid (∀ X, Below W.heap.size W X → Ints X (ge3 j).la (ge3 j).ln (ge3 j).lc (ge3 j).ints) := fun X hX => by rw [i3]; exact (((unhide HN).later hX).mem i1).2
            unfold tV at CRE
            have d1 : decide (0 ≤ (j : Int)) = true := by simp
            have d2 : decide ((j : Int) < (bn : Int)) = true := by simp; omega
            clear HPY hD3 hI3 i1 i2 i3 hpn
            generalize ge3 j = sj at *
            obtain ⟨ja, jn, jc, jl⟩ := sj
            simp only at CRE HI3 HI4
            go_wp2_with fail
            refine (unhide CRE).mono ?_
            rintro e w15 ⟨rfl, hb15⟩
            have hB15 := (unhide HB14).trans (hb15.mono (unhide HB14).size)
            have hsm := sameInts_any pa ja pn pc jn jc jl jl w15 ((unhide HI3).later hb15) (unhide HI4 _ hB15)
            rw [decide_eq_true rfl] at hsm
            have CSM := hide hsm
            have HB15 := hide hB15
            clear hb15 hB15 hsm CRE HI3 HI4 x0 x1
            go_wp2_with fail
            refine (unhide CSM).mono ?_
            rintro e w16 ⟨rfl, hb16⟩
            have HB16 := hide ((unhide HB15).trans (hb16.mono (unhide HB15).size))
            obtain ⟨y0, y1⟩ := unhide HBX w16 (unhide HB16)
            clear hb16 CSM
            go_wp2_with fail
            refine (unhide CA8 _ (unhide HB16)).mono ?_
            rintro e w17 ⟨rfl, hb17⟩
            have HB17 := hide ((unhide HB16).trans (hb17.mono (unhide HB16).size))
            clear hb17
            go_wp2_with fail
            go_ret
            exact ⟨rfl, unhide HBT _ (unhide HB17)⟩
        · have hcd : (mcE P n L q == 0) = false := by simpa using hc
          have hcd' : (mcE P n L q != 0) = true := by simpa using hc
          have HC := hide hc
          rcases unhide HBK with ⟨hm, rfl⟩ | ⟨hm, rfl, ch, ge, hI, hD⟩
          · have hmd : (tmE P n L == 0) = false := by simpa using hm
            have hmd' : (tmE P n L != 0) = true := by simpa using hm
            have HBk := HB7
            clear hb7 x0 x1 HB6 HBK hm hc CA4
            go_wp2_with fail
            refine (unhide CA5 _ (unhide HBk)).mono ?_
            rintro e w10 ⟨hb10, hp10, -⟩
            obtain rfl := hp10 (unhide HC)
            unfold two
            have HB10 := hide ((unhide HBk).trans (hb10.mono (unhide HBk).size))
            obtain ⟨x0, x1⟩ := unhide HBX w10 (unhide HB10)
            clear hb10 hp10 y0 y1 HBk CA5
            go_wp2_with fail
            refine (unhide CA6 _ (unhide HB10)).mono ?_
            rintro e w11 ⟨hb11, hp11, -⟩
            obtain rfl := hp11 (unhide HC)
            have HB11 := hide ((unhide HB10).trans (hb11.mono (unhide HB10).size))
            obtain ⟨y0, y1⟩ := unhide HBX w11 (unhide HB11)
            clear hb11 hp11 x0 x1 HB10 CA6
            go_wp2_with fail
            refine (unhide CA7 _ (unhide HB11)).mono ?_
            rintro e w12 ⟨hb12, hp12, -⟩
            obtain rfl := hp12 (unhide HC)
            have HB12 := hide ((unhide HB11).trans (hb12.mono (unhide HB11).size))
            obtain ⟨x0, x1⟩ := unhide HBX w12 (unhide HB12)
            clear hb12 hp12 y0 y1 HB11 CA7
            go_wp2_with fail
            refine (unhide CA8 _ (unhide HB12)).mono ?_
            rintro e w13 ⟨rfl, hb13⟩
            have HB13 := hide ((unhide HB12).trans (hb13.mono (unhide HB12).size))
            clear hb13
            go_wp2_with fail
            go_ret
            exact ⟨rfl, unhide HBT _ (unhide HB13)⟩
          · obtain ⟨p, hp, hT⟩ := unhide HGT hm
            subst hp
            have CRB := hide (backwardR_any p a bn c L ch ge hT hm hD w7 ((unhide HN).later (unhide HB7)))
            have HI7 := hide (hI.later hb7)
            have hn40 := hT.n40
            unfold tV at CRB
            rw [hm] at CA8 ⊢
            clear hb7 x0 x1 HB6 HBK hm hc CA4 hI hD hT HGT
            go_wp2_with fail
            refine (unhide CRB).mono ?_
            rintro e w8 ⟨g, f, rfl, hr, hf, hb8⟩
            have hsm := sameInts_any ba (some ⟨g, 0, none⟩) bn bc bn bn (lF bn ch) (lF bn f) w8 ((unhide HI7).later hb8) (hr.ints (by omega))
            rw [decide_eq_true (lF_ext (fun j hj => (hf j hj).symm))] at hsm
            have CSM := hide hsm
            have HB8 := hide ((unhide HB7).trans (hb8.mono (unhide HB7).size))
            clear hr hf hb8 hsm CRB HI7 y0 y1
            go_wp2_with fail
            refine (unhide CSM).mono ?_
            rintro e w9 ⟨rfl, hb9⟩
            have HBk := hide ((unhide HB8).trans (hb9.mono (unhide HB8).size))
            obtain ⟨y0, y1⟩ := unhide HBX w9 (unhide HBk)
            clear hb9 CSM HB8 HB7
            go_wp2_with fail
            refine (unhide CA5 _ (unhide HBk)).mono ?_
            rintro e w10 ⟨hb10, hp10, -⟩
            obtain rfl := hp10 (unhide HC)
            unfold two
            have HB10 := hide ((unhide HBk).trans (hb10.mono (unhide HBk).size))
            obtain ⟨x0, x1⟩ := unhide HBX w10 (unhide HB10)
            clear hb10 hp10 y0 y1 HBk CA5
            go_wp2_with fail
            refine (unhide CA6 _ (unhide HB10)).mono ?_
            rintro e w11 ⟨hb11, hp11, -⟩
            obtain rfl := hp11 (unhide HC)
            have HB11 := hide ((unhide HB10).trans (hb11.mono (unhide HB10).size))
            obtain ⟨y0, y1⟩ := unhide HBX w11 (unhide HB11)
            clear hb11 hp11 x0 x1 HB10 CA6
            go_wp2_with fail
            refine (unhide CA7 _ (unhide HB11)).mono ?_
            rintro e w12 ⟨hb12, hp12, -⟩
            obtain rfl := hp12 (unhide HC)
            have HB12 := hide ((unhide HB11).trans (hb12.mono (unhide HB11).size))
            obtain ⟨x0, x1⟩ := unhide HBX w12 (unhide HB12)
            clear hb12 hp12 y0 y1 HB11 CA7
            go_wp2_with fail
            refine (unhide CA8 _ (unhide HB12)).mono ?_
            rintro e w13 ⟨rfl, hb13⟩
            have HB13 := hide ((unhide HB12).trans (hb13.mono (unhide HB12).size))
            clear hb13
            go_wp2_with fail
            go_ret
            exact ⟨rfl, unhide HBT _ (unhide HB13)⟩
    · have d0 : decide ((100 : Int) < (qn : Int)) = true := by simp; omega
      go_wp2_with fail
      go_ret
      exact ⟨rfl, unhide HBT _ (unhide HB2)⟩
end Go.Proofs.Ytbcchbhchfdbiaa
