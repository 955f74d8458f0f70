import Derived.Test.YtbcchbhchfdbiaaWBS
namespace Go.Proofs.Ytbcchbhchfdbiaa
open Go.RowKit Go.Shelf
attribute [local go_sem] Oper.semAt_some
/-- Other choices give one no more. -/
def NoMore (L : List Nd) (n : Nat) (ge : Nat → Sl) (j x : Nat) (q' : List Int) : Prop := ∀ ch' ge', Done L n 0 (CHC q') (kd L) ch' ge' → ¬ nth (ge j).ints x < nth (ge' j).ints x
set_option maxRecDepth 100000 in
set_option maxHeartbeats 8000000 in
theorem perfectR_any (P : Nat) (a : Option Addr) (n c : Nat) (L : List Nd) (qa : Option Addr) (qc : Nat) (q : List Int) (ch : Nat → Int) (ge : Nat → Sl) (gw : Nat → Nat → Sl) (hT : GT P n L (kd L)) (hm : tmE (P : Int) n L = 0) (hc : ChOk L n q) (hD : Done L n 0 (CHC q) (kd L) ch ge) (hW : ∀ who : Nat, who < P → ∃ cw, Done L n 0 (CHW L q who) (kd L) cw (gw who)) (hpl : plN L n ≤ 300) (w : World) (h : Nodes w a n c L) (hq : Ints w qa n qc q) :
    Calls Try.prog 17 #[tV P a n c, .slice qa n qc] w (PerfR w P n ge gw) := by
  obtain ⟨W, hWW, hbW, hlt0, hbox⟩ := tbox (w := w) P a n c
  have HWW := hide hWW
  have HBW := hide hbW
  have HBX0 := hide hbox
  have hN := h.later hbW
  have hQ := hq.later hbW
  have HN := hide hN
  have HQ := hide hQ
  have HQL : Hid (q.length = n) := hq.1.symm
  have hc1 := h.2.1
  have hc2 := h.2.2.1
  unfold maxLen at hc2
  have n40 := hT.n40
  have n1 := hT.n1
  have p5 := hT.P5
  have HT := hide hT
  have HD := hide hD
  have HWD := hide hW
  have HM := hide hm
  have HCH := hide hc
  have HPL := hide hpl
  have CR : Hid (∀ j, j < n → ∀ wr, Below W.heap.size W wr → Calls Try.prog 19 #[tV P a n c, .slice qa n qc, .int .i64 (j : Int)] wr fun e w' => e = .returned (.slice (ge j).la (ge j).ln (ge j).lc) ∧ Below wr.heap.size wr w') := fun j hj wr hb => reach_any P a n c L qa qc q ch ge hT hD j hj wr (hN.later hb) (hQ.later hb)
  unfold tV at CR ⊢
  clear h hq hWW hbW hbox hN hQ hT hD hW hm hc hpl
  go_enter Try.func17, Try.ntmps17
  go_wp2_with fail
  rw [unhide HWW]
  go_loopw [6, 7, 8, 9, 10, 11] (fun i _ _ _ _ _ wr => Hid (Below W.heap.size W wr) ∧ ∃ k : Nat, k ≤ n ∧ i = .int .i64 k ∧ Hid (∀ i x : Nat, i < k → x < P → ¬ Bad2 ge gw i x)) (fun i _ _ _ _ _ _ => n - (intOf i).toNat)
  case atStart => exact ⟨Below.refl _ _, 0, Nat.zero_le _, rfl, fun i x h => by omega⟩
  case round =>
    obtain ⟨HBr, j, hj, rfl, HI⟩ := hrel
    obtain ⟨v0, v1⟩ := unhide HBX0 wr (unhide HBr)
    by_cases hlt : j < n
    · have CR0 := hide (unhide CR j hlt wr (unhide HBr))
      go_wp2_with fail
      refine (unhide CR0).mono ?_
      rintro e w4 ⟨rfl, hb4⟩
      have HB4 := hide ((unhide HBr).trans (hb4.mono (unhide HBr).size))
      clear hb4 CR0 v0 v1
      go_wp2_with fail
      go_loopw [8, 9, 10, 11] (fun i _ _ _ wz => Hid (Below W.heap.size W wz) ∧ ∃ k : Nat, k ≤ P ∧ i = .int .i64 k ∧ Hid (∀ x, x < k → ¬ Bad2 ge gw j x)) (fun i _ _ _ _ => P - (intOf i).toNat)
      case atStart => exact ⟨HB4, 0, Nat.zero_le _, rfl, fun x h => by omega⟩
      case round =>
        obtain ⟨HBs, x, hx, rfl, HJ⟩ := hrel
        rename World => wz
        obtain ⟨s0, s1⟩ := unhide HBX0 _ (unhide HBs)
        by_cases hxl : x < P
        · have CU := hide (under_any P a n c L (unhide HT) (unhide HM) j hlt wz.drew ((unhide HN).later (unhide HBs).drew))
          unfold tV at CU
          go_wp2_with fail
          go_region_with (first
            | (
              go_at_call 38
              refine (unhide CU).mono ?_
              rintro e w5 ⟨v5, U, rfl, ho5, hU5, hb5⟩
              have hul : U.length ≤ n := nodup_len n U hU5.nd (fun y hy => (hU5.rng y hy).2)
              obtain ⟨ua, uc, hv5, hI5, -⟩ := Ints.of_owns ho5 (by omega)
              subst hv5
              have hB5 := (unhide HBs).drew.trans (hb5.mono (by show W.heap.size ≤ wz.heap.size; exact (unhide HBs).size))
              obtain ⟨r0, r1⟩ := unhide HBX0 w5 hB5
              have HB5 := hide hB5
              have HU5 := hide hU5
              have CW := hide (waysAt_any P a n c L qa qc q x ua U.length uc U (unhide HT) w5 ((unhide HN).later hB5) ((unhide HQ).later hB5) hI5 (fun y hy => (hU5.rng y hy).2) (by omega) (Nat.le_trans (prW_le n U hU5.nd (fun y hy => (hU5.rng y hy).2)) (unhide HPL)))
              unfold tV at CW
              clear ho5 hU5 hb5 hI5 hB5
              generalize U.length = ul at *)
            | (
              go_at_call 37
              refine (unhide CW).mono ?_
              rintro e w6 ⟨oa, m, oc, LS, rfl, hL6, hl6, hb6⟩
              have HB6 := hide ((unhide HB5).trans (hb6.mono (unhide HB5).size))
              have HL6 := hide hL6
              have Hl6 := hide hl6
              clear hL6 hl6 hb6))
          all_goals (
            clear CU CW s0 s1 r0 r1
            have HQK : Hid (∀ k, k < m → (slAt LS k).ln = n ∧ ChOk L n (slAt LS k).ints ∧ WOk L x q (slAt LS k).ints) := fun k hk => by
              have h1 := (unhide HL6).mem hk
              have h2 : (slAt LS k).ints ∈ wyL L x q U := by
                rw [← unhide Hl6]
                exact List.mem_map.2 ⟨slAt LS k, slAt_mem (by have := (unhide HL6).1; omega), rfl⟩
              have h3 := wy_ok (U := U) (fun y hy => by rw [unhide HQL]; exact ((unhide HU5).rng y hy).2) _ h2
              exact ⟨h1.1.trans (h3.1.trans (unhide HQL)), way_ok (unhide HCH) h3, h3⟩
            obtain ⟨cw, hWx⟩ := unhide HWD x hxl
            have HWX := hide hWx
            have HLE : Hid (∀ k, k < m → ∀ ch' ge', Done L n 0 (CHC (slAt LS k).ints) (kd L) ch' ge' → nth (ge j).ints x < nth (ge' j).ints x → Bad2 ge gw j x) := fun k hk ch' ge' hd hlt' => by
              have := way_le (unhide HT) (unhide HQK k hk).2.2 hd (unhide HWX) hlt
              unfold Bad2
              omega
            have HAL : Hid ((∀ k, k < m → NoMore L n ge j x (slAt LS k).ints) → ¬ Bad2 ge gw j x) := fun hall hb => by
              obtain ⟨q', hq1, hq2⟩ := way_best (unhide HT) (unhide HU5) (unhide HQL) (unhide HWX)
              rw [← unhide Hl6] at hq1
              obtain ⟨k, hk, ek⟩ := List.getElem_of_mem hq1
              rw [lists_len] at hk
              have hkm : k < m := by have := (unhide HL6).1; omega
              have e2 : (slAt LS k).ints = q' := by
                have h3 := lists_at (l := LS) hk
                rw [List.getElem?_eq_getElem (by rw [lists_len]; exact hk)] at h3
                exact (Option.some.inj h3).symm.trans ek
              obtain ⟨ch', ge', hd⟩ := done_q (unhide HT) (unhide HQK k hkm).2.1
              have h4 := hall k hkm ch' ge' hd
              rw [e2] at hd
              have h5 := hq2 ch' ge' hd
              unfold Bad2 at hb
              omega
            have HJ2 : Hid (¬ Bad2 ge gw j x → ∀ y, y < x + 1 → ¬ Bad2 ge gw j y) := fun hn y hy => by
              by_cases e : y = x
              · subst e; exact hn
              · exact unhide HJ y (by omega)
            have HFIN : Hid (Bad2 ge gw j x → ∀ w', Below W.heap.size W w' → PerfR w P n ge gw (.returned (.tuple #[.bool false, .int .i64 (j : Int)])) w') := fun hb w' hw' => ⟨(unhide HBW).trans (hw'.mono (unhide HBW).size), .inl ⟨j, x, hlt, hxl, hb, unhide HI, rfl⟩⟩
            clear hWx
            have om1 := (unhide HL6).2.1
            have om2 := (unhide HL6).2.2.1
            unfold maxLen at om2
            go_wp2_with fail
            go_loopw [10, 11] (fun kv _ wy => Hid (Below w6.heap.size w6 wy) ∧ ∃ k : Nat, k ≤ m ∧ kv = .int .i64 k ∧ Hid (∀ k', k' < k → NoMore L n ge j x (slAt LS k').ints)) (fun kv _ _ => m - (intOf kv).toNat)
            case atStart => exact ⟨Below.refl _ _, 0, Nat.zero_le _, rfl, fun k' h => by omega⟩
            case round =>
              obtain ⟨HBy, k, hk, rfl, HK⟩ := hrel
              have HBy3 := hide ((unhide HB6).trans ((unhide HBy).mono (unhide HB6).size))
              rename World => wy
              obtain ⟨s0, s1⟩ := unhide HBX0 _ (unhide HBy3)
              by_cases hkl : k < m
              · have hLy := (unhide HL6).later (unhide HBy)
                obtain ⟨ob, oo, eoa, hob, hoc⟩ := hLy.cellAt (by omega)
                have o1 := hoc k hkl
                have hIk := hLy.mem hkl
                obtain ⟨hk1, hk2, hk3⟩ := unhide HQK k hkl
                obtain ⟨ch', ge', hd'⟩ := done_q (unhide HT) hk2
                have hIk2 : Ints wy.drew (slAt LS k).la n (slAt LS k).lc (slAt LS k).ints := by rw [← hk1]; exact hIk.later (Below.refl _ _).drew
                have CR1 := hide (reach_any P a n c L (slAt LS k).la (slAt LS k).lc (slAt LS k).ints ch' ge' (unhide HT) hd' j hlt wy.drew ((unhide HN).later (unhide HBy3).drew) hIk2)
                rw [hk1] at o1
                have HGE : Hid (∀ w7, Below W.heap.size W w7 → (∃ b2 o2, (ge j).la = some ⟨b2, o2, none⟩ ∧ w7.cell? ⟨b2, o2 + x, none⟩ = some (.int .i64 (nth (ge j).ints x)) ∧ (ge j).ln = P ∧ P ≤ (ge j).lc ∧ (ge j).lc ≤ 9223372036854775807) ∧ (∃ b2 o2, (ge' j).la = some ⟨b2, o2, none⟩ ∧ w7.cell? ⟨b2, o2 + x, none⟩ = some (.int .i64 (nth (ge' j).ints x)) ∧ (ge' j).ln = P ∧ P ≤ (ge' j).lc ∧ (ge' j).lc ≤ 9223372036854775807)) := fun w7 h7 => ⟨get_cell ((unhide HN).later h7) (unhide HT) (unhide HD) hlt hxl, get_cell ((unhide HN).later h7) (unhide HT) hd' hlt hxl⟩
                obtain ⟨⟨b2, o2, e1, -, e2, e3, e4⟩, ⟨b3, o3, e5, -, e6, e7, e8⟩⟩ := unhide HGE wy (unhide HBy3)
                have HKN : Hid (¬ nth (ge j).ints x < nth (ge' j).ints x → ∀ k', k' < k + 1 → NoMore L n ge j x (slAt LS k').ints) := fun hn k' hk' ch2 ge2 hd2 => by
                  by_cases e : k' = k
                  · subst e
                    have hu := congrFun (Sett.uniq (done_c (unhide HT) hd2) (done_c (unhide HT) hd') j hlt) x
                    have hu' : nth (ge2 j).ints x = nth (ge' j).ints x := hu
                    rw [hu']; exact hn
                  · exact unhide HK k' (by omega) ch2 ge2 hd2
                have HBD : Hid (nth (ge j).ints x < nth (ge' j).ints x → Bad2 ge gw j x) := unhide HLE k hkl ch' ge' hd'
                unfold tV at CR1
                rw [e1, e2]
                rw [e5, e6] at CR1
                rw [e1, e5] at HGE
                subst eoa
                clear hLy hoc hIk hk1 hk2 hk3 hd' hIk2 e1 e2 e5 e6
                generalize (ge' j).lc = lc1 at *
                generalize (ge j).lc = lc2 at *
                generalize slAt LS k = Sk at *
                obtain ⟨ska, skn, skc, qk⟩ := Sk
                simp only at o1 CR1
                by_cases hbad : nth (ge j).ints x < nth (ge' j).ints x
                · have HF := hide (unhide HFIN (unhide HBD hbad))
                  have hd : decide (nth (ge j).ints x < nth (ge' j).ints x) = true := by simpa using hbad
                  clear hbad HKN HBD
                  generalize nth (ge j).ints x = m1 at *
                  generalize nth (ge' j).ints x = m2 at *
                  go_wp2_with fail
                  refine wp_region_still_tail 6 (by kernel_rfl) (by kernel_rfl) ?_
                  simp only [List.take_succ_cons, List.take_zero, List.drop_succ_cons, List.drop_zero]
                  show wpStill Try.prog _ wy.drew (fun a' => wpList Try.prog _ _ _ a' wy.drew) _ _
                  iterate 6 still_step
                  refine wpStill_nil ?_
                  go_wp2_with fail
                  refine (unhide CR1).mono ?_
                  rintro e w7 ⟨rfl, hb7⟩
                  have hb7w := (unhide HBy3).drew.trans (hb7.mono (by show W.heap.size ≤ wy.heap.size; exact (unhide HBy3).size))
                  obtain ⟨⟨_, _, q1, q2, -⟩, ⟨_, _, q3, q4, -⟩⟩ := unhide HGE w7 hb7w
                  cases q1
                  cases q3
                  have HB7 := hide hb7w
                  clear hb7 hb7w s0 s1 CR1 o1
                  go_wp2_with fail
                  go_quiet (fail)
                  go_wp2_with fail
                  go_ret2
                  exact unhide HF _ ((unhide HB7).trans ((below_drewN _ w7 nq).mono (unhide HB7).size))
                · have HF := hide (unhide HKN hbad)
                  have hd : decide (nth (ge j).ints x < nth (ge' j).ints x) = false := by simpa using hbad
                  clear hbad HKN HBD
                  generalize nth (ge' j).ints x = m2 at *
                  have HM1 : Hid (∃ m1, nth (ge j).ints x = m1) := ⟨_, rfl⟩
                  go_wp2_with fail
                  refine wp_region_still_tail 6 (by kernel_rfl) (by kernel_rfl) ?_
                  simp only [List.take_succ_cons, List.take_zero, List.drop_succ_cons, List.drop_zero]
                  show wpStill Try.prog _ wy.drew (fun a' => wpList Try.prog _ _ _ a' wy.drew) _ _
                  iterate 6 still_step
                  refine wpStill_nil ?_
                  go_wp2_with fail
                  refine (unhide CR1).mono ?_
                  rintro e w7 ⟨rfl, hb7⟩
                  have hb7w := (unhide HBy3).drew.trans (hb7.mono (by show W.heap.size ≤ wy.heap.size; exact (unhide HBy3).size))
                  obtain ⟨⟨_, _, q1, q2, -⟩, ⟨_, _, q3, q4, -⟩⟩ := unhide HGE w7 hb7w
                  cases q1
                  cases q3
                  have HB7 : Hid (Below w6.heap.size w6 w7) := (unhide HBy).drew.trans (hb7.mono (by show w6.heap.size ≤ wy.heap.size; exact (unhide HBy).size))
                  clear hb7 hb7w s0 s1 CR1 o1
                  go_wp2_with fail
                  go_quiet (fail)
                  go_wp2_with fail
                  exact ⟨⟨(unhide HB7).trans ((below_drewN _ w7 nq).mono (unhide HB7).size), k + 1, by omega, by go_num, HF⟩, by simp [intOf]; omega⟩
              · have HF := hide (unhide HJ2 (unhide HAL (fun k' hk' => unhide HK k' (by omega))))
                go_wp2_with fail
                exact ⟨⟨HBy3, x + 1, by omega, by go_num, HF⟩, by simp [intOf]; omega⟩
            )
        · obtain rfl : P = x := by omega
          have HF : Hid (∀ i x : Nat, i < j + 1 → x < P → ¬ Bad2 ge gw i x) := fun i y hi hy => by
            by_cases e : i = j
            · subst e; exact unhide HJ y hy
            · exact unhide HI i y (by omega) hy
          go_wp2_with fail
          exact ⟨⟨HBs, j + 1, by omega, by go_num, HF⟩, by simp [intOf]; omega⟩
    · obtain rfl : n = j := by omega
      go_wp2
      go_ret2
      exact ⟨(unhide HBW).trans ((unhide HBr).mono (unhide HBW).size), .inr ⟨unhide HI, rfl⟩⟩
end Go.Proofs.Ytbcchbhchfdbiaa
