import Derived.Test.YtbcchbhchfdbiaaWBA
namespace Go.Proofs.Ytbcchbhchfdbiaa
open Go.RowKit Go.Shelf
attribute [local go_sem] Oper.semAt_some
set_option maxRecDepth 100000 in
set_option maxHeartbeats 8000000 in
theorem treeMay_any (P : Int) (a : Option Addr) (n c : Nat) (L : List Nd) (w : World) (h : Nodes w a n c L) :
    Calls Try.prog 8 #[tV P a n c] w fun e w' => e = .returned (.int .i64 (tmE P n L)) ∧ Below w.heap.size w w' := by
  have hc1 := h.2.1
  have hc2 := h.2.2.1
  unfold maxLen at hc2
  obtain ⟨W, hW, hbW, hlt0, hbox⟩ := tbox (w := w) P a n c
  have HW := hide hW
  have HBW := hide hbW
  have HBX0 := hide hbox
  have w0 := (hbox W (Below.refl _ _)).1
  have w1 := (hbox W (Below.refl _ _)).2
  have hN := h.later hbW
  by_cases hP : P < 1 ∨ 5 < P
  · rw [tmE_7 hP]
    clear h hW hbW hbox hlt0 hN
    unfold tV
    by_cases h1 : P < 1
    · have d1 : decide (P < 1) = true := by simp; omega
      clear hP h1
      go_enter Try.func8, Try.ntmps8
      go_wp2_with fail
      rw [unhide HW]
      go_wp2
      go_ret
      exact ⟨rfl, unhide HBW⟩
    · have d1 : decide (P < 1) = false := by simp; omega
      have d2 : decide (5 < P) = true := by simp; omega
      clear hP h1
      go_enter Try.func8, Try.ntmps8
      go_wp2_with fail
      rw [unhide HW]
      go_wp2
      go_ret
      exact ⟨rfl, unhide HBW⟩
  · have d1 : decide (P < 1) = false := by simp; omega
    have d2 : decide (5 < P) = false := by simp; omega
    by_cases hn : n < 1 ∨ 40 < n
    · rw [tmE_2 hP hn]
      clear h hW hbW hbox hlt0 hN hP
      unfold tV
      by_cases h1 : n < 1
      · obtain rfl : n = 0 := by omega
        clear hn h1
        go_enter Try.func8, Try.ntmps8
        go_wp2_with fail
        rw [unhide HW]
        go_wp2
        go_ret
        exact ⟨rfl, unhide HBW⟩
      · have h1' : 1 ≤ n := by omega
        have h2 : 40 < n := by omega
        clear hn h1
        go_enter Try.func8, Try.ntmps8
        go_wp2_with fail
        rw [unhide HW]
        go_wp2
        go_ret
        exact ⟨rfl, unhide HBW⟩
    · have RM := hide (fun x => tmE_m (P := P) (n := n) (L := L) hP hn x)
      have RN := hide (fun x => tmE_n (P := P) (n := n) (L := L) hP hn x)
      have n1 : 1 ≤ n := by omega
      have n40 : n ≤ 40 := by omega
      obtain ⟨Q, rfl⟩ : ∃ Q : Nat, P = Q := ⟨P.toNat, by omega⟩
      have Q1 : 1 ≤ Q := by omega
      have HN := hide hN
      obtain ⟨nb, no, ea, hnb, hncell⟩ := hN.cellAt (by omega)
      subst ea
      have HC := hide hncell
      -- what is said of a node
      have HBAD : Hid (∀ i, i < n → neE Q n L n 0 = neE Q n L (n - i) i → nodeE Q n i (ndAt L i) ≠ 0 → ∀ w', Below W.heap.size W w' → ∀ x : Int, nodeE Q n i (ndAt L i) = x → Ending.returned (.int .i64 x) = .returned (.int .i64 (tmE Q n L)) ∧ Below w.heap.size w w') := fun i hi he hne w' hb x hx => by
        have h3 : neE Q n L n 0 ≠ 0 := by rw [he, neE_bad hi hne]; exact hne
        refine ⟨ret_int ?_, hbW.trans (hb.mono hbW.size)⟩
        rw [unhide RN h3, he, neE_bad hi hne, hx]
      unfold tV
      clear h hW hbW hbox hlt0 hP hn hN hncell
      go_enter Try.func8, Try.ntmps8
      go_wp2_with fail
      rw [unhide HW]
      go_wp2
      go_loopw [3, 4, 5, 6] (fun i _ _ _ wr => Hid (Below W.heap.size W wr) ∧ ∃ k : Nat, k ≤ n ∧ i = .int .i64 k ∧ Hid (neE Q n L n 0 = neE Q n L (n - k) k)) (fun i _ _ _ _ => n - (intOf i).toNat)
      case atStart => exact ⟨Below.refl _ _, 0, Nat.zero_le _, rfl, rfl⟩
      case round =>
        obtain ⟨HBr, i, hi, rfl, HI⟩ := hrel
        obtain ⟨z0, z1⟩ := unhide HBX0 wr (unhide HBr)
        by_cases hlt : i < n
        · obtain ⟨c0, c1, c2⟩ := unhide HC _ (unhide HBr) i hlt
          have hM := (unhide HN).mem hlt
          have HMk := hide hM.1
          have HMp := hide hM.2
          have hkl := hM.1.2.1
          have hkm := hM.1.2.2.1
          have hpl := hM.2.2.1
          have hpm := hM.2.2.2.1
          unfold maxLen at hkm hpm
          have HB := hide (unhide HBAD i hlt (unhide HI))
          have HNX : Hid (nodeE Q n i (ndAt L i) = 0 → neE Q n L n 0 = neE Q n L (n - (i + 1)) (i + 1)) := fun e => (unhide HI).trans (neE_next hlt e)
          have HE1 := hide (nodeE_1 (P := Q) (n := n) (a := i) (d := ndAt L i))
          have HE9 := hide (nodeE_9 (P := Q) (n := n) (a := i) (d := ndAt L i))
          have HE8 := hide (fun h h2 j hj hb => nodeE_8 (P := Q) (n := n) (a := i) (d := ndAt L i) h h2 (j := j) hj hb)
          have HE0 := hide (nodeE_0 (P := Q) (n := n) (a := i) (d := ndAt L i))
          clear hM HI HBAD
          generalize hNE : nodeE Q n i (ndAt L i) = NE at *
          clear hNE
          generalize ndAt L i = d at *
          obtain ⟨pl, ⟨ka, kn, kc, kids⟩, ⟨qa, qn, qc, pay⟩⟩ := d
          unfold SlIn at HMk HMp
          simp only at c0 c1 c2 HMk HMp hkl hkm hpl hpm HE1 HE9 HE8 HE0
          have hbA : Below wr.heap.size wr (wr.alloc (.cells #[.int .i64 pl, .slice ka kn kc, .slice qa qn qc] 51)) := by go_grown
          have HBA : Hid (Below W.heap.size W (wr.alloc (.cells #[.int .i64 pl, .slice ka kn kc, .slice qa qn qc] 51))) := (unhide HBr).trans (hbA.mono (unhide HBr).size)
          have HP0 : Hid (∀ wz, Below (wr.alloc (.cells #[.int .i64 pl, .slice ka kn kc, .slice qa qn qc] 51)).heap.size (wr.alloc (.cells #[.int .i64 pl, .slice ka kn kc, .slice qa qn qc] 51)) wz → wz.cell? ⟨wr.heap.size, 0, none⟩ = some (.int .i64 pl) ∧ wz.cell? ⟨wr.heap.size, 1, none⟩ = some (.slice ka kn kc) ∧ wz.cell? ⟨wr.heap.size, 2, none⟩ = some (.slice qa qn qc)) := fun wz hz => ⟨(hz.cell (p := ⟨wr.heap.size, 0, none⟩) (by simp)).trans (by simp [World.cell?_alloc_at]), (hz.cell (p := ⟨wr.heap.size, 1, none⟩) (by simp)).trans (by simp [World.cell?_alloc_at]), (hz.cell (p := ⟨wr.heap.size, 2, none⟩) (by simp)).trans (by simp [World.cell?_alloc_at])⟩
          have HLK : Hid (kn = kids.length) := (unhide HMk).1
          have HLP : Hid (qn = pay.length) := (unhide HMp).1
          obtain ⟨y0, y1⟩ := unhide HBX0 _ (unhide HBA)
          clear hbA
          by_cases hk0 : kn = 0
          · subst hk0
            by_cases hen : pl = 0 ∧ qn = Q
            · obtain ⟨hp0, hqQ⟩ := hen
              subst hp0
              subst hqQ
              have hnn : ¬ (endB (qn : Int) 0 0 qn = false ∧ movB (qn : Int) 0 0 qn = false) := by rintro ⟨q, -⟩; unfold endB at q; simp at q
              have HX9 : Hid (pay.any badP = true → NE = 9) := fun q => unhide HE9 hnn q
              have HX0 : Hid (pay.any badP = false → NE = 0) := fun q => unhide HE0 hnn q (fun j hj => by have := unhide HLK; omega)
              clear hnn HE1 HE9 HE8 HE0
              obtain ⟨p0, p1, p2⟩ := unhide HP0 _ (Below.refl _ _)
              obtain ⟨pb, po, eqa, hpb, hpc⟩ := ((unhide HMp).later (unhide HBA)).nth (by omega)
              have HPC := hide hpc
              subst eqa
              clear hpc
              go_wp2
              go_loop [5] (fun j => ∃ k : Nat, k ≤ qn ∧ j = .int .i64 k ∧ Hid (∀ t, t < k → badP (nth pay t) = false)) (fun j => qn - (intOf j).toNat)
              case atStart => exact ⟨0, Nat.zero_le _, rfl, fun t ht => by omega⟩
              case round =>
                obtain ⟨k, hk, rfl, HJ⟩ := hrel
                by_cases hkl2 : k < qn
                · have z := unhide HPC k hkl2
                  by_cases hbad : badP (nth pay k) = true
                  · have HX : Hid (NE = 9) := unhide HX9 (any_yes (k := k) (by have := unhide HLP; omega) hbad)
                    have HF := hide (unhide HB (by have := unhide HX; omega))
                    by_cases e1 : nth pay k < -999
                    · clear hbad
                      go_wp2
                      go_ret
                      exact unhide HF _ (unhide HBA) 9 (unhide HX)
                    · have e2 : 999 < nth pay k := by unfold badP at hbad; simp at hbad; omega
                      clear hbad
                      go_wp2
                      go_ret
                      exact unhide HF _ (unhide HBA) 9 (unhide HX)
                  · have hbf : badP (nth pay k) = false := by simpa using hbad
                    have HG := hide hbf
                    have e1 : ¬ nth pay k < -999 := by unfold badP at hbf; simp at hbf; omega
                    have e2 : ¬ 999 < nth pay k := by unfold badP at hbf; simp at hbf; omega
                    clear hbad hbf
                    go_wp2
                    refine ⟨⟨k + 1, by omega, by go_num, fun t ht => ?_⟩, by simp [intOf]; omega⟩
                    by_cases e : t = k
                    · subst e; exact unhide HG
                    · exact unhide HJ t (by omega)
                · have HF := hide (unhide HNX (unhide HX0 (any_no (fun t ht => unhide HJ t (by have := unhide HLP; omega)))))
                  go_wp2
                  exact ⟨⟨HBA, i + 1, by omega, by go_num, HF⟩, by simp [intOf]; omega⟩
            · have HX1 : Hid (NE = 1) := unhide HE1 (by unfold endB; simp; omega) (by unfold movB; simp)
              by_cases hp0 : pl = 0
              · subst hp0
                have e2 : ((qn : Int) == (Q : Int)) = false := by simp; omega
                have HF := hide (unhide HB (by have := unhide HX1; omega))
                clear hen
                go_wp2
                go_ret
                exact unhide HF _ (unhide HBA) 1 (unhide HX1)
              · have e1 : (pl == 0) = false := by simpa using hp0
                have e1' : (pl != 0) = true := by simpa using hp0
                have HF := hide (unhide HB (by have := unhide HX1; omega))
                clear hen hp0
                go_wp2
                go_ret
                exact unhide HF _ (unhide HBA) 1 (unhide HX1)
          · have hk1 : 0 < kn := by omega
            obtain ⟨p0, p1, p2⟩ := unhide HP0 _ (Below.refl _ _)
            have hke : ((kn : Int) == 0) = false := by simp; omega
            by_cases hmv : 0 ≤ pl ∧ pl < Q ∧ qn = 0 ∧ kn ≤ 5
            · obtain ⟨m0, m1, m2, m3⟩ := hmv
              subst m2
              have hnn : ¬ (endB (Q : Int) pl kn 0 = false ∧ movB (Q : Int) pl kn 0 = false) := by rintro ⟨-, q⟩; unfold movB at q; simp at q; omega
              have hpay : pay.any badP = false := any_no (fun t ht => by have := unhide HLP; omega)
              have HX8 : Hid (∀ j, j < kn → BadKid n i kids j → NE = 8) := fun j hj hb => unhide HE8 hnn hpay j (by have := unhide HLK; omega) hb
              have HX0 : Hid ((∀ j, j < kn → ¬ BadKid n i kids j) → NE = 0) := fun q => unhide HE0 hnn hpay (fun j hj => q j (by have := unhide HLK; omega))
              have e1 : decide (pl < 0) = false := by simp; omega
              have e2 : decide ((Q : Int) ≤ pl) = false := by simp; omega
              clear hnn hpay HE1 HE9 HE8 HE0
              go_wp2_with fail
              generalize hWA : wr.alloc (.cells #[.int .i64 pl, .slice ka kn kc, .slice qa 0 qc] 51) = WA at *
              have hszA : wr.heap.size < WA.heap.size := by rw [← hWA]; simp
              clear hWA
              go_loopw [6] (fun j wz => Hid (Below WA.heap.size WA wz) ∧ ∃ k : Nat, k ≤ kn ∧ j = .int .i64 k ∧ Hid (∀ t, t < k → ¬ BadKid n i kids t)) (fun j _ => kn - (intOf j).toNat)
              case atStart => exact ⟨Below.refl _ _, 0, Nat.zero_le _, rfl, fun t ht => by omega⟩
              case round =>
                obtain ⟨HBs, k, hk, rfl, HJ⟩ := hrel
                rename World => wz
                have HBs3 := hide ((unhide HBA).trans ((unhide HBs).mono (unhide HBA).size))
                obtain ⟨r0, r1, r2⟩ := unhide HP0 wz (unhide HBs)
                obtain ⟨s0, s1⟩ := unhide HBX0 wz (unhide HBs3)
                by_cases hkl2 : k < kn
                · obtain ⟨kb, ko, eka, hkb, hkc'⟩ := ((unhide HMk).later (unhide HBs3)).nth (by omega)
                  have z := hkc' k hkl2
                  have HKC := hide hkc'
                  have HUP : Hid (∀ t, t < k → (i : Int) < nth kids t) := fun t ht => by
                    have hh : ∀ t, t < k → (i : Int) < nth kids t := by
                      intro t
                      induction t with
                      | zero => intro ht; have := unhide HJ 0 ht; unfold BadKid at this; rw [ahd] at this; omega
                      | succ t ih => intro ht; have := unhide HJ (t + 1) ht; have := ih (by omega); unfold BadKid at *; rw [ahd] at *; omega
                    exact hh t ht
                  clear hkc'
                  subst eka
                  by_cases b1 : nth kids k ≤ i
                  · have HBK : Hid (BadKid n i kids k) := by
                      show BadKid n i kids k
                      unfold BadKid
                      cases k with
                      | zero => exact .inl b1
                      | succ k =>
                        have := unhide HUP k (by omega)
                        rw [ahd]; omega
                    have e3 : decide (nth kids k ≤ (i : Int)) = true := by simpa using b1
                    clear b1
                    have HX := hide (unhide HX8 k hkl2 (unhide HBK))
                    have HF := hide (unhide HB (by have := unhide HX; omega))
                    go_wp2_with fail
                    go_quiet (fail)
                    go_wp2_with fail
                    go_ret
                    exact unhide HF _ ((unhide HBs3).trans ((below_drewN _ wz nq).mono (unhide HBs3).size)) 8 (unhide HX)
                  · have e3 : decide (nth kids k ≤ (i : Int)) = false := by simpa using b1
                    by_cases b2 : (n : Int) ≤ nth kids k
                    · have HBK : Hid (BadKid n i kids k) := .inr b2
                      have e4 : decide ((n : Int) ≤ nth kids k) = true := by simpa using b2
                      clear b1 b2
                      have HX := hide (unhide HX8 k hkl2 (unhide HBK))
                      have HF := hide (unhide HB (by have := unhide HX; omega))
                      go_wp2_with fail
                      go_quiet (fail)
                      go_wp2_with fail
                      go_ret
                      exact unhide HF _ ((unhide HBs3).trans ((below_drewN _ wz nq).mono (unhide HBs3).size)) 8 (unhide HX)
                    · have e4 : decide ((n : Int) ≤ nth kids k) = false := by simpa using b2
                      cases k with
                      | zero =>
                        have z' := z
                        simp only [Nat.add_zero] at z'
                        have HG : Hid (¬ BadKid n i kids 0) := by
                          show ¬ BadKid n i kids 0
                          unfold BadKid; rw [ahd]; omega
                        clear b1 b2
                        go_wp2_with fail
                        go_quiet (fail)
                        go_wp2_with fail
                        refine ⟨⟨(unhide HBs).trans ((below_drewN _ wz nq).mono (unhide HBs).size), 0 + 1, by omega, by go_num, fun t ht => ?_⟩, by simp [intOf]; omega⟩
                        by_cases e : t = 0
                        · subst e; exact unhide HG
                        · exact unhide HJ t (by omega)
                      | succ k =>
                        have z2 := unhide HKC k (by omega)
                        by_cases b3 : nth kids (k + 1) ≤ nth kids k
                        · have HBK : Hid (BadKid n i kids (k + 1)) := .inl b3
                          have e5 : decide (nth kids (k + 1) ≤ nth kids k) = true := by simpa using b3
                          clear b1 b2 b3
                          have HX := hide (unhide HX8 (k + 1) hkl2 (unhide HBK))
                          have HF := hide (unhide HB (by have := unhide HX; omega))
                          go_wp2_with fail
                          go_quiet (fail)
                          go_wp2_with fail
                          go_ret
                          exact unhide HF _ ((unhide HBs3).trans ((below_drewN _ wz nq).mono (unhide HBs3).size)) 8 (unhide HX)
                        · have e5 : decide (nth kids (k + 1) ≤ nth kids k) = false := by simpa using b3
                          have HG : Hid (¬ BadKid n i kids (k + 1)) := by
                            show ¬ BadKid n i kids (k + 1)
                            unfold BadKid; rw [ahd]; omega
                          clear b1 b2 b3
                          go_wp2_with fail
                          go_quiet (fail)
                          go_wp2_with fail
                          refine ⟨⟨(unhide HBs).trans ((below_drewN _ wz nq).mono (unhide HBs).size), k + 1 + 1, by omega, by go_num, fun t ht => ?_⟩, by simp [intOf]; omega⟩
                          by_cases e : t = k + 1
                          · subst e; exact unhide HG
                          · exact unhide HJ t (by omega)
                · have HF := hide (unhide HNX (unhide HX0 (fun j hj => unhide HJ j (by omega))))
                  go_wp2
                  exact ⟨⟨HBs3, i + 1, by omega, by go_num, HF⟩, by simp [intOf]; omega⟩
            · have HX1 : Hid (NE = 1) := unhide HE1 (by unfold endB; simp; omega) (by unfold movB; simp; omega)
              by_cases m0 : 0 ≤ pl
              · have e1 : decide (pl < 0) = false := by simp; omega
                by_cases m1 : pl < Q
                · have e2 : decide ((Q : Int) ≤ pl) = false := by simp; omega
                  by_cases m2 : qn = 0
                  · subst m2
                    have m3 : 5 < kn := by omega
                    clear hmv
                    have HF := hide (unhide HB (by have := unhide HX1; omega))
                    go_wp2
                    go_ret
                    exact unhide HF _ (unhide HBA) 1 (unhide HX1)
                  · have m2' : 0 < qn := by omega
                    clear hmv
                    have HF := hide (unhide HB (by have := unhide HX1; omega))
                    go_wp2
                    go_ret
                    exact unhide HF _ (unhide HBA) 1 (unhide HX1)
                · have e2 : decide ((Q : Int) ≤ pl) = true := by simp; omega
                  clear hmv
                  have HF := hide (unhide HB (by have := unhide HX1; omega))
                  go_wp2
                  go_ret
                  exact unhide HF _ (unhide HBA) 1 (unhide HX1)
              · have e1 : decide (pl < 0) = true := by simp; omega
                clear hmv
                have HF := hide (unhide HB (by have := unhide HX1; omega))
                go_wp2
                go_ret
                exact unhide HF _ (unhide HBA) 1 (unhide HX1)
        · obtain rfl : n = i := by omega
          have h3 : neE Q n L n 0 = 0 := by have := unhide HI; rw [this, Nat.sub_self]; rfl
          have hall := neE_all n 0 h3
          have HM : Hid (tmE Q n L = mkE n L) := unhide RM h3
          have HBB := hide ((unhide HBW).trans ((unhide HBr).mono (unhide HBW).size))
          have HOC : Hid (∀ (x : Int) k, k < n → ∀ b : Bool, (b = true ↔ ∃ j, j < (ndAt L k).k.ln ∧ nth (ndAt L k).k.ints j = x) → par L x (k + 1) = par L x k + if b = true then 1 else 0) := fun x k hk b hb => by
            have hz := hall k (Nat.zero_le _) (by omega)
            have hr := nodeE_rise (((unhide HN).mem hk).1.1) hz
            obtain ⟨o1, o2⟩ := occ_rise (v := x) hr (ndAt L k).k.ln (Nat.le_refl _)
            rw [par]
            by_cases e : b = true
            · rw [o1 (hb.1 e), if_pos e]
            · rw [o2 (fun q => e (hb.2 q)), if_neg e]
          have HPL : Hid (∀ (x : Int) k, k ≤ n → par L x k ≤ 5 * k) := fun x k hk => par_le (fun j hj => by
            have := nodeE_in (((unhide HN).mem hj).1.1) (hall j (Nat.zero_le _) (by omega))
            exact ⟨this.1, fun t ht => by have := this.2 t ht; omega⟩) x k hk
          clear h3 hall RM RN HI HBAD
          go_wp2
          go_loop [7, 8, 9, 10] (fun xv _ _ _ => ∃ x : Nat, 1 ≤ x ∧ x ≤ n ∧ xv = .int .i64 x ∧ Hid (∀ v : Nat, 1 ≤ v → v < x → par L v n = 1)) (fun xv _ _ _ => n - (intOf xv).toNat)
          case atStart => exact ⟨1, Nat.le_refl _, n1, rfl, fun v h1 h2 => by omega⟩
          case round =>
            obtain ⟨x, x1, hx, rfl, HJ⟩ := hrel
            by_cases hxl : x < n
            · go_wp2
              go_loop [8, 9, 10] (fun cv iv _ => ∃ k : Nat, k ≤ n ∧ iv = .int .i64 k ∧ cv = .int .i64 ((par L x k : Nat) : Int)) (fun _ iv _ => n - (intOf iv).toNat)
              case atStart => exact ⟨0, Nat.zero_le _, rfl, rfl⟩
              case round =>
                obtain ⟨k, hk, rfl, rfl⟩ := hrel
                by_cases hkl2 : k < n
                · obtain ⟨-, c1, -⟩ := unhide HC _ (unhide HBr) k hkl2
                  have hK := ((unhide HN).mem hkl2).1.later (unhide HBr)
                  unfold SlIn at hK
                  have CI := hide (in_any _ _ _ _ (x : Int) wr hK)
                  have HO := hide (unhide HOC x k hkl2)
                  have hpb := unhide HPL x k hk
                  clear hK
                  go_wp2_with fail
                  refine (unhide CI).mono ?_
                  rintro e w4 ⟨b, rfl, hw4, hb⟩
                  subst w4
                  have HO2 := hide (unhide HO b hb)
                  clear hb
                  cases b with
                  | true =>
                    go_wp2
                    refine ⟨⟨k + 1, by omega, by go_num, ?_⟩, by simp [intOf]; omega⟩
                    have := unhide HO2
                    have h' : par L (↑x) (k + 1) = par L (↑x) k + 1 := by simpa using this
                    rw [h']; go_num
                  | false =>
                    go_wp2
                    refine ⟨⟨k + 1, by omega, by go_num, ?_⟩, by simp [intOf]; omega⟩
                    have := unhide HO2
                    have h' : par L (↑x) (k + 1) = par L (↑x) k := by simpa using this
                    rw [h']
                · obtain rfl : n = k := by omega
                  by_cases hp1 : par L x n = 1
                  · have hd : (((par L x n : Nat) : Int) == 1) = true := by simp; omega
                    have HP1 := hide hp1
                    clear hp1
                    go_wp2
                    refine ⟨⟨x + 1, by omega, by omega, by go_num, fun v v1 v2 => ?_⟩, by simp [intOf]; omega⟩
                    by_cases e : v = x
                    · subst e; exact unhide HP1
                    · exact unhide HJ v v1 (by omega)
                  · have hd : (((par L x n : Nat) : Int) == 1) = false := by simp; omega
                    have HF : Hid (tmE Q n L = 11) := (unhide HM).trans (mkE_no x1 hxl hp1)
                    clear hp1
                    go_wp2
                    go_ret
                    exact ⟨ret_int (unhide HF).symm, unhide HBB⟩
            · have HF : Hid (tmE Q n L = 0) := (unhide HM).trans (mkE_yes (fun v v1 v2 => unhide HJ v v1 (by omega)))
              go_wp2
              go_ret
              exact ⟨ret_int (unhide HF).symm, unhide HBB⟩
end Go.Proofs.Ytbcchbhchfdbiaa
