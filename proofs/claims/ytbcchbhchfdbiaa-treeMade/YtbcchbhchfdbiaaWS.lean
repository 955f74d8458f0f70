import Derived.Test.YtbcchbhchfdbiaaWR
namespace Go.Proofs.Ytbcchbhchfdbiaa
open Go.RowKit Go.Shelf
attribute [local go_sem] Oper.semAt_some
/-- One gets more from a kid on. -/
def Bad1 (L : List Nd) (ge : Nat → Sl) (j i : Nat) : Prop := nth (ge j).ints (ndAt L j).pl.toNat < nth (ge (kd L j i)).ints (ndAt L j).pl.toNat
/-- What Single answers. -/
def SingP (w : World) (P : Int) (n : Nat) (L : List Nd) (q : List Int) (e : Ending) (w' : World) : Prop :=
  Below w.heap.size w w' ∧ (mcE P n L q ≠ 0 → e = .returned (.tuple #[.bool false, .int .i64 (mcE P n L q)])) ∧
  (mcE P n L q = 0 → ∃ ch ge, Done L n 0 (CHC q) (kd L) ch ge ∧
    ((∃ j i : Nat, j < n ∧ i < (ndAt L j).k.ln ∧ Bad1 L ge j i ∧ e = .returned (.tuple #[.bool false, .int .i64 0])) ∨
     ((∀ j i : Nat, j < n → i < (ndAt L j).k.ln → ¬ Bad1 L ge j i) ∧ e = .returned (.tuple #[.bool true, .int .i64 0]))))
set_option maxRecDepth 100000 in
set_option maxHeartbeats 4000000 in
theorem single_any (P : Int) (a : Option Addr) (n c : Nat) (L : List Nd) (qa : Option Addr) (qn qc : Nat) (q : List Int) (w : World) (h : Nodes w a n c L) (hq : Ints w qa qn qc q) :
    Calls Try.prog 16 #[tV P a n c, .slice qa qn qc] w (SingP w P n L q) := by
  obtain ⟨W, hW, hbW, hlt0, hbox⟩ := tbox (w := w) P a n c
  have HW := hide hW
  have HBW := hide hbW
  have HBX0 := hide hbox
  have w0 := (hbox W (Below.refl _ _)).1
  have w1 := (hbox W (Below.refl _ _)).2
  have hN := h.later hbW
  have hQ := hq.later hbW
  have CM := hide (mayChoose_any P a n c L qa qn qc q W hN hQ)
  have hc1 := h.2.1
  have hc2 := h.2.2.1
  unfold maxLen at hc2
  by_cases hm : mcE P n L q = 0
  · obtain ⟨hm1, hm2, hm3⟩ := mcE_ok hm
    obtain ⟨p, rfl, hT⟩ := gt_of h hm1
    have HM := hide hm
    rw [hm] at CM
    obtain rfl : qn = n := hq.1.trans hm2
    have n40 := hT.n40
    have n1 := hT.n1
    have p5 := hT.P5
    have HT := hide hT
    have HN := hide hN
    have HBYC : Hid (∀ wr, Below W.heap.size W wr → Calls Try.prog 35 #[tV p a qn c, .slice qa qn qc] wr (GetP wr qn L (CHC q))) := fun wr hb => byChoices_any p a qn c L qa qc q wr (hN.later hb) hT (hQ.later hb) hm3
    unfold tV at CM HBYC ⊢
    clear h hW hbW hbox hN hT hm hQ hq hm1 hm2 hm3
    go_enter Try.func16, Try.ntmps16
    go_wp2_with fail
    rw [unhide HW]
    go_wp2_with fail
    refine (unhide CM).mono ?_
    rintro e w2 ⟨rfl, hb2⟩
    have HB2 := hide hb2
    obtain ⟨v0, v1⟩ := unhide HBX0 w2 hb2
    have HS := hide (unhide HBYC w2 hb2)
    clear hb2 w0 w1
    go_wp2_with fail
    refine (unhide HS).mono ?_
    rintro e w3 ⟨gg, ch, ge, rfl, g1, rG, hD, hb3⟩
    have hb23 : Below W.heap.size W w3 := (unhide HB2).trans (hb3.mono (unhide HB2).size)
    have HBR := hide ((unhide HBW).trans (hb23.mono (unhide HBW).size))
    have HG := hide rG
    have HD := hide hD
    have HN3 := hide ((unhide HN).later hb23)
    obtain ⟨u0, u1⟩ := unhide HBX0 w3 hb23
    obtain ⟨nb, no, ea, hnb, hncell⟩ := (unhide HN3).cellAt (by omega)
    have HC := hide hncell
    subst ea
    clear hb3 g1 rG hD v0 v1 hb23 HS hncell
    go_wp2_with fail
    go_loopw [24, 9, 8, 11] (fun i _ _ _ wr => Hid (Below w3.heap.size w3 wr) ∧ ∃ k : Nat, k ≤ qn ∧ i = .int .i64 k ∧ Hid (∀ j i : Nat, j < k → i < (ndAt L j).k.ln → ¬ Bad1 L ge j i)) (fun i _ _ _ _ => qn - (intOf i).toNat)
    case atStart => exact ⟨Below.refl _ _, 0, Nat.zero_le _, rfl, fun j i h => by omega⟩
    case round =>
      obtain ⟨HBr, j, hj, rfl, HI⟩ := hrel
      by_cases hlt : j < qn
      · obtain ⟨c0, c1, c2⟩ := unhide HC _ (unhide HBr) j hlt
        have hM := ((unhide HN3).mem hlt).1
        have HM3 := hide hM
        have hkl := hM.2.1
        have hkm := hM.2.2.1
        unfold maxLen at hkm
        have HKD := hide (fun i hi => (unhide HT).kid j hlt i hi)
        have HKL := hide (fun i hi => (unhide HT).klt j hlt i hi)
        have HMV := hide ((unhide HT).mover j hlt)
        have HB1 : Hid (∀ i, Bad1 L ge j i ↔ nth (ge j).ints (ndAt L j).pl.toNat < nth (ge (kd L j i)).ints (ndAt L j).pl.toNat) := fun i => Iff.rfl
        have HI2 : Hid (∀ (hh : ∀ i, i < (ndAt L j).k.ln → ¬ Bad1 L ge j i) (j' i : Nat), j' < j + 1 → i < (ndAt L j').k.ln → ¬ Bad1 L ge j' i) := fun hh j' i h1 h2 => by
          by_cases e : j' = j
          · subst e; exact hh i h2
          · exact unhide HI j' i (by omega) h2
        have HNO : Hid (∀ i, i < (ndAt L j).k.ln → Bad1 L ge j i → ∀ w', Below w3.heap.size w3 w' → SingP w p qn L q (.returned (.tuple #[.bool false, .int .i64 0])) w') := fun i hi hb w' hw' => ⟨(unhide HBR).trans (hw'.mono (unhide HBR).size), fun z => absurd (unhide HM) z, fun _ => ⟨ch, ge, unhide HD, .inl ⟨j, i, hlt, hi, hb, rfl⟩⟩⟩
        clear hM HI
        generalize ndAt L j = d at *
        obtain ⟨pl, ⟨ka, kn, kc, kids⟩, ⟨qa', qn', qc', pay⟩⟩ := d
        unfold SlIn at HM3
        simp only at c0 c1 c2 HM3 hkl hkm HKD HKL HMV HB1 HI2 HNO
        go_wp2
        have hbA : Below wr.heap.size wr (wr.alloc (.cells #[.int .i64 pl, .slice ka kn kc, .slice qa' qn' qc'] 51)) := by go_grown
        have HBA : Hid (Below w3.heap.size w3 (wr.alloc (.cells #[.int .i64 pl, .slice ka kn kc, .slice qa' qn' qc'] 51))) := (unhide HBr).trans (hbA.mono (unhide HBr).size)
        have HP0 : Hid (∀ wz, Below (wr.alloc (.cells #[.int .i64 pl, .slice ka kn kc, .slice qa' qn' qc'] 51)).heap.size (wr.alloc (.cells #[.int .i64 pl, .slice ka kn kc, .slice qa' qn' qc'] 51)) wz → wz.cell? ⟨wr.heap.size, 0, none⟩ = some (.int .i64 pl)) := fun wz hz => (hz.cell (p := ⟨wr.heap.size, 0, none⟩) (by simp)).trans (by simp [World.cell?_alloc_at])
        generalize hWA : wr.alloc (.cells #[.int .i64 pl, .slice ka kn kc, .slice qa' qn' qc'] 51) = WA at *
        have hsz : wr.heap.size < WA.heap.size := by rw [← hWA]; simp
        clear hbA hWA
        go_loopw [32, 11] (fun i _ wz => Hid (Below WA.heap.size WA wz) ∧ ∃ k : Nat, k ≤ kn ∧ i = .int .i64 k ∧ Hid (∀ i, i < k → ¬ Bad1 L ge j i)) (fun i _ _ => kn - (intOf i).toNat)
        case atStart => exact ⟨Below.refl _ _, 0, Nat.zero_le _, rfl, fun i h => by omega⟩
        case round =>
          obtain ⟨HBs, i, hi, rfl, HJ⟩ := hrel
          have HBs3 := hide ((unhide HBA).trans ((unhide HBs).mono (unhide HBA).size))
          by_cases hil : i < kn
          · have hmv := unhide HMV (by omega)
            have hp0 := hmv.1
            have hp1 := hmv.2.1
            have hwp : pl.toNat < p := by omega
            rename World => wz
            have y0 := unhide HP0 wz (unhide HBs)
            have hNs := (unhide HN3).later (unhide HBs3)
            have hGs := (unhide HG).keep ((unhide HBs3).block gg (unhide HG).1) (unhide HBs3).size
            obtain ⟨kb, ko, eka, hkb, hkc'⟩ := ((unhide HM3).later (unhide HBs3)).nth (by omega)
            have z1 := hkc' i hil
            rw [unhide HKD i hil] at z1
            have hkk := unhide HKL i hil
            obtain ⟨x4, -⟩ := hGs.2 j hlt
            obtain ⟨b2, o2, e5, x5, e6, e7, e8⟩ := get_cell hNs (unhide HT) (unhide HD) hlt hwp
            rw [e5, e6] at x4
            obtain ⟨x6, -⟩ := hGs.2 (kd L j i) hkk
            obtain ⟨b3, o3, e9, x7, e10, e11, e12⟩ := get_cell hNs (unhide HT) (unhide HD) hkk hwp
            rw [e9, e10] at x6
            have hB1 := unhide HB1 i
            have hb1' := unhide HNO i hil
            clear hmv hNs hGs hkc' e5 e6 e9 e10
            subst eka
            generalize hA : (ge (kd L j i)).lc = lc1 at *
            generalize hB : (ge j).lc = lc2 at *
            clear hA hB
            by_cases hbad : Bad1 L ge j i
            · have HF := hide (hb1' hbad)
              have hd : decide (nth (ge j).ints pl.toNat < nth (ge (kd L j i)).ints pl.toNat) = true := by simpa using hB1.1 hbad
              clear hbad hB1 hb1'
              generalize nth (ge j).ints pl.toNat = m1 at *
              generalize nth (ge (kd L j i)).ints pl.toNat = m2 at *
              generalize kd L j i = kk at *
              go_wp2_with fail
              go_quiet (fail)
              go_wp2_with fail
              go_ret2
              exact unhide HF _ ((unhide HBs3).trans ((below_drewN _ wz nq).mono (unhide HBs3).size))
            · have HF := hide hbad
              have hd : decide (nth (ge j).ints pl.toNat < nth (ge (kd L j i)).ints pl.toNat) = false := by simpa using fun q => hbad (hB1.2 q)
              clear hbad hB1 hb1'
              generalize nth (ge j).ints pl.toNat = m1 at *
              generalize nth (ge (kd L j i)).ints pl.toNat = m2 at *
              generalize kd L j i = kk at *
              go_wp2_with fail
              go_quiet (fail)
              go_wp2_with fail
              refine ⟨⟨(unhide HBs).trans ((below_drewN _ wz nq).mono (unhide HBs).size), i + 1, by omega, by go_num, fun y hy => ?_⟩, by simp [intOf]; omega⟩
              by_cases e : y = i
              · subst e; exact unhide HF
              · exact unhide HJ y (by omega)
          · obtain rfl : kn = i := by omega
            have HF := hide (unhide HI2 (unhide HJ))
            go_wp2_with fail
            exact ⟨⟨HBs3, j + 1, by omega, by go_num, HF⟩, by simp [intOf]; omega⟩
      · obtain rfl : qn = j := by omega
        go_wp2
        go_ret2
        exact ⟨(unhide HBR).trans ((unhide HBr).mono (unhide HBR).size), fun z => absurd (unhide HM) z, fun _ => ⟨ch, ge, unhide HD, .inr ⟨unhide HI, rfl⟩⟩⟩
  · have HM := hide hm
    have hmd : (mcE P n L q == 0) = false := by simpa using hm
    unfold tV at CM ⊢
    clear h hW hbW hbox hN hm hQ hq
    generalize hT : mcE P n L q = T at *
    have HT := hide hT
    clear hT
    go_enter Try.func16, Try.ntmps16
    go_wp2_with fail
    rw [unhide HW]
    go_wp2_with fail
    refine (unhide CM).mono ?_
    rintro e w2 ⟨rfl, hb2⟩
    have HB2 := hide hb2
    clear hb2 w0 w1
    go_wp2
    go_ret2
    exact ⟨(unhide HBW).trans ((unhide HB2).mono (unhide HBW).size), fun _ => by rw [unhide HT]; rfl, fun z => absurd ((unhide HT).symm.trans z) (unhide HM)⟩
end Go.Proofs.Ytbcchbhchfdbiaa
