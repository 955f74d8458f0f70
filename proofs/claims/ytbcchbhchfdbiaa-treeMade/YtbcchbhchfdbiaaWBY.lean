import Derived.Test.YtbcchbhchfdbiaaWG9
import Derived.Test.YtbcchbhchfdbiaaWGB
namespace Go.Proofs.Ytbcchbhchfdbiaa
open Go.RowKit Go.Shelf
attribute [local go_sem] Oper.semAt_some
set_option maxRecDepth 100000 in
set_option maxHeartbeats 8000000 in
theorem normalR_any (P : Int) (a : Option Addr) (n c : Nat) (L : List Nd) (w : World) (h : Nodes w a n c L) (hpl : plN L n ≤ 300) :
    Calls Try.prog 41 #[tV P a n c] w (NormP w P n L) := by
  obtain ⟨W, hW, hbW, hsW, hbox⟩ := nbox (w := w) P a n c
  have HW := hide hW
  have HBW := hide hbW
  have HBX := hide hbox
  have hN := h.later hbW
  have HN := hide hN
  have CM := hide (treeMay_any P a n c L W hN)
  have hc1 := h.2.1
  have hc2 := h.2.2.1
  unfold maxLen at hc2
  have w0 := (hbox W (Below.refl _ _)).1
  have w1 := (hbox W (Below.refl _ _)).2.1
  have HERR : Hid (∀ wr, Below W.heap.size W wr → nmE P n L ≠ 0 → NormP w P n L (.returned (.tuple #[.agg #[.slice none 0 0, .slice none 0 0], .int .i64 (nmE P n L)])) ((wr.setCell ⟨w.heap.size + 1, 0, none⟩ (.slice none 0 0)).setCell ⟨w.heap.size + 1, 1, none⟩ (.slice none 0 0))) := fun wr hr hne => by
    have hb := hbW.trans (hr.mono hbW.size)
    exact norm_err ((hb.setCell (p := ⟨w.heap.size + 1, 0, none⟩) (Nat.le_succ _) _).setCell (p := ⟨w.heap.size + 1, 1, none⟩) (Nat.le_succ _) _) hne
  by_cases hm : tmE P n L = 0
  · rw [hm] at CM
    have HM := hide hm
    by_cases hP : P = 2
    · subst hP
      obtain ⟨p2, hp2, hT⟩ := gt_of h hm
      obtain rfl : p2 = 2 := by omega
      have n40 := hT.n40
      have n1 := hT.n1
      have HT := hide hT
      have HPL := hide hpl
      have hmk := fun X => mk25 (n := n) n40 X
      obtain ⟨nb, no, ea, hnb, hncell⟩ := hN.cellAt (by omega)
      subst ea
      have HC := hide hncell
      unfold tV at CM ⊢
      clear h hW hbW hbox hN hm hT hpl hncell hp2
      go_enter Try.func41, Try.ntmps41
      go_wp2_with fail
      rw [unhide HW]
      go_wp2_with fail
      refine (unhide CM).mono ?_
      rintro e w2 ⟨rfl, hb2⟩
      have HB2 := hide hb2
      have hbA : Below w2.heap.size w2 (w2.alloc (.cells #[.int .i64 1, .int .i64 1] 3)) := by go_grown
      have HBA := hide hbA
      have HGA : Hid ((w2.alloc (.cells #[.int .i64 1, .int .i64 1] 3)).heap[w2.heap.size]? = some (.cells #[.int .i64 ((1 : Nat) : Int), .int .i64 ((1 : Nat) : Int)] 3 (0, 0))) := World.alloc_heap_new _ _
      obtain ⟨v0, v1, -⟩ := unhide HBX w2 hb2
      have HB2x : Hid (∀ wr, Below w2.heap.size w2 wr → Below W.heap.size W wr) := fun wr hr => (unhide HB2).trans (hr.mono (unhide HB2).size)
      clear hb2 hbA w0 w1
      go_wp2_with fail
      go_loopw [6] (fun iv wr => Hid (Below w2.heap.size w2 wr) ∧ ∃ (i m0 m1 : Nat), i ≤ n ∧ iv = .int .i64 (i : Int) ∧ Hid (wr.heap[w2.heap.size]? = some (.cells #[.int .i64 (m0 : Int), .int .i64 (m1 : Int)] 3 (0, 0))) ∧ (pnL L 0 (lF n (fun _ => 0)) i).length = m0 ∧ (pnL L 1 (lF n (fun _ => 0)) i).length = m1) (fun iv _ => n - (intOf iv).toNat)
      case atStart => exact ⟨HBA, 0, 1, 1, Nat.zero_le _, rfl, HGA, rfl, rfl⟩
      case round =>
        clear HBA HGA v0 v1
        obtain ⟨HBr, i, m0, m1, hi, rfl, HGr, hm0, hm1⟩ := hrel
        obtain ⟨v0, v1, -⟩ := unhide HBX wr (unhide HB2x wr (unhide HBr))
        have y0 := (cell_in' (unhide HGr) 0)
        have y1 := (cell_in' (unhide HGr) 1)
        simp at y0 y1
        have hsz := blk_lt (unhide HGr)
        have hl25 : m0 ≤ 25 ∧ m1 ≤ 25 := by
          have hk : ∀ who i, (ndAt L i).k.ln ≤ 5 ∨ ¬ WM L who i := fun who i => by
            by_cases e : i < n
            · exact .inl ((unhide HT).k5 i e)
            · refine .inr (fun q => ?_)
              have : ndAt L i = ndNone := by unfold ndAt; rw [List.getElem?_eq_none (by have := (unhide HT).len; omega)]; rfl
              have h2 := q.2
              rw [this] at h2
              exact absurd (show 0 < 0 from h2) (by omega)
          rw [← hm0, ← hm1]
          exact ⟨pnL_le (hk 0) i, pnL_le (hk 1) i⟩
        by_cases hlt : i < n
        · obtain ⟨c0, c1, -⟩ := unhide HC wr (unhide HB2x wr (unhide HBr)) i hlt
          have hM := (((unhide HN).later (unhide HB2x wr (unhide HBr))).mem hlt).1
          have hkl := hM.2.1
          have hkm := hM.2.2.1
          unfold maxLen at hkm
          have k5 := (unhide HT).k5 i hlt
          have HMV := hide ((unhide HT).mover i hlt)
          have HY0 : Hid ((ndAt L i).pl = 0 ∧ 0 < (ndAt L i).k.ln → m0 ≤ 5 → (pnL L 0 (lF n (fun _ => 0)) (i + 1)).length = m0 * (ndAt L i).k.ln) := fun hw h5 => by rw [pnL_len_yes (show WM L 0 i from hw) (by omega), hm0]
          have HY1 : Hid ((ndAt L i).pl = 1 ∧ 0 < (ndAt L i).k.ln → m1 ≤ 5 → (pnL L 1 (lF n (fun _ => 0)) (i + 1)).length = m1 * (ndAt L i).k.ln) := fun hw h5 => by rw [pnL_len_yes (show WM L 1 i from hw) (by omega), hm1]
          have HO0 : Hid (¬ ((ndAt L i).pl = 0 ∧ 0 < (ndAt L i).k.ln) → (pnL L 0 (lF n (fun _ => 0)) (i + 1)).length = m0) := fun hn => by rw [pnL_no (fun q => hn q.1)]; exact hm0
          have HO1 : Hid (¬ ((ndAt L i).pl = 1 ∧ 0 < (ndAt L i).k.ln) → (pnL L 1 (lF n (fun _ => 0)) (i + 1)).length = m1) := fun hn => by rw [pnL_no (fun q => hn q.1)]; exact hm1
          have HN0 : Hid (¬ m0 ≤ 5 → (pnL L 0 (lF n (fun _ => 0)) (i + 1)).length = m0) := fun hn => by rw [pnL_no (fun q => hn (by have := q.2; omega))]; exact hm0
          have HN1 : Hid (¬ m1 ≤ 5 → (pnL L 1 (lF n (fun _ => 0)) (i + 1)).length = m1) := fun hn => by rw [pnL_no (fun q => hn (by have := q.2; omega))]; exact hm1
          clear hM hm0 hm1
          generalize ndAt L i = d at *
          obtain ⟨pl, ⟨ka, kn, kc, kids⟩, pp⟩ := d
          simp only at c0 c1 hkl hkm k5 HMV HY0 HY1 HO0 HO1
          by_cases hk0 : kn = 0
          · subst hk0
            have HF : Hid ((pnL L 0 (lF n (fun _ => 0)) (i + 1)).length = m0 ∧ (pnL L 1 (lF n (fun _ => 0)) (i + 1)).length = m1) := ⟨unhide HO0 (by omega), unhide HO1 (by omega)⟩
            go_wp2_with fail
            exact ⟨⟨HBr, i + 1, m0, m1, by omega, by go_num, HGr, (unhide HF).1, (unhide HF).2⟩, by simp [intOf]; omega⟩
          have hk1 : 0 < kn := by omega
          have d1 : decide ((0 : Int) < (kn : Int)) = true := by simp; omega
          have hmv := unhide HMV hk1
          rcases (show pl = 0 ∨ pl = 1 by omega) with hpl | hpl
          ·
            subst hpl
            by_cases h5 : m0 ≤ 5
            · have HF : Hid ((pnL L 0 (lF n (fun _ => 0)) (i + 1)).length = m0 * kn ∧ (pnL L 1 (lF n (fun _ => 0)) (i + 1)).length = m1) := by
                have y := unhide HY0 (by omega) h5
                have z := unhide HO1 (by omega)
                exact ⟨y, z⟩
              have hmul : m0 * kn ≤ 25 := by have := Nat.mul_le_mul h5 k5; omega
              have hmi : wrap64 ((m0 : Int) * (kn : Int)) = (m0 : Int) * (kn : Int) := by rw [mul_wrap hmul]; simp
              have hmi2 : IntKind.i64.wrap ((m0 : Int) * (kn : Int)) = (m0 : Int) * (kn : Int) := mul_wrap2 hmul
              have HB3 : Hid (Below w2.heap.size w2 ((wr.setCell ⟨w2.heap.size, 0, none⟩ (.int .i64 ((m0 : Int) * (kn : Int)))).drew)) := ((unhide HBr).setCell (p := ⟨w2.heap.size, 0, none⟩) (Nat.le_refl _) _).drew
              have HG3 : Hid (((wr.setCell ⟨w2.heap.size, 0, none⟩ (.int .i64 ((m0 : Int) * (kn : Int)))).drew).heap[w2.heap.size]? = some (.cells #[.int .i64 ((m0 * kn : Nat) : Int), .int .i64 ((m1 : Nat) : Int)] 3 (0, 0))) := by
                show _ = _
                rw [Int.natCast_mul]
                show (World.setCell _ _ _).heap[w2.heap.size]? = _
                rw [heap_setCell_same _ _ _ _ _ _ (unhide HGr)]; rfl
              have d5 : decide ((m0 : Int) ≤ 5) = true := by simp; omega
              go_wp2_with fail
              refine wp_region_still_tail 25 (by kernel_rfl) (by kernel_rfl) ?_
              simp only [List.take_succ_cons, List.take_zero, List.drop_succ_cons, List.drop_zero]
              show wpStill Try.prog _ wr.drew (fun a' => wpList Try.prog _ _ _ a' wr.drew) _ _
              iterate 25 still_step
              refine wpStill_nil ?_
              go_wp2_with fail
              go_roundw
              case rel => exact ⟨HB3, i + 1, m0 * kn, m1, by omega, by go_num, HG3, (unhide HF).1, (unhide HF).2⟩
              case measure => simp [intOf]; omega
            · have HF : Hid ((pnL L 0 (lF n (fun _ => 0)) (i + 1)).length = m0 ∧ (pnL L 1 (lF n (fun _ => 0)) (i + 1)).length = m1) := by
                have y := unhide HN0 (by omega)
                have z := unhide HO1 (by omega)
                exact ⟨y, z⟩
              have d5 : decide ((m0 : Int) ≤ 5) = false := by simp; omega
              go_wp2_with fail
              exact ⟨⟨HBr, i + 1, m0, m1, by omega, by go_num, HGr, (unhide HF).1, (unhide HF).2⟩, by simp [intOf]; omega⟩
          ·
            subst hpl
            by_cases h5 : m1 ≤ 5
            · have HF : Hid ((pnL L 0 (lF n (fun _ => 0)) (i + 1)).length = m0 ∧ (pnL L 1 (lF n (fun _ => 0)) (i + 1)).length = m1 * kn) := by
                have y := unhide HY1 (by omega) h5
                have z := unhide HO0 (by omega)
                exact ⟨z, y⟩
              have hmul : m1 * kn ≤ 25 := by have := Nat.mul_le_mul h5 k5; omega
              have hmi : wrap64 ((m1 : Int) * (kn : Int)) = (m1 : Int) * (kn : Int) := by rw [mul_wrap hmul]; simp
              have hmi2 : IntKind.i64.wrap ((m1 : Int) * (kn : Int)) = (m1 : Int) * (kn : Int) := mul_wrap2 hmul
              have HB3 : Hid (Below w2.heap.size w2 ((wr.setCell ⟨w2.heap.size, 1, none⟩ (.int .i64 ((m1 : Int) * (kn : Int)))).drew)) := ((unhide HBr).setCell (p := ⟨w2.heap.size, 1, none⟩) (Nat.le_refl _) _).drew
              have HG3 : Hid (((wr.setCell ⟨w2.heap.size, 1, none⟩ (.int .i64 ((m1 : Int) * (kn : Int)))).drew).heap[w2.heap.size]? = some (.cells #[.int .i64 ((m0 : Nat) : Int), .int .i64 ((m1 * kn : Nat) : Int)] 3 (0, 0))) := by
                show _ = _
                rw [Int.natCast_mul]
                show (World.setCell _ _ _).heap[w2.heap.size]? = _
                rw [heap_setCell_same _ _ _ _ _ _ (unhide HGr)]; rfl
              have d5 : decide ((m1 : Int) ≤ 5) = true := by simp; omega
              go_wp2_with fail
              refine wp_region_still_tail 25 (by kernel_rfl) (by kernel_rfl) ?_
              simp only [List.take_succ_cons, List.take_zero, List.drop_succ_cons, List.drop_zero]
              show wpStill Try.prog _ wr.drew (fun a' => wpList Try.prog _ _ _ a' wr.drew) _ _
              iterate 25 still_step
              refine wpStill_nil ?_
              go_wp2_with fail
              go_roundw
              case rel => exact ⟨HB3, i + 1, m0, m1 * kn, by omega, by go_num, HG3, (unhide HF).1, (unhide HF).2⟩
              case measure => simp [intOf]; omega
            · have HF : Hid ((pnL L 0 (lF n (fun _ => 0)) (i + 1)).length = m0 ∧ (pnL L 1 (lF n (fun _ => 0)) (i + 1)).length = m1) := by
                have y := unhide HN1 (by omega)
                have z := unhide HO0 (by omega)
                exact ⟨z, y⟩
              have d5 : decide ((m1 : Int) ≤ 5) = false := by simp; omega
              go_wp2_with fail
              exact ⟨⟨HBr, i + 1, m0, m1, by omega, by go_num, HGr, (unhide HF).1, (unhide HF).2⟩, by simp [intOf]; omega⟩
        · obtain rfl : n = i := by omega
          have HW0 : Hid (m0 ≤ 5 → pnL L 0 (lF n (fun _ => 0)) n = wyL L 0 (lF n (fun _ => 0)) (List.range n) ∧ prW L 0 (List.range n) ≤ 5) := fun h5 => by
            have e := pnL_wy (L := L) (who := 0) (z := lF n (fun _ => 0)) n (.inl (by omega))
            refine ⟨e, ?_⟩
            rw [← wyL_len (q := lF n (fun _ => 0)), ← e]; omega
          have HW1 : Hid (m1 ≤ 5 → prW L 1 (List.range n) ≤ 5) := fun h5 => by
            have e := pnL_wy (L := L) (who := 1) (z := lF n (fun _ => 0)) n (.inl (by omega))
            rw [← wyL_len (q := lF n (fun _ => 0)), ← e]; omega
          have HV0 : Hid (prW L 0 (List.range n) ≤ 5 → m0 ≤ 5) := fun h5 => by
            have e := pnL_wy (L := L) (who := 0) (z := lF n (fun _ => 0)) n (.inr (by rw [wyL_len]; exact h5))
            rw [← hm0, e, wyL_len]; exact h5
          have HV1 : Hid (prW L 1 (List.range n) ≤ 5 → m1 ≤ 5) := fun h5 => by
            have e := pnL_wy (L := L) (who := 1) (z := lF n (fun _ => 0)) n (.inr (by rw [wyL_len]; exact h5))
            rw [← hm1, e, wyL_len]; exact h5
          have hBWr := unhide HB2x wr (unhide HBr)
          obtain ⟨-, -, rr⟩ := unhide HBX wr hBWr
          have HRR := hide rr
          have r0 := cell_in' rr 0
          have r1 := cell_in' rr 1
          simp at r0 r1
          by_cases h50 : m0 ≤ 5
          · by_cases h51 : m1 ≤ 5
            · have d0 : decide ((5 : Int) < (m0 : Int)) = false := by simp; omega
              have d1 : decide ((5 : Int) < (m1 : Int)) = false := by simp; omega
              have hE := nmE_0 (unhide HM) ⟨(unhide HW0 h50).2, unhide HW1 h51⟩
              have HEE := hide hE
              have hbZ : Below wr.heap.size wr (wr.alloc (.cells (madeCells #[.int .i64 0] n) 3)) := by go_grown
              have hnZ := World.alloc_heap_new wr (.cells (madeCells #[.int .i64 0] n) 3)
              have hRowZ : RowI (wr.alloc (.cells (madeCells #[.int .i64 0] n) 3)) wr.heap.size n (fun _ => 0) := ⟨blk_lt hnZ, fun j hj => ⟨(cell_in' hnZ j).1.trans (made_cell _ n j hj), (cell_in' hnZ j).2⟩⟩
              have HIZ := hide (hRowZ.ints (by omega))
              have HBWZ := hide (hBWr.trans (hbZ.mono hBWr.size))
              obtain ⟨x0, x1, -⟩ := unhide HBX _ (unhide HBWZ)
              have CU := hide (upTo_any n n40 (wr.alloc (.cells (madeCells #[.int .i64 0] n) 3)).drew)
              have HP0 := hide (unhide HW0 h50)
              have HP1 := hide (unhide HW1 h51)
              clear hE hbZ hnZ hRowZ hm0 hm1 rr hBWr HW0 HW1 HV0 HV1 CM HERR HRR r0 r1 HB2 HBr HGr
              go_wp2_with fail
              have hsz : wr.heap.size < (wr.alloc (.cells (madeCells #[.int .i64 0] n) 3)).heap.size := by simp
              generalize wr.alloc (.cells (madeCells #[.int .i64 0] n) 3) = WZ at *
              clear v0 v1 y0 y1
              go_cut [8] from 94 to 100 (fun ov wc => ∃ oa m oc LS, ov = .slice oa m oc ∧ Hid (Below W.heap.size W wc) ∧ Hid (Lsts wc oa m oc LS) ∧ Hid (lists LS = wyL L 0 (lF n (fun _ => 0)) (List.range n)))
              case first =>
                refine wp_region_vals D15 S15 (J15 WZ w.heap.size 2 (some ⟨nb, no, none⟩) n c (.slice (some ⟨wr.heap.size, 0, none⟩) n n) (upI (List.range n)) (fun v w' => ∃ oa m oc LS, v = .slice oa m oc ∧ Lsts w' oa m oc LS ∧ lists LS = wyL L 0 (lF n (fun _ => 0)) (List.range n))) (by kernel_rfl) (by kernel_rfl) (by kernel_rfl) (by kernel_rfl) (by kernel_rfl) (by kernel_rfl) (by kernel_rfl) ⟨Det.nil _, (Below.refl _ _).drew, fun h => (by cases h), fun h => (by cases h), fun h => (by cases h)⟩ (steps15 (x := 2) rfl rfl (fun X hX => by have := unhide HBX X ((unhide HBWZ).trans (hX.mono (unhide HBWZ).size)); exact ⟨this.1, this.2.1⟩) (fun X => (upTo_any n n40 X).mono (by
                  rintro e w5 ⟨v5, rfl, ho5, hb5⟩
                  obtain ⟨ua, uc, hv5, hI5, -⟩ := Ints.of_owns ho5 (by omega)
                  exact ⟨ua, uc, by rw [hv5], hI5, hb5⟩)) (fun X hX ua uc hI => by
                  have hB5 := (unhide HBWZ).trans (hX.mono (unhide HBWZ).size)
                  have CW := waysAt_any 2 (some ⟨nb, no, none⟩) n c L (some ⟨wr.heap.size, 0, none⟩) n (lF n (fun _ => 0)) 0 ua n uc (List.range n) (unhide HT) X ((unhide HN).later hB5) ((unhide HIZ).later hX) hI (fun y hy => List.mem_range.1 hy) n40 (by have := (unhide HP0).2; omega)
                  unfold tV at CW
                  rw [show ((0 : Nat) : Int) = 0 from rfl, show ((2 : Nat) : Int) = 2 from rfl] at CW
                  refine CW.mono ?_
                  rintro e w6 ⟨oa, m, oc, LS, rfl, hL6, hl6, hb6⟩
                  exact ⟨_, rfl, ⟨oa, m, oc, LS, rfl, hL6, hl6⟩, hb6⟩) rfl rfl rfl rfl rfl rfl rfl rfl) ?_
                rintro l vals wc ⟨-, hBc, -, hr, hv7⟩ hall
                obtain ⟨oa, m, oc, LS, q1, q2, q3⟩ := hr (hall 6 (by decide))
                have z7 := (hv7 (hall 7 (by decide))).trans q1
                have hB6 := (unhide HBWZ).trans (hBc.mono (unhide HBWZ).size)
                clear hr hv7 hall hBc
                simp only [finA, S15, Act.put, List.setIfInBounds_toArray, List.set_cons_succ, List.set_cons_zero, z7, q1]
                go_wp2_with fail
                go_meet
                case rel => exact ⟨oa, m, oc, LS, rfl, hB6, q2, q3⟩
              case rest =>
                obtain ⟨oa, m, oc, LS, rfl, HBc, HLc, Hlc⟩ := hcut
                clear CU x0 x1
                have hm : m = prW L 0 (List.range n) := by
                  have h1 := (unhide HLc).1
                  rw [← lists_len, unhide Hlc, wyL_len] at h1
                  exact h1
                have hm5 : m ≤ 5 := by have := (unhide HP0).2; omega
                have om1 := (unhide HLc).2.1
                have om2 := (unhide HLc).2.2.1
                unfold maxLen at om2
                have HQK : Hid (∀ k, k < m → (slAt LS k).ln = n ∧ ChOk L n (slAt LS k).ints ∧ (slAt LS k).ints.length = n) := fun k hk => by
                  have h1 := (unhide HLc).mem hk
                  have h2 : (slAt LS k).ints ∈ wyL L 0 (lF n (fun _ => 0)) (List.range n) := by
                    rw [← unhide Hlc]
                    exact List.mem_map.2 ⟨slAt LS k, slAt_mem (by have := (unhide HLc).1; omega), rfl⟩
                  have h3 := wy_ok (U := List.range n) (fun y hy => by rw [lF_len]; exact List.mem_range.1 hy) _ h2
                  have h4 := h3.1
                  rw [lF_len] at h4
                  exact ⟨h1.1.trans h4, way_ok zero_ok h3, h4⟩
                have hbG : Below wc.heap.size wc (wc.alloc (.cells #[.slice none 0 0, .slice none 0 0] 71)) := by go_grown
                have HGB : Hid (Below wc.heap.size wc (wc.alloc (.cells #[.slice none 0 0, .slice none 0 0] 71))) := hbG
                have HG0 : Hid ((wc.alloc (.cells #[.slice none 0 0, .slice none 0 0] 71)).heap[wc.heap.size]? = some (.cells #[.slice none 0 0, .slice none 0 0] 71 (0, 0))) := World.alloc_heap_new _ _
                have HBcx : Hid (∀ wr, Below wc.heap.size wc wr → Below W.heap.size W wr) := fun wr hr => (unhide HBc).trans (hr.mono (unhide HBc).size)
                clear hm hbG
                go_wp2_with fail
                go_loopw [10, 11, 12, 13, 14, 15] (fun iv _ _ _ _ _ wr => Hid (Below wc.heap.size wc wr) ∧ ∃ (i : Nat) (vA vB : Value) (AL BL : List Sl), i ≤ m ∧ iv = .int .i64 (i : Int) ∧ Hid (wr.heap[wc.heap.size]? = some (.cells #[vA, vB] 71 (0, 0))) ∧ Hid (RowL (wc.heap.size + 1) wr vA i AL ∧ RowL (wc.heap.size + 1) wr vB i BL ∧ Ap vA vB) ∧ Hid (lists AL = ((lists LS).take i).map (fun r => (wyL L 1 r (List.range n)).map (payQ L n 0)) ∧ lists BL = ((lists LS).take i).map (fun r => (wyL L 1 r (List.range n)).map (payQ L n 1)))) (fun iv _ _ _ _ _ _ => m - (intOf iv).toNat)
                case atStart => exact ⟨HGB, 0, .slice none 0 0, .slice none 0 0, [], [], Nat.zero_le _, rfl, HG0, ⟨⟨World.ownsRow_nil _ _ _ _, fun s hs => by cases hs⟩, ⟨World.ownsRow_nil _ _ _ _, fun s hs => by cases hs⟩, .inl rfl⟩, ⟨rfl, rfl⟩⟩
                case round =>
                  clear HGB HG0
                  obtain ⟨HBi, i, vA, vB, AL, BL, hi, rfl, HGi, HRi, HLi⟩ := hrel
                  have hBWi := unhide HBcx wr (unhide HBi)
                  obtain ⟨v0, v1, rr⟩ := unhide HBX wr hBWi
                  by_cases hlt : i < m
                  · obtain ⟨hk1, hk2, hk3⟩ := unhide HQK i hlt
                    have hLi := (unhide HLc).later (unhide HBi)
                    obtain ⟨ob, oo, eoa, hob, hoc⟩ := hLi.cellAt (by omega)
                    have o1 := hoc i hlt
                    rw [hk1] at o1
                    have hIi := hLi.mem hlt
                    rw [hk1] at hIi
                    have HII := hide hIi
                    have HBWi := hide hBWi
                    have CU := hide (upTo_any n n40 wr.drew)
                    have HQi : Hid ((lists LS)[i]? = some (slAt LS i).ints) := lists_at (by have := (unhide HLc).1; omega)
                    have HRO : Hid (ChOk L n (slAt LS i).ints ∧ (slAt LS i).ints.length = n) := ⟨hk2, hk3⟩
                    subst eoa
                    clear hk1 hk2 hk3 hLi hoc hIi hBWi rr
                    generalize slAt LS i = Si at *
                    obtain ⟨sa, sn, sc, ri⟩ := Si
                    simp only at o1 HII HQi HRO
                    go_wp2_with fail
                    go_cut [11] from 108 to 117 (fun bv wz => ∃ ba bm bc BS, bv = .slice ba bm bc ∧ Hid (Below wr.heap.size wr wz) ∧ Hid (Lsts wz ba bm bc BS) ∧ Hid (lists BS = wyL L 1 ri (List.range n)))
                    case first =>
                      refine wp_region_vals D20 S20 (J20 wr w.heap.size 2 (some ⟨nb, no, none⟩) n c ob oo m oc i (.slice sa n sc) (upI (List.range n)) (fun v w' => ∃ ba bm bc BS, v = .slice ba bm bc ∧ Lsts w' ba bm bc BS ∧ lists BS = wyL L 1 ri (List.range n))) (by kernel_rfl) (by kernel_rfl) (by kernel_rfl) (by kernel_rfl) (by kernel_rfl) (by kernel_rfl) (by kernel_rfl) ⟨Det.nil _, (Below.refl _ _).drew, fun h => (by cases h), fun h => (by cases h), fun h => (by cases h)⟩ (steps20 (x := 2) rfl rfl rfl hlt (fun X hX => by have := unhide HBX X ((unhide HBWi).trans (hX.mono (unhide HBWi).size)); exact ⟨this.1, this.2.1, (hX.cell (p := ⟨ob, oo + i, none⟩) (World.block_lt_of_cell? wr _ o1)).trans o1⟩) (fun X => (upTo_any n n40 X).mono (by
                        rintro e w5 ⟨v5, rfl, ho5, hb5⟩
                        obtain ⟨ua, uc, hv5, hI5, -⟩ := Ints.of_owns ho5 (by omega)
                        exact ⟨ua, uc, by rw [hv5], hI5, hb5⟩)) (fun X hX ua uc hI => by
                        have hB5 := (unhide HBWi).trans (hX.mono (unhide HBWi).size)
                        have CW := waysAt_any 2 (some ⟨nb, no, none⟩) n c L sa sc ri 1 ua n uc (List.range n) (unhide HT) X ((unhide HN).later hB5) ((unhide HII).later hX) hI (fun y hy => List.mem_range.1 hy) n40 (by have := unhide HP1; omega)
                        unfold tV at CW
                        rw [show ((1 : Nat) : Int) = 1 from rfl, show ((2 : Nat) : Int) = 2 from rfl] at CW
                        refine CW.mono ?_
                        rintro e w6 ⟨oa, m, oc, LS, rfl, hL6, hl6, hb6⟩
                        exact ⟨_, rfl, ⟨oa, m, oc, LS, rfl, hL6, hl6⟩, hb6⟩) rfl rfl rfl rfl rfl rfl rfl rfl rfl rfl rfl) ?_
                      rintro l vals wz ⟨-, hBz, -, hr, hv7⟩ hall
                      obtain ⟨ba, bm, bc, BS, q1, q2, q3⟩ := hr (hall 9 (by decide))
                      have z7 := (hv7 (hall 10 (by decide))).trans q1
                      clear hr hv7 hall
                      simp only [finA, S20, Act.put, List.setIfInBounds_toArray, List.set_cons_succ, List.set_cons_zero, z7, q1]
                      go_wp2_with fail
                      go_meet
                      case rel => exact ⟨ba, bm, bc, BS, rfl, hBz, q2, q3⟩
                    case rest =>
                      obtain ⟨ba, bm, bc, BS, rfl, HBz, HLz, Hlz⟩ := hcut
                      clear CU o1 v0 v1
                      rename World => wz
                      have hbm : bm = prW L 1 (List.range n) := by
                        have h1 := (unhide HLz).1
                        rw [← lists_len, unhide Hlz, wyL_len] at h1
                        exact h1
                      have hbm5 : bm ≤ 5 := by have := unhide HP1; omega
                      have pm1 := (unhide HLz).2.1
                      have pm2 := (unhide HLz).2.2.1
                      unfold maxLen at pm2
                      have HQK2 : Hid (∀ k, k < bm → (slAt BS k).ln = n ∧ ChOk L n (slAt BS k).ints) := fun k hk => by
                        have h1 := (unhide HLz).mem hk
                        have h2 : (slAt BS k).ints ∈ wyL L 1 ri (List.range n) := by
                          rw [← unhide Hlz]
                          exact List.mem_map.2 ⟨slAt BS k, slAt_mem (by have := (unhide HLz).1; omega), rfl⟩
                        have h3 := wy_ok (U := List.range n) (fun y hy => by rw [(unhide HRO).2]; exact List.mem_range.1 hy) _ h2
                        exact ⟨h1.1.trans (h3.1.trans (unhide HRO).2), way_ok (unhide HRO).1 h3⟩
                      have HBWz := hide ((unhide HBWi).trans ((unhide HBz).mono (unhide HBWi).size))
                      clear hbm
                      go_wp2_with fail
                      go_loopw [12, 13, 14, 15] (fun va vb jv _ wy => Hid (Below wz.heap.size wz wy) ∧ ∃ (j : Nat), j ≤ bm ∧ jv = .int .i64 (j : Int) ∧ Hid (wy.ownsRow wz.heap.size 3 1 va j (intVals (((lists BS).take j).map (payQ L n 0))) ∧ wy.ownsRow wz.heap.size 3 1 vb j (intVals (((lists BS).take j).map (payQ L n 1))) ∧ Ap va vb)) (fun _ _ jv _ _ => bm - (intOf jv).toNat)
                      case atStart => exact ⟨Below.refl _ _, 0, Nat.zero_le _, rfl, ⟨World.ownsRow_nil _ _ _ _, World.ownsRow_nil _ _ _ _, .inl rfl⟩⟩
                      case round =>
                        obtain ⟨HBy, j, hj, rfl, HAB⟩ := hrel
                        rename World => wy
                        have hBWy := (unhide HBWz).trans ((unhide HBy).mono (unhide HBWz).size)
                        obtain ⟨v0, v1, -⟩ := unhide HBX _ hBWy
                        have HBWy := hide hBWy
                        by_cases hjl : j < bm
                        · obtain ⟨hk1, hk2⟩ := unhide HQK2 j hjl
                          have hLy := (unhide HLz).later (unhide HBy)
                          obtain ⟨qb, qo, eqa, hqb, hqc⟩ := hLy.cellAt (by omega)
                          have o1 := hqc j hjl
                          rw [hk1] at o1
                          have hIk := hLy.mem hjl
                          rw [hk1] at hIk
                          obtain ⟨ch', ge', hd'⟩ := done_q (unhide HT) hk2
                          have CR := hide (reach_any 2 (some ⟨nb, no, none⟩) n c L (slAt BS j).la (slAt BS j).lc (slAt BS j).ints ch' ge' (unhide HT) hd' 0 n1 wy.drew ((unhide HN).later hBWy.drew) (hIk.later (Below.refl _ _).drew))
                          have hge : ∀ w', Below W.heap.size W w' → ∃ pb po, (ge' 0).la = some ⟨pb, po, none⟩ ∧ w'.cell? ⟨pb, po, none⟩ = some (.int .i64 (payQ L n 0 (slAt BS j).ints)) ∧ w'.cell? ⟨pb, po + 1, none⟩ = some (.int .i64 (payQ L n 1 (slAt BS j).ints)) ∧ (ge' 0).ln = 2 ∧ 2 ≤ (ge' 0).lc ∧ (ge' 0).lc ≤ 9223372036854775807 := fun w' hw' => by
                            obtain ⟨pb, po, e1, e2, e3, e4, e5⟩ := get_cell ((unhide HN).later hw') (unhide HT) hd' (j := 0) n1 (who := 0) (by omega)
                            obtain ⟨pb', po', e1', e2', -⟩ := get_cell ((unhide HN).later hw') (unhide HT) hd' (j := 0) n1 (who := 1) (by omega)
                            rw [e1] at e1'
                            cases e1'
                            rw [payQ_eq (unhide HT) hd', payQ_eq (unhide HT) hd']
                            exact ⟨pb, po, e1, e2, e2', e3, e4, e5⟩
                          obtain ⟨pb, po, e1, -, -, e3, e4, e5⟩ := hge wy hBWy
                          rw [e1] at hge
                          have HGE := hide hge
                          have HQj : Hid ((lists BS)[j]? = some (slAt BS j).ints) := lists_at (by have := (unhide HLz).1; omega)
                          unfold tV at CR
                          rw [e1, e3, show ((0 : Nat) : Int) = 0 from rfl, show ((2 : Nat) : Int) = 2 from rfl] at CR
                          have hszy := (unhide HBy).size
                          subst eqa
                          clear hk1 hk2 hLy hqc hIk hd' hge hBWy e1 e3
                          generalize (ge' 0).lc = lc1 at *
                          generalize slAt BS j = Sj at *
                          obtain ⟨ja, jn, jc, qj⟩ := Sj
                          simp only at o1 CR HGE HQj
                          go_wp2_with fail
                          refine wp_region_still_tail 5 (by kernel_rfl) (by kernel_rfl) ?_
                          simp only [List.take_succ_cons, List.take_zero, List.drop_succ_cons, List.drop_zero]
                          show wpStill Try.prog _ wy.drew (fun a' => wpList Try.prog _ _ _ a' wy.drew) _ _
                          iterate 5 still_step
                          refine wpStill_nil ?_
                          go_wp2_with fail
                          refine (unhide CR).mono ?_
                          rintro e w7 ⟨rfl, hb7⟩
                          have hb7y : Below wy.heap.size wy w7 := (Below.refl _ _).drew.trans hb7
                          have hBW7 := (unhide HBWy).trans (hb7y.mono (unhide HBWy).size)
                          obtain ⟨_, _, q0, q1, q2, -⟩ := unhide HGE w7 hBW7
                          cases q0
                          obtain ⟨hA7, hB7, hap⟩ := unhide HAB
                          have HA7 := hide (owns_later hA7 hb7y)
                          have HB7 := hide (owns_later hB7 hb7y)
                          have HAP := hide hap
                          have hs7 := hb7y.size
                          have HBz7 := hide ((unhide HBy).trans (hb7y.mono (unhide HBy).size))
                          have HBW7 := hide hBW7
                          have HN7 : Hid (∀ C : Obj, Below W.heap.size W (w7.alloc C)) := fun C => hBW7.trans ((by go_grown : Below w7.heap.size w7 (w7.alloc C)).mono hBW7.size)
                          clear hb7 hb7y hBW7 hA7 hB7 hap v0 v1 o1 CR HAB
                          generalize hx0 : payQ L n 0 qj = x0 at *
                          generalize hx1 : payQ L n 1 qj = x1 at *
                          have HX0 := hide hx0
                          have HX1 := hide hx1
                          clear hx0 hx1
                          go_wp2_with (first
                            | (
                              at_builtin
                              refine wpList_append_int1 _ rfl _ _ rfl wz.heap.size u12 _ _ rfl ((unhide HA7).alloc _) w7.heap.size 1 x0 rfl (by simp) (by omega) (by simp; omega) ?_
                              intro va2 w8 ho8 hg8 hn8
                              obtain ⟨hB8, hap8, hb8⟩ := ints_next (unhide HA7) (unhide HB7) (unhide HAP) (by omega) hg8 hn8
                              have hBW8 := (unhide HBW7).trans (hb8.mono (unhide HBWz).size)
                              obtain ⟨_, _, p0, -, p2, -⟩ := unhide HGE w8 hBW8
                              cases p0
                              have HA8 := hide ho8
                              have HB8 := hide hB8
                              have HAP8 := hide hap8
                              have hs8 := hb8.size
                              have HBz8 := hide ((unhide HBz7).trans (hb8.mono (Nat.le_refl _)))
                              clear ho8 hg8 hn8 hB8 hap8 hb8 hBW8)
                            | (
                              at_builtin
                              refine wpList_append_int1 _ rfl _ _ rfl wz.heap.size u13 _ _ rfl ((unhide HB8).alloc _) w8.heap.size 1 x1 rfl (by simp) (by omega) (by simp; omega) ?_
                              intro vb2 w9 ho9 hg9 hn9
                              obtain ⟨hA9, hap9, hb9⟩ := ints_next (unhide HB8) (unhide HA8) (unhide HAP8).sym (by omega) hg9 hn9
                              have HA9 := hide hA9
                              have HB9 := hide ho9
                              have HAP9 := hide hap9
                              have HBz9 := hide ((unhide HBz8).trans (hb9.mono (Nat.le_refl _)))
                              clear ho9 hg9 hn9 hA9 hap9 hb9))
                          refine ⟨⟨HBz9, j + 1, by omega, by go_num, ⟨?_, ?_, (unhide HAP9).sym⟩⟩, by simp [intOf]; omega⟩
                          · rw [map_take (unhide HQj), unhide HX0]; exact unhide HA9
                          · rw [map_take (unhide HQj), unhide HX1]; exact unhide HB9
                        · obtain rfl : bm = j := by omega
                          obtain ⟨hA, hB, -⟩ := unhide HAB
                          obtain ⟨aa, ac, eva, hIA⟩ := own3_of (lo := wz.heap.size) hA (by omega) (Nat.le_refl _)
                          obtain ⟨ab, ad, evb, hIB⟩ := own3_of (lo := wz.heap.size) hB (by omega) (Nat.le_refl _)
                          subst eva evb
                          have hall : (lists BS).take bm = wyL L 1 ri (List.range n) := by
                            rw [← unhide Hlz]
                            exact List.take_of_length_le (by rw [lists_len]; have := (unhide HLz).1; omega)
                          rw [hall] at hIA hIB
                          have hSA : In3 wy ⟨aa, bm, ac, (wyL L 1 ri (List.range n)).map (payQ L n 0)⟩ := ⟨hIA.1, hIA.2.1⟩
                          have hSB : In3 wy ⟨ab, bm, ad, (wyL L 1 ri (List.range n)).map (payQ L n 1)⟩ := ⟨hIB.1, hIB.2.1⟩
                          have hzy : Below wr.heap.size wr wy := (unhide HBz).trans ((unhide HBy).mono (unhide HBz).size)
                          have hgr := blk_lt (unhide HGi)
                          have hGy := (hzy.block wc.heap.size hgr).trans (unhide HGi)
                          obtain ⟨hRA, hRB, hAp⟩ := unhide HRi
                          have HRA := hide (hRA.later hzy)
                          have HRB := hide (hRB.later hzy)
                          have HAP := hide hAp
                          have HSA := hide hSA
                          have HSB := hide hSB
                          have HGY := hide hGy
                          have g0 := cell_in' hGy 0
                          have g1 := cell_in' hGy 1
                          simp at g0 g1
                          have hsy := hzy.size
                          have HBcy := hide ((unhide HBi).trans (hzy.mono (unhide HBi).size))
                          have HTN : Hid (∀ (vA2 : Value) (w9 : World), w9.ownsRow (wc.heap.size + 1) 25 1 vA2 (i + 1) (slVals (AL ++ [⟨aa, bm, ac, (wyL L 1 ri (List.range n)).map (payQ L n 0)⟩])) → (wy.alloc (.cells #[.slice aa bm ac] 25)).grownBy w9 vA.ownBlock → (vA2.ownBlock = vA.ownBlock ∨ vA2.ownBlock = some (wy.alloc (.cells #[.slice aa bm ac] 25)).heap.size) → RowL (wc.heap.size + 1) w9 vA2 (i + 1) (AL ++ [⟨aa, bm, ac, (wyL L 1 ri (List.range n)).map (payQ L n 0)⟩]) ∧ RowL (wc.heap.size + 1) w9 vB i BL ∧ Ap vA2 vB ∧ In3 w9 ⟨ab, bm, ad, (wyL L 1 ri (List.range n)).map (payQ L n 1)⟩ ∧ Below (wc.heap.size + 1) wy w9 ∧ w9.heap[wc.heap.size]? = some (.cells #[vA, vB] 71 (0, 0))) := fun vA2 w9 h1 h2 h3 => tab_next (unhide HRA) (unhide HRB) (unhide HAP) (by omega) (unhide HSA) (unhide HSB) (Nat.lt_succ_self _) (unhide HGY) h1 h2 h3
                          clear hA hB hIA hIB hSA hSB hzy hGy hRA hRB hAp hall HAB v0 v1
                          go_wp2_with (first
                            | (
                              at_builtin
                              refine wpList_append_one _ rfl _ _ rfl (wc.heap.size + 1) vA i AL rfl ((unhide HRA).1.alloc _) wy.heap.size 1 ⟨aa, bm, ac, (wyL L 1 ri (List.range n)).map (payQ L n 0)⟩ rfl (by simp) (by omega) (by simp; omega) ?_
                              intro vA2 w9 ho9 hg9 hn9
                              obtain ⟨hA9, hB9, hap9, hS9, hb9, hG9⟩ := unhide HTN vA2 w9 ho9 hg9 hn9
                              obtain ⟨gA, cA, hvA2⟩ := own_slice ho9 (Nat.succ_pos i)
                              subst hvA2
                              have t0 := cell_in' hG9 0
                              simp at t0
                              have hG10 : (w9.setCell ⟨wc.heap.size, 0, none⟩ (.slice (some ⟨gA, 0, none⟩) (i + 1) cA)).heap[wc.heap.size]? = some (.cells #[.slice (some ⟨gA, 0, none⟩) (i + 1) cA, vB] 71 (0, 0)) := by rw [heap_setCell_same _ _ _ _ _ _ hG9]; rfl
                              have s0 := cell_in' hG10 1
                              simp only [List.getElem?_toArray, List.getElem?_cons_succ, List.getElem?_cons_zero] at s0
                              have HG10 := hide hG10
                              have HA10 := hide (hA9.set71 (o := 0) (u := .slice (some ⟨gA, 0, none⟩) (i + 1) cA) hG9 (Nat.lt_succ_self _))
                              have HB10 := hide (hB9.set71 (o := 0) (u := .slice (some ⟨gA, 0, none⟩) (i + 1) cA) hG9 (Nat.lt_succ_self _))
                              have HS10 := hide (hS9.set71 (o := 0) (u := .slice (some ⟨gA, 0, none⟩) (i + 1) cA) hG9)
                              have HAP10 := hide hap9.sym
                              have hs9 := hb9.size
                              have HBc10 := hide (((unhide HBcy).trans (hb9.mono (Nat.le_succ _))).setCell (p := ⟨wc.heap.size, 0, none⟩) (Nat.le_refl _) (.slice (some ⟨gA, 0, none⟩) (i + 1) cA))
                              clear ho9 hg9 hn9 hA9 hB9 hap9 hS9 hb9 hG9 hG10)
                            | (
                              at_builtin
                              have hcC : ((w9.setCell ⟨wc.heap.size, 0, none⟩ (.slice (some ⟨gA, 0, none⟩) (i + 1) cA)).alloc (.cells #[.slice ab bm ad] 25)).cell? ⟨w9.heap.size, 0, none⟩ = some (.slice ab bm ad) := by
                                rw [show w9.heap.size = (w9.setCell ⟨wc.heap.size, 0, none⟩ (.slice (some ⟨gA, 0, none⟩) (i + 1) cA)).heap.size by simp]
                                simp only [World.cell?_alloc_at]
                                rfl
                              refine wpList_append_one _ rfl _ _ rfl (wc.heap.size + 1) vB i BL rfl ((unhide HB10).1.alloc _) w9.heap.size 1 ⟨ab, bm, ad, (wyL L 1 ri (List.range n)).map (payQ L n 1)⟩ rfl hcC (by omega) (by simp; omega) ?_
                              intro vB2 w12 ho12 hg12 hn12
                              obtain ⟨hB12, hA12, hap12, -, hb12, hG12⟩ := tab_next (unhide HB10) (unhide HA10) (unhide HAP10) (by simp; omega) (unhide HS10) (unhide HS10) (Nat.lt_succ_self _) (unhide HG10) ho12 hg12 hn12
                              obtain ⟨gB, cB, hvB2⟩ := own_slice ho12 (Nat.succ_pos i)
                              subst hvB2
                              have t1 := cell_in' hG12 1
                              simp at t1
                              have hs12 := blk_lt hG12
                              have hG13 : (w12.setCell ⟨wc.heap.size, 1, none⟩ (.slice (some ⟨gB, 0, none⟩) (i + 1) cB)).heap[wc.heap.size]? = some (.cells #[.slice (some ⟨gA, 0, none⟩) (i + 1) cA, .slice (some ⟨gB, 0, none⟩) (i + 1) cB] 71 (0, 0)) := by rw [heap_setCell_same _ _ _ _ _ _ hG12]; rfl
                              have HG13 := hide hG13
                              have HA13 := hide (hA12.set71 (o := 1) (u := .slice (some ⟨gB, 0, none⟩) (i + 1) cB) hG12 (Nat.lt_succ_self _))
                              have HB13 := hide (hB12.set71 (o := 1) (u := .slice (some ⟨gB, 0, none⟩) (i + 1) cB) hG12 (Nat.lt_succ_self _))
                              have HAP13 := hide hap12.sym
                              have HBc13 := hide (((unhide HBc10).trans (hb12.mono (Nat.le_succ _))).setCell (p := ⟨wc.heap.size, 1, none⟩) (Nat.le_refl _) (.slice (some ⟨gB, 0, none⟩) (i + 1) cB))
                              clear ho12 hg12 hn12 hB12 hA12 hap12 hb12 hG12 hG13))
                          refine ⟨⟨HBc13, i + 1, _, _, AL ++ [⟨aa, bm, ac, (wyL L 1 ri (List.range n)).map (payQ L n 0)⟩], BL ++ [⟨ab, bm, ad, (wyL L 1 ri (List.range n)).map (payQ L n 1)⟩], by omega, by go_num, HG13, ⟨unhide HA13, unhide HB13, unhide HAP13⟩, ⟨?_, ?_⟩⟩, by simp [intOf]; omega⟩
                          · rw [lists_app, (unhide HLi).1, mapL_take (unhide HQi)]; rfl
                          · rw [lists_app, (unhide HLi).2, mapL_take (unhide HQi)]; rfl
                  · obtain rfl : m = i := by omega
                    obtain ⟨hRA, hRB, -⟩ := unhide HRi
                    obtain ⟨gA, cA, evA, hLA⟩ := hRA.lsts
                    obtain ⟨gB, cB, evB, hLB⟩ := hRB.lsts
                    subst evA evB
                    have t0 := cell_in' (unhide HGi) 0
                    have t1 := cell_in' (unhide HGi) 1
                    simp at t0 t1
                    have r0 := cell_in' rr 0
                    have r1 := cell_in' rr 1
                    simp at r0 r1
                    have HRR := hide rr
                    have hlt1 : w.heap.size + 1 < W.heap.size := by omega
                    have HF : Hid (NormP w 2 n L (.returned (.tuple #[.agg #[.slice gA m cA, .slice gB m cB], .int .i64 0])) ((wr.setCell ⟨w.heap.size + 1, 0, none⟩ (.slice gA m cA)).setCell ⟨w.heap.size + 1, 1, none⟩ (.slice gB m cB))) := by
                      have hb := (unhide HBW).trans (hBWi.mono (unhide HBW).size)
                      have hcw := (unhide HBc).size
                      have q1 := (hRA.set71 (o := 0) (u := .slice gA m cA) rr (by omega)).set71 (g := w.heap.size + 1) (o := 1) (u := .slice gB m cB) (cs := #[.slice gA m cA, .slice none 0 0]) (fz := (0, 0)) (by rw [heap_setCell_same _ _ _ _ _ _ rr]; rfl) (by omega)
                      have q2 := (hRB.set71 (o := 0) (u := .slice gA m cA) rr (by omega)).set71 (g := w.heap.size + 1) (o := 1) (u := .slice gB m cB) (cs := #[.slice gA m cA, .slice none 0 0]) (fz := (0, 0)) (by rw [heap_setCell_same _ _ _ _ _ _ rr]; rfl) (by omega)
                      obtain ⟨_, _, e1, hL1⟩ := q1.lsts
                      obtain ⟨_, _, e2, hL2⟩ := q2.lsts
                      cases e1
                      cases e2
                      have hall : (lists LS).take m = wyL L 0 (lF n (fun _ => 0)) (List.range n) := by
                        rw [← unhide Hlc]
                        exact List.take_of_length_le (by rw [lists_len]; have := (unhide HLc).1; omega)
                      obtain ⟨l1, l2⟩ := unhide HLi
                      rw [hall] at l1 l2
                      exact ⟨(hb.setCell (p := ⟨w.heap.size + 1, 0, none⟩) (Nat.le_succ _) _).setCell (p := ⟨w.heap.size + 1, 1, none⟩) (Nat.le_succ _) _, gA, m, cA, AL, gB, m, cB, BL, by rw [unhide HEE], hL1, hL2, by rw [l1, nmT_yes (unhide HEE)], by rw [l2, nmT_yes (unhide HEE)]⟩
                    clear hRA hRB hLA hLB rr hBWi
                    go_wp2_with fail
                    (try simp only [Exit.inBlock, Exit.then])
                    refine bodyPost_ret (results_row_tmp rfl _ _ _ (w.heap.size + 1) _ rfl (run_loadVar_row _ (w.heap.size + 1) 71 71 _ (0, 0) _ (over2 (unhide HRR)) Try.underlying71 rfl (by show _ = some 2; kernel_rfl))) rfl ?_
                    exact unhide HF
            · have hE := nmE_2 (unhide HM) (fun q => h51 (unhide HV1 q.2))
              rw [hE] at HERR
              have HF := hide (unhide HERR wr hBWr (by omega))
              have d0 : decide ((5 : Int) < (m0 : Int)) = false := by simp; omega
              have d1 : decide ((5 : Int) < (m1 : Int)) = true := by simp; omega
              clear hm0 hm1 rr hBWr
              go_wp2_with fail
              (try simp only [Exit.inBlock, Exit.then])
              refine bodyPost_ret (results_row_tmp rfl _ _ _ (w.heap.size + 1) _ rfl (run_loadVar_row _ (w.heap.size + 1) 71 71 _ (0, 0) _ (over2 (unhide HRR)) Try.underlying71 rfl (by show _ = some 2; kernel_rfl))) rfl ?_
              exact unhide HF
          · have hE := nmE_2 (unhide HM) (fun q => h50 (unhide HV0 q.1))
            rw [hE] at HERR
            have HF := hide (unhide HERR wr hBWr (by omega))
            have d0 : decide ((5 : Int) < (m0 : Int)) = true := by simp; omega
            clear hm0 hm1 rr hBWr
            go_wp2_with fail
            (try simp only [Exit.inBlock, Exit.then])
            refine bodyPost_ret (results_row_tmp rfl _ _ _ (w.heap.size + 1) _ rfl (run_loadVar_row _ (w.heap.size + 1) 71 71 _ (0, 0) _ (over2 (unhide HRR)) Try.underlying71 rfl (by show _ = some 2; kernel_rfl))) rfl ?_
            exact unhide HF
    · have hd : (P == 2) = false := by simpa using hP
      have hd' : (P != 2) = true := by simpa using hP
      have hE := nmE_7 hm hP
      rw [hE] at HERR
      unfold tV at CM ⊢
      clear h hW hbW hbox hN hm hP hpl
      go_enter Try.func41, Try.ntmps41
      go_wp2_with fail
      rw [unhide HW]
      go_wp2_with fail
      refine (unhide CM).mono ?_
      rintro e w2 ⟨rfl, hb2⟩
      obtain ⟨v0, v1, v2⟩ := unhide HBX w2 hb2
      have z0 := cell_in' v2 0
      have z1 := cell_in' v2 1
      simp at z0 z1
      have HF := hide (unhide HERR w2 hb2 (by omega))
      have HV2 := hide v2
      clear hb2 w0 w1 v2
      go_wp2_with fail
      (try simp only [Exit.inBlock, Exit.then])
      refine bodyPost_ret (results_row_tmp rfl _ _ _ (w.heap.size + 1) _ rfl (run_loadVar_row _ (w.heap.size + 1) 71 71 _ (0, 0) _ (over2 (unhide HV2)) Try.underlying71 rfl (by show _ = some 2; kernel_rfl))) rfl ?_
      exact unhide HF
  · have hE := nmE_t hm
    have hmd : (tmE P n L == 0) = false := by simpa using hm
    have hmd' : (tmE P n L != 0) = true := by simpa using hm
    rw [hE] at HERR
    unfold tV at CM ⊢
    clear h hW hbW hbox hN hpl
    generalize tmE P n L = T at *
    have HT0 := hide hm
    clear hm
    go_enter Try.func41, Try.ntmps41
    go_wp2_with fail
    rw [unhide HW]
    go_wp2_with fail
    refine (unhide CM).mono ?_
    rintro e w2 ⟨rfl, hb2⟩
    obtain ⟨v0, v1, v2⟩ := unhide HBX w2 hb2
    have z0 := cell_in' v2 0
    have z1 := cell_in' v2 1
    simp at z0 z1
    have HF := hide (unhide HERR w2 hb2 (unhide HT0))
    have HV2 := hide v2
    clear hb2 w0 w1 v2
    go_wp2_with fail
    (try simp only [Exit.inBlock, Exit.then])
    refine bodyPost_ret (results_row_tmp rfl _ _ _ (w.heap.size + 1) _ rfl (run_loadVar_row _ (w.heap.size + 1) 71 71 _ (0, 0) _ (over2 (unhide HV2)) Try.underlying71 rfl (by show _ = some 2; kernel_rfl))) rfl ?_
    exact unhide HF
end Go.Proofs.Ytbcchbhchfdbiaa
