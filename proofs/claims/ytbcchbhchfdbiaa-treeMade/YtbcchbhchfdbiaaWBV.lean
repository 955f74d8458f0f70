import Derived.Test.YtbcchbhchfdbiaaWBU
namespace Go.Proofs.Ytbcchbhchfdbiaa
open Go.RowKit Go.Shelf
attribute [local go_sem] Oper.semAt_some
open Classical in
noncomputable def pnL (L : List Nd) (who : Nat) (z : List Int) : Nat → List (List Int)
  | 0 => [z]
  | i + 1 => if WM L who i ∧ (pnL L who z i).length ≤ 5 then (pnL L who z i).flatMap (fun q => setsL q i (ndAt L i).k.ln) else pnL L who z i
section
variable {L : List Nd} {who : Nat} {z : List Int}
theorem pnL_yes {i : Nat} (h : WM L who i) (h5 : (pnL L who z i).length ≤ 5) : pnL L who z (i + 1) = (pnL L who z i).flatMap (fun q => setsL q i (ndAt L i).k.ln) := by rw [pnL, if_pos ⟨h, h5⟩]
theorem pnL_no {i : Nat} (h : ¬ (WM L who i ∧ (pnL L who z i).length ≤ 5)) : pnL L who z (i + 1) = pnL L who z i := by rw [pnL, if_neg h]
theorem pnL_len_yes {i : Nat} (h : WM L who i) (h5 : (pnL L who z i).length ≤ 5) : (pnL L who z (i + 1)).length = (pnL L who z i).length * (ndAt L i).k.ln := by
  rw [pnL_yes h h5, flat_len (m := (ndAt L i).k.ln) (fun q => by unfold setsL; simp)]
/-- As long as there are few, these are all ways. -/
theorem pnL_wy : ∀ i, ((pnL L who z i).length ≤ 5 ∨ (wyL L who z (List.range i)).length ≤ 5) → pnL L who z i = wyL L who z (List.range i)
  | 0, _ => rfl
  | i + 1, h => by
    rw [List.range_succ, wyL_snoc] at h ⊢
    have hmono : (wyL L who z (List.range i)).length ≤ (wyS L who i (wyL L who z (List.range i))).length := by
      rw [wyS_len]; exact Nat.le_mul_of_pos_right _ (fW_pos i)
    have hmono2 : (pnL L who z i).length ≤ (pnL L who z (i + 1)).length := by
      by_cases e : WM L who i ∧ (pnL L who z i).length ≤ 5
      · rw [pnL_len_yes e.1 e.2]; exact Nat.le_mul_of_pos_right _ e.1.2
      · rw [pnL_no e]; exact Nat.le_refl _
    have ih := pnL_wy i (h.imp (fun h => by omega) (fun h => by omega))
    by_cases e : WM L who i
    · have h5 : (pnL L who z i).length ≤ 5 := by
        rcases h with h | h
        · omega
        · rw [ih]; omega
      rw [pnL_yes e h5, wyS_yes e, ih]
    · rw [pnL_no (fun q => e q.1), wyS_no e, ih]
theorem pnL_le (k5 : ∀ i, (ndAt L i).k.ln ≤ 5 ∨ ¬ WM L who i) : ∀ i, (pnL L who z i).length ≤ 25
  | 0 => by show 1 ≤ 25; omega
  | i + 1 => by
    by_cases e : WM L who i ∧ (pnL L who z i).length ≤ 5
    · rw [pnL_len_yes e.1 e.2]
      have h1 : (ndAt L i).k.ln ≤ 5 := by
        rcases k5 i with q | q
        · exact q
        · exact absurd e.1 q
      have := Nat.mul_le_mul e.2 h1
      omega
    · rw [pnL_no e]; exact pnL_le k5 i
theorem pnL_ok {n : Nat} (hz : z.length = n) : ∀ i, i ≤ n → ∀ q ∈ pnL L who z i, WOk L who z q
  | 0, _, q, h => by
    have h' : q = z := by simpa [pnL] using h
    subst h'; exact ⟨rfl, fun j => .inl rfl⟩
  | i + 1, hi, q, h => by
    by_cases e : WM L who i ∧ (pnL L who z i).length ≤ 5
    · rw [pnL_yes e.1 e.2] at h
      obtain ⟨q0, h0, h1⟩ := List.mem_flatMap.1 h
      obtain ⟨t, ht, rfl⟩ := List.mem_map.1 h1
      have hk := pnL_ok hz i (by omega) q0 h0
      refine ⟨by rw [List.length_set]; exact hk.1, fun j => ?_⟩
      rw [nth_setI (by rw [hk.1]; omega)]
      by_cases e2 : j = i
      · subst e2; rw [if_pos rfl]; exact .inr ⟨e.1, by omega, by have := List.mem_range.1 ht; omega⟩
      · rw [if_neg e2]; exact hk.2 j
    · rw [pnL_no e] at h
      exact pnL_ok hz i (by omega) q h
end
set_option maxRecDepth 100000 in
set_option maxHeartbeats 8000000 in
/-- plans. -/
theorem plans_any (P : Nat) (a : Option Addr) (n c : Nat) (L : List Nd) (who : Nat) (hT : GT P n L (kd L)) (w : World) (h : Nodes w a n c L) :
    Calls Try.prog 53 #[tV P a n c, .int .i64 (who : Int)] w fun e w' => ∃ oa m oc LS, e = .returned (.slice oa m oc) ∧ Lsts w' oa m oc LS ∧ lists LS = pnL L who (lF n (fun _ => 0)) n ∧ Below w.heap.size w w' := by
  have n40 := hT.n40
  have n1 := hT.n1
  have g1 := h.2.1
  have g2 := h.2.2.1
  unfold maxLen at g2
  have hmk := fun X => mk25 (n := n) n40 X
  obtain ⟨W, hW, hbW, hlt0, hbox⟩ := tbox (w := w) P a n c
  have hs1 : W.heap.size = w.heap.size + 1 := by rw [← hW]; simp
  have hbA : Below W.heap.size W (W.alloc (.cells (madeCells #[.int .i64 0] n) 3)) := by go_grown
  have hnew := World.alloc_heap_new W (.cells (madeCells #[.int .i64 0] n) 3)
  have hRow : RowI (W.alloc (.cells (madeCells #[.int .i64 0] n) 3)) W.heap.size n (fun _ => 0) := ⟨blk_lt hnew, fun j hj => ⟨(cell_in' hnew j).1.trans (made_cell _ n j hj), (cell_in' hnew j).2⟩⟩
  have hI0 := hRow.ints (by omega)
  have hbB : Below (W.alloc (.cells (madeCells #[.int .i64 0] n) 3)).heap.size (W.alloc (.cells (madeCells #[.int .i64 0] n) 3)) ((W.alloc (.cells (madeCells #[.int .i64 0] n) 3)).alloc (.cells #[.slice (some ⟨w.heap.size + 1, 0, none⟩) n n] 25)) := by go_grown
  rw [hs1] at hI0
  have hs2 : (W.alloc (.cells (madeCells #[.int .i64 0] n) 3)).heap.size = w.heap.size + 2 := by simp; omega
  have hL0 : Lsts ((W.alloc (.cells (madeCells #[.int .i64 0] n) 3)).alloc (.cells #[.slice (some ⟨w.heap.size + 1, 0, none⟩) n n] 25)) (some ⟨w.heap.size + 2, 0, none⟩) 1 1 [⟨some ⟨w.heap.size + 1, 0, none⟩, n, n, lF n (fun _ => 0)⟩] := by
    refine lsts_one (s := ⟨some ⟨w.heap.size + 1, 0, none⟩, n, n, lF n (fun _ => 0)⟩) ?_ (hI0.later hbB)
    rw [← hs2]; simp [World.cell?_alloc_at]
  have hbWB := hbA.trans (hbB.mono hbA.size)
  have HBW := hide hbW
  have HBX := hide hbox
  have HN := hide (h.later hbW)
  have HT := hide hT
  have HB0 := hide hbWB
  have HL0 := hide hL0
  obtain ⟨b, off, ea, hb, hcell⟩ := (h.later hbW).cellAt (by omega)
  subst ea
  have HC := hide hcell
  obtain ⟨x0, x1⟩ := hbox W (Below.refl _ _)
  obtain ⟨y0, y1⟩ := hbox _ hbWB
  have HPL : Hid (∀ i, (pnL L who (lF n (fun _ => 0)) i).length ≤ 25) := pnL_le (fun i => by
    by_cases e : i < n
    · exact .inl (hT.k5 i e)
    · refine .inr (fun q => ?_)
      have : ndAt L i = ndNone := by unfold ndAt; rw [List.getElem?_eq_none (by have := hT.len; omega)]; rfl
      have h2 := q.2
      rw [this] at h2
      exact absurd (show 0 < 0 from h2) (by omega))
  unfold tV
  clear h hbW hbox hT hbA hnew hRow hI0 hbB hL0 hbWB hcell hs1 hs2
  subst hW
  go_enter Try.func53, Try.ntmps53
  go_wp2_with fail
  generalize ((w.alloc (.cells #[.int .i64 (P : Int), .slice (some ⟨b, off, none⟩) n c] 24)).alloc (.cells (madeCells #[.int .i64 0] n) 3)).alloc (.cells #[.slice (some ⟨w.heap.size + 1, 0, none⟩) n n] 25) = W0 at *
  generalize w.alloc (.cells #[.int .i64 (P : Int), .slice (some ⟨b, off, none⟩) n c] 24) = W at *
  go_loopw [5, 16, 6, 7] (fun ov iv _ _ wr => Hid (Below W.heap.size W wr) ∧ ∃ (i : Nat) (oa : Option Addr) (m oc : Nat) (LS : List Sl), i ≤ n ∧ iv = .int .i64 (i : Int) ∧ ov = .slice oa m oc ∧ Hid (Lsts wr oa m oc LS) ∧ Hid (lists LS = pnL L who (lF n (fun _ => 0)) i)) (fun _ iv _ _ _ => n - (intOf iv).toNat)
  case atStart => exact ⟨HB0, 0, _, _, _, _, Nat.zero_le _, rfl, rfl, HL0, rfl⟩
  case round =>
    clear HB0 HL0 x0 x1 y0 y1
    obtain ⟨HBr, i, oa, m, oc, LS, hi, rfl, rfl, HL, HW⟩ := hrel
    by_cases hlt : i < n
    · obtain ⟨c0, c1, c2⟩ := unhide HC wr (unhide HBr) i hlt
      have hM := (((unhide HN).later (unhide HBr)).mem hlt).1
      have hkl := hM.2.1
      have hkm := hM.2.2.1
      unfold maxLen at hkm
      have k5 := (unhide HT).k5 i hlt
      have hbA : Below wr.heap.size wr (wr.alloc (.cells (ndC (ndAt L i)) 51)) := by go_grown
      have hBA := (unhide HBr).trans (hbA.mono (unhide HBr).size)
      have hLA := (unhide HL).later hbA
      have HBA := hide hBA
      have HLA := hide hLA
      have hmm : m = (pnL L who (lF n (fun _ => 0)) i).length := by rw [← unhide HW, lists_len]; exact (unhide HL).1
      have HMM := hide hmm
      have om := unhide HPL i
      rw [← hmm] at om
      have om1 := (unhide HL).2.1
      have om2 := (unhide HL).2.2.1
      unfold maxLen at om2
      have CG : Hid (Calls Try.prog 57 #[.slice oa m oc, .int .i64 (i : Int), .int .i64 ((ndAt L i).k.ln : Int)] (wr.alloc (.cells (ndC (ndAt L i)) 51)) fun e w' => ∃ v ML, e = .returned v ∧ RowL (wr.alloc (.cells (ndC (ndAt L i)) 51)).heap.size w' v ML.length ML ∧ lists ML = (lists LS).flatMap (fun q => setsL q i (ndAt L i).k.ln) ∧ ML.length = m * (ndAt L i).k.ln ∧ Below (wr.alloc (.cells (ndC (ndAt L i)) 51)).heap.size (wr.alloc (.cells (ndC (ndAt L i)) 51)) w') := by
        refine grown_any oa m oc LS n i _ _ hLA (fun k hk => ?_) hlt n40 ?_ k5
        · have h1 := hLA.mem hk
          have h2 : (slAt LS k).ints ∈ pnL L who (lF n (fun _ => 0)) i := by
            rw [← unhide HW]
            exact List.mem_map.2 ⟨slAt LS k, slAt_mem (by have := hLA.1; omega), rfl⟩
          have h3 := (pnL_ok (lF_len n _) i (by omega) _ h2).1
          rw [lF_len] at h3
          exact ⟨h1.1.trans h3, h3⟩
        · have := Nat.mul_le_mul om k5; omega
      have HYES : Hid (WM L who i → m ≤ 5 → ∀ ML : List Sl, lists ML = (lists LS).flatMap (fun q => setsL q i (ndAt L i).k.ln) → lists ML = pnL L who (lF n (fun _ => 0)) (i + 1)) := fun hw h5 ML h => by
        rw [h, unhide HW, pnL_yes hw (by rw [← hmm]; exact h5)]
      have HNO : Hid (¬ (WM L who i ∧ m ≤ 5) → lists LS = pnL L who (lF n (fun _ => 0)) (i + 1)) := fun hn => by
        rw [pnL_no (fun q => hn ⟨q.1, by rw [hmm]; exact q.2⟩)]; exact unhide HW
      have HWM : Hid (WM L who i ↔ (ndAt L i).pl = (who : Int) ∧ 0 < (ndAt L i).k.ln) := Iff.rfl
      unfold ndC at CG HBA HLA
      clear hM hbA hBA hLA hmm
      generalize ndAt L i = d at *
      obtain ⟨pl, ⟨ka, kn, kc, kids⟩, ⟨pa, pn, pc, pay⟩⟩ := d
      simp only at c0 c1 c2 hkl hkm k5 CG HBA HLA HYES HNO HWM
      by_cases hk0 : 0 < kn
      · have d1 : decide ((0 : Int) < (kn : Int)) = true := by simp; omega
        by_cases hpw : pl = (who : Int)
        · have d2 : (pl == (who : Int)) = true := by simpa using hpw
          by_cases h5 : m ≤ 5
          · have d3 : decide ((m : Int) ≤ 5) = true := by simp; omega
            have HY := hide (unhide HYES ((unhide HWM).2 ⟨hpw, hk0⟩) h5)
            clear hpw
            go_wp2_with fail
            refine (unhide CG).mono ?_
            rintro e w5 ⟨v5, ML, rfl, hR5, hl5, hn5, hb5⟩
            obtain ⟨ma, mc, rfl, hML⟩ := hR5.lsts
            have HF := hide (unhide HY ML hl5)
            have HML := hide hML
            have HB5 := hide ((unhide HBA).trans (hb5.mono (unhide HBA).size))
            clear hR5 hl5 hn5 hb5 hML CG
            generalize ML.length = ml at *
            go_wp2_with fail
            exact ⟨⟨HB5, i + 1, ma, ml, mc, ML, by omega, by go_num, rfl, HML, HF⟩, by simp [intOf]; omega⟩
          · have d3 : decide ((m : Int) ≤ 5) = false := by simp; omega
            have HF := hide (unhide HNO (fun q => h5 q.2))
            clear hpw
            go_wp2_with fail
            exact ⟨⟨HBA, i + 1, oa, m, oc, LS, by omega, by go_num, rfl, HLA, HF⟩, by simp [intOf]; omega⟩
        · have d2 : (pl == (who : Int)) = false := by simpa using hpw
          have HF := hide (unhide HNO (fun q => hpw ((unhide HWM).1 q.1).1))
          clear hpw
          go_wp2_with fail
          exact ⟨⟨HBA, i + 1, oa, m, oc, LS, by omega, by go_num, rfl, HLA, HF⟩, by simp [intOf]; omega⟩
      · have d1 : decide ((0 : Int) < (kn : Int)) = false := by simp; omega
        have HF := hide (unhide HNO (fun q => hk0 ((unhide HWM).1 q.1).2))
        go_wp2_with fail
        exact ⟨⟨HBA, i + 1, oa, m, oc, LS, by omega, by go_num, rfl, HLA, HF⟩, by simp [intOf]; omega⟩
    · obtain rfl : n = i := by omega
      have HF : Hid (∃ oa' m' oc' LS, Ending.returned (Value.slice oa m oc) = .returned (.slice oa' m' oc') ∧ Lsts wr oa' m' oc' LS ∧ lists LS = pnL L who (lF n (fun _ => 0)) n ∧ Below w.heap.size w wr) := ⟨oa, m, oc, LS, rfl, unhide HL, unhide HW, (unhide HBW).trans ((unhide HBr).mono (unhide HBW).size)⟩
      go_wp2
      go_ret
      exact unhide HF
end Go.Proofs.Ytbcchbhchfdbiaa
