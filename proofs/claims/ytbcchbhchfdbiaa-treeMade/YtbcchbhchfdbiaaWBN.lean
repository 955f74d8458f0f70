import Derived.Test.YtbcchbhchfdbiaaWBM
namespace Go.Proofs.Ytbcchbhchfdbiaa
open Go.RowKit Go.Shelf
attribute [local go_sem] Oper.semAt_some
set_option maxRecDepth 100000 in
set_option maxHeartbeats 8000000 in
/-- The document's Force. -/
theorem forceR_any (P : Nat) (a : Option Addr) (n c : Nat) (L : List Nd) (who : Nat) (ch : Nat → Int) (ge : Nat → Sl) (hT : GT P n L (kd L)) (hD : Done L n 0 (CHF L who) (kd L) ch ge) (hw : who < P) :
    ∀ j, j < n → ∀ w, Nodes w a n c L → Calls Try.prog 43 #[tV P a n c, .int .i64 (who : Int), .int .i64 (j : Int)] w fun e w' => e = .returned (.int .i64 (nth (ge j).ints who)) ∧ Below w.heap.size w w' := by
  refine from_end fun j hj ih => ?_
  intro w hN
  have g1 := hN.2.1
  have g2 := hN.2.2.1
  unfold maxLen at g2
  have n40 := hT.n40
  obtain ⟨b, off, ea, hb, hcell⟩ := hN.cellAt (by omega)
  subst ea
  have hM := hN.mem hj
  have hb1 : Below w.heap.size w ((w.alloc (.cells #[.int .i64 (P : Int), .slice (some ⟨b, off, none⟩) n c] 24)).alloc (.cells (ndC (ndAt L j)) 51)) := by go_grown
  have hbA : Below w.heap.size w (w.alloc (.cells #[.int .i64 (P : Int), .slice (some ⟨b, off, none⟩) n c] 24)) := by go_grown
  obtain ⟨cA0, cA1, cA2⟩ := hcell _ hbA j hj
  have hkl := hM.1.2.1
  have hkm := hM.1.2.2.1
  have hpl := hM.2.2.1
  have hpm := hM.2.2.2.1
  unfold maxLen at hkm hpm
  have hs1 : (w.alloc (.cells #[.int .i64 (P : Int), .slice (some ⟨b, off, none⟩) n c] 24)).heap.size = w.heap.size + 1 := by simp
  have hB0 : ((w.alloc (.cells #[.int .i64 (P : Int), .slice (some ⟨b, off, none⟩) n c] 24)).alloc (.cells (ndC (ndAt L j)) 51)).heap[w.heap.size]? = some (.cells #[.int .i64 (P : Int), .slice (some ⟨b, off, none⟩) n c] 24 (0, 0)) := by
    rw [Below.heap_alloc _ _ _ (by simp)]; exact World.alloc_heap_new _ _
  have hB1 : ((w.alloc (.cells #[.int .i64 (P : Int), .slice (some ⟨b, off, none⟩) n c] 24)).alloc (.cells (ndC (ndAt L j)) 51)).heap[w.heap.size + 1]? = some (.cells (ndC (ndAt L j)) 51 (0, 0)) := by
    rw [← hs1]; exact World.alloc_heap_new _ _
  have hsz : ((w.alloc (.cells #[.int .i64 (P : Int), .slice (some ⟨b, off, none⟩) n c] 24)).alloc (.cells (ndC (ndAt L j)) 51)).heap.size = w.heap.size + 2 := by simp
  by_cases hk : (ndAt L j).k.ln = 0
  · have hge := ((hD j (Nat.zero_le _) hj).1 hk).2
    have hpP := (hT.ender j hj hk).2
    have hI := (hM.2.later hb1)
    obtain ⟨pb, po, epa, -, hpc⟩ := hI.nth (by omega)
    have t1 := hpc who (by omega)
    have HB := hide hb1
    rw [hge]
    rw [hk] at cA1 hkl
    rw [hpP] at cA2 hpl
    rw [epa] at cA2
    unfold ndC at t1 HB
    rw [hk, hpP, epa] at t1 HB
    unfold tV
    clear hN hcell hM hb1 hbA hs1 hB0 hB1 hsz hD hT ih hI hpc hge hk hpP epa
    generalize ndAt L j = d at *
    obtain ⟨pl, ⟨ka, kn, kc, kids⟩, ⟨pa, pn, pc, pay⟩⟩ := d
    simp only at cA0 cA1 cA2 hkl hkm hpl hpm t1 HB
    go_enter Try.func43, Try.ntmps43
    go_wp2
    go_ret
    exact ⟨rfl, unhide HB⟩
  · have hk1 : 0 < (ndAt L j).k.ln := by omega
    have k5 := hT.k5 j hj
    obtain ⟨vv, vv1, vv2, vv3, vv4⟩ := (hD j (Nat.zero_le _) hj).2 hk1
    obtain ⟨W1, hW1⟩ : ∃ W1, (w.alloc (.cells #[.int .i64 (P : Int), .slice (some ⟨b, off, none⟩) n c] 24)).alloc (.cells (ndC (ndAt L j)) 51) = W1 := ⟨_, rfl⟩
    rw [hW1] at hb1 hB0 hB1 hsz
    obtain ⟨val, hval⟩ : ∃ val : Nat → Int, val = fun i => nth (ge (kd L j i)).ints who := ⟨_, rfl⟩
    obtain ⟨u, hu⟩ : ∃ u : Nat → Int, u = uF L who j (fun i => (ge (kd L j i)).ints) := ⟨_, rfl⟩
    have hgej : nth (ge j).ints who = val (mst u (ndAt L j).k.ln) := by rw [vv4, hval, hu]; unfold CHF at vv3; rw [← vv3]
    rw [hgej]
    have HUY : Hid ((ndAt L j).pl = who → ∀ i, u i = val i) := fun e i => by rw [hu, hval, uF_yes e]
    have HUN : Hid (¬ (ndAt L j).pl = who → ∀ i, u i = - val i) := fun e i => by rw [hu, hval, uF_no e]
    have HBX : Hid (∀ wr, Below W1.heap.size W1 wr → wr.cell? ⟨w.heap.size, 0, none⟩ = some (.int .i64 (P : Int)) ∧ wr.cell? ⟨w.heap.size, 1, none⟩ = some (.slice (some ⟨b, off, none⟩) n c) ∧ wr.cell? ⟨w.heap.size + 1, 0, none⟩ = some (.int .i64 (ndAt L j).pl) ∧ wr.cell? ⟨w.heap.size + 1, 1, none⟩ = some (.slice (ndAt L j).k.la (ndAt L j).k.ln (ndAt L j).k.lc)) := fun wr hr => by
      have q1 := (hr.block w.heap.size (by omega)).trans hB0
      have q2 := (hr.block (w.heap.size + 1) (by omega)).trans hB1
      unfold ndC at q2
      exact ⟨by simpa using (cell_in' q1 0).1, by simpa using (cell_in' q1 1).1, by simpa using (cell_in' q2 0).1, by simpa using (cell_in' q2 1).1⟩
    have HKI : Hid (∀ wr, Below W1.heap.size W1 wr → ∃ kb ko, (ndAt L j).k.la = some ⟨kb, ko, none⟩ ∧ ∀ t, t < (ndAt L j).k.ln → wr.cell? ⟨kb, ko + t, none⟩ = some (.int .i64 ((kd L j t : Nat) : Int))) := fun wr hr => by
      obtain ⟨kb, ko, e1, -, e2⟩ := ((hN.later (hb1.trans (hr.mono hb1.size))).mem hj).1.nth hk1
      exact ⟨kb, ko, e1, fun t ht => by rw [e2 t ht, hT.kid j hj t ht]⟩
    have HCK : Hid (∀ t, t < (ndAt L j).k.ln → ∀ wr, Below W1.heap.size W1 wr → Calls Try.prog 43 #[tV P (some ⟨b, off, none⟩) n c, .int .i64 (who : Int), .int .i64 ((kd L j t : Nat) : Int)] wr fun e w' => e = .returned (.int .i64 (val t)) ∧ Below wr.heap.size wr w') := fun t ht wr hr => by
      have := ih (kd L j t) (hT.pos j hj t) (hT.klt j hj t ht) wr (hN.later (hb1.trans (hr.mono hb1.size)))
      rw [hval]; exact this
    have HMST : Hid (∀ k, 1 ≤ k → mst u k < k) := fun k hk => mst_lt k hk
    have HW1 := hide hW1
    have HB1 := hide hb1
    have hke : (((ndAt L j).k.ln : Int) == 0) = false := by simp; omega
    obtain ⟨y0, y1, z1, z2⟩ := unhide HBX W1 (Below.refl _ _)
    obtain ⟨kb, ko, eka, hkc⟩ := unhide HKI W1 (Below.refl _ _)
    have z0 := hkc 0 hk1
    rw [Nat.add_zero] at z0
    have CK0 := hide (unhide HCK 0 hk1 W1.drew (Below.refl _ _).drew)
    unfold tV at CK0 HCK ⊢
    unfold ndC at HW1
    clear hN hcell hb1 hbA hs1 hB0 hB1 hsz hD hT ih hW1 hu hval hgej vv1 vv2 vv3 vv4 hkc hM
    rw [eka] at cA1 z2 HW1 HBX
    generalize ndAt L j = d at *
    obtain ⟨pl, ⟨ka, kn, kc, kids⟩, ⟨pa, pn, pc, pay⟩⟩ := d
    simp only at cA0 cA1 cA2 hkl hkm HW1 HBX HKI HCK z1 z2 hk1 k5 hke HUY HUN eka
    subst eka
    go_enter Try.func43, Try.ntmps43
    go_wp2_with fail
    rw [unhide HW1]
    refine wp_region_still_tail 6 (by kernel_rfl) (by kernel_rfl) ?_
    simp only [List.take_succ_cons, List.take_zero, List.drop_succ_cons, List.drop_zero]
    show wpStill Try.prog _ W1.drew (fun a' => wpList Try.prog _ _ _ a' W1.drew) _ _
    iterate 6 still_step
    refine wpStill_nil ?_
    go_wp2_with fail
    refine (unhide CK0).mono ?_
    rintro e w2 ⟨rfl, hb2⟩
    have HB2 : Hid (Below W1.heap.size W1 w2) := (Below.refl _ _).drew.trans hb2
    clear hb2 CK0 y0 y1 z0 z1 z2
    have hm1 : mst u 1 = 0 := by rw [mst]; split <;> rfl
    go_wp2_with fail
    go_loopw [8, 9, 10] (fun bv kv _ wr => Hid (Below W1.heap.size W1 wr) ∧ ∃ k : Nat, 1 ≤ k ∧ k ≤ kn ∧ kv = .int .i64 k ∧ bv = .int .i64 (val (mst u k))) (fun _ kv _ _ => kn - (intOf kv).toNat)
    case atStart => exact ⟨HB2, 1, Nat.le_refl _, hk1, rfl, by rw [hm1]⟩
    case round =>
      clear HB2 hm1
      obtain ⟨HBr, k, hk1', hkn, rfl, rfl⟩ := hrel
      obtain ⟨y0, y1, z1, z2⟩ := unhide HBX wr (unhide HBr)
      by_cases hlt : k < kn
      · obtain ⟨kb', ko', eka, hkc⟩ := unhide HKI wr (unhide HBr)
        cases eka
        have z0 := hkc k hlt
        have CK := hide (unhide HCK k hlt wr.drew ((unhide HBr).drew))
        have HY := hide (fun q => mst_yes (u := u) (k := k) q)
        have HN := hide (fun q => mst_no (u := u) (k := k) q)
        clear hkc
        go_wp2_with fail
        refine wp_region_still_tail 7 (by kernel_rfl) (by kernel_rfl) ?_
        simp only [List.take_succ_cons, List.take_zero, List.drop_succ_cons, List.drop_zero]
        show wpStill Try.prog _ wr.drew (fun a' => wpList Try.prog _ _ _ a' wr.drew) _ _
        iterate 7 still_step
        refine wpStill_nil ?_
        go_wp2_with fail
        refine (unhide CK).mono ?_
        rintro e w5 ⟨rfl, hb5⟩
        have hbw5 : Below W1.heap.size W1 w5 := (unhide HBr).drew.trans (hb5.mono (by show W1.heap.size ≤ wr.heap.size; exact (unhide HBr).size))
        obtain ⟨-, -, t1, t2⟩ := unhide HBX w5 hbw5
        have HB5 := hide hbw5
        clear hb5 hbw5 y0 y1 z0 z1 z2 CK
        by_cases hpw : pl = (who : Int)
        · have hUU := unhide HUY hpw
          by_cases hc : val (mst u k) < val k
          · have HR : Hid (mst u (k + 1) = k) := unhide HY (by rw [hUU, hUU]; exact hc)
            have hd0 : (pl == (who : Int)) = true := by simpa using hpw
            have hd : decide (val (mst u k) < val k) = true := by simpa using hc
            clear hUU hc hpw
            go_wp2_with fail
            go_roundw
            case rel => exact ⟨HB5, k + 1, by omega, by omega, by go_num, by rw [unhide HR]⟩
            case measure => simp [intOf]; omega
          · have HR : Hid (mst u (k + 1) = mst u k) := unhide HN (by rw [hUU, hUU]; omega)
            have hd0 : (pl == (who : Int)) = true := by simpa using hpw
            have hd : decide (val (mst u k) < val k) = false := by simpa using hc
            have hd1 : (pl != (who : Int)) = false := by simpa using hpw
            clear hUU hc hpw
            go_wp2_with fail
            go_roundw
            case rel => exact ⟨HB5, k + 1, by omega, by omega, by go_num, by rw [unhide HR]⟩
            case measure => simp [intOf]; omega
        · have hUU := unhide HUN hpw
          by_cases hc : val k < val (mst u k)
          · have HR : Hid (mst u (k + 1) = k) := unhide HY (by rw [hUU, hUU]; omega)
            have hd0 : (pl == (who : Int)) = false := by simpa using hpw
            have hd1 : (pl != (who : Int)) = true := by simpa using hpw
            have hd : decide (val k < val (mst u k)) = true := by simpa using hc
            clear hUU hc hpw
            go_wp2_with fail
            go_roundw
            case rel => exact ⟨HB5, k + 1, by omega, by omega, by go_num, by rw [unhide HR]⟩
            case measure => simp [intOf]; omega
          · have HR : Hid (mst u (k + 1) = mst u k) := unhide HN (by rw [hUU, hUU]; omega)
            have hd0 : (pl == (who : Int)) = false := by simpa using hpw
            have hd1 : (pl != (who : Int)) = true := by simpa using hpw
            have hd : decide (val k < val (mst u k)) = false := by simpa using hc
            clear hUU hc hpw
            go_wp2_with fail
            go_roundw
            case rel => exact ⟨HB5, k + 1, by omega, by omega, by go_num, by rw [unhide HR]⟩
            case measure => simp [intOf]; omega
      · obtain rfl : kn = k := by omega
        have HF : Hid (Below w.heap.size w wr) := (unhide HB1).trans ((unhide HBr).mono (unhide HB1).size)
        go_wp2
        go_ret
        exact ⟨rfl, unhide HF⟩
end Go.Proofs.Ytbcchbhchfdbiaa
