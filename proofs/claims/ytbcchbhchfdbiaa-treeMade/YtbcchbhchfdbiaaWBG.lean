import Derived.Test.YtbcchbhchfdbiaaWG6
namespace Go.Proofs.Ytbcchbhchfdbiaa
open Go.RowKit Go.Shelf
attribute [local go_sem] Oper.semAt_some
/-- What backFrom answers. -/
def BFP (n : Nat) (L : List Nd) (ch : Nat → Int) (ge : Nat → Sl) (g : Nat) (j : Nat) (f : Nat → Int) (w : World) (e : Ending) (w' : World) : Prop :=
  e = .returned (.slice (ge j).la (ge j).ln (ge j).lc) ∧ Keep (fun b => b < w.heap.size ∧ b ≠ g) w w' ∧ ∃ f', RowI w' g n f' ∧ BF n L ch j f f'
set_option maxRecDepth 100000 in
set_option maxHeartbeats 8000000 in
theorem backFrom_any (P : Nat) (a : Option Addr) (n c : Nat) (L : List Nd) (ch : Nat → Int) (ge : Nat → Sl) (hT : GT P n L (kd L)) (hD : Done L n 0 (CHB L) (kd L) ch ge) (w0 : World) (hN0 : Nodes w0 a n c L) (g : Nat) (hg : w0.heap.size ≤ g) :
    ∀ j, j < n → ∀ (w : World) (f : Nat → Int), Below w0.heap.size w0 w → RowI w g n f → (∀ i, j ≤ i → i < n → f i = 0 ∨ f i = ch i) →
      Calls Try.prog 30 #[tV P a n c, .int .i64 (j : Int), .slice (some ⟨g, 0, none⟩) n n] w (BFP n L ch ge g j f w) := by
  refine from_end fun j hj ih => ?_
  intro w f hbw hRow h2
  have hN := hN0.later hbw
  have g1 := hN.2.1
  have g2 := hN.2.2.1
  unfold maxLen at g2
  have n40 := hT.n40
  obtain ⟨b, off, ea, hb, hcell⟩ := hN.cellAt (by omega)
  subst ea
  have hM := hN.mem hj
  -- the two boxes
  have hb1 : Below w.heap.size w ((w.alloc (.cells #[.int .i64 (P : Int), .slice (some ⟨b, off, none⟩) n c] 24)).alloc (.cells #[.int .i64 (ndAt L j).pl, .slice (ndAt L j).k.la (ndAt L j).k.ln (ndAt L j).k.lc, .slice (ndAt L j).p.la (ndAt L j).p.ln (ndAt L j).p.lc] 51)) := by go_grown
  have hbA : Below w.heap.size w (w.alloc (.cells #[.int .i64 (P : Int), .slice (some ⟨b, off, none⟩) n c] 24)) := by go_grown
  obtain ⟨cA0, cA1, cA2⟩ := hcell _ hbA j hj
  have hkl := hM.1.2.1
  have hkm := hM.1.2.2.1
  unfold maxLen at hkm
  have hsz : ((w.alloc (.cells #[.int .i64 (P : Int), .slice (some ⟨b, off, none⟩) n c] 24)).alloc (.cells #[.int .i64 (ndAt L j).pl, .slice (ndAt L j).k.la (ndAt L j).k.ln (ndAt L j).k.lc, .slice (ndAt L j).p.la (ndAt L j).p.ln (ndAt L j).p.lc] 51)).heap.size = w.heap.size + 2 := by simp
  have hB0 : ((w.alloc (.cells #[.int .i64 (P : Int), .slice (some ⟨b, off, none⟩) n c] 24)).alloc (.cells #[.int .i64 (ndAt L j).pl, .slice (ndAt L j).k.la (ndAt L j).k.ln (ndAt L j).k.lc, .slice (ndAt L j).p.la (ndAt L j).p.ln (ndAt L j).p.lc] 51)).heap[w.heap.size]? = some (.cells #[.int .i64 (P : Int), .slice (some ⟨b, off, none⟩) n c] 24 (0, 0)) := by
    rw [Below.heap_alloc _ _ _ (by simp)]; exact World.alloc_heap_new _ _
  have hs1 : (w.alloc (.cells #[.int .i64 (P : Int), .slice (some ⟨b, off, none⟩) n c] 24)).heap.size = w.heap.size + 1 := by simp
  have hB1 : ((w.alloc (.cells #[.int .i64 (P : Int), .slice (some ⟨b, off, none⟩) n c] 24)).alloc (.cells #[.int .i64 (ndAt L j).pl, .slice (ndAt L j).k.la (ndAt L j).k.ln (ndAt L j).k.lc, .slice (ndAt L j).p.la (ndAt L j).p.ln (ndAt L j).p.lc] 51)).heap[w.heap.size + 1]? = some (.cells #[.int .i64 (ndAt L j).pl, .slice (ndAt L j).k.la (ndAt L j).k.ln (ndAt L j).k.lc, .slice (ndAt L j).p.la (ndAt L j).p.ln (ndAt L j).p.lc] 51 (0, 0)) := by
    rw [← hs1]; exact World.alloc_heap_new _ _
  have hbw1 := hbw.trans (hb1.mono hbw.size)
  have hRow1 := hRow.keep (hb1.block g hRow.1) hb1.size
  have hgs := hRow.1
  by_cases hk : (ndAt L j).k.ln = 0
  · obtain ⟨hc0, hge⟩ := (hD j (Nat.zero_le _) hj).1 hk
    have HF : Hid (BFP n L ch ge g j f w (.returned (.slice (ndAt L j).p.la (ndAt L j).p.ln (ndAt L j).p.lc)) ((w.alloc (.cells #[.int .i64 (P : Int), .slice (some ⟨b, off, none⟩) n c] 24)).alloc (.cells #[.int .i64 (ndAt L j).pl, .slice (ndAt L j).k.la (ndAt L j).k.ln (ndAt L j).k.lc, .slice (ndAt L j).p.la (ndAt L j).p.ln (ndAt L j).p.lc] 51))) := ⟨by rw [hge], Keep.of_below hb1 (fun b hb => hb.1), f, hRow1, BF.leaf hk hc0 h2 hj⟩
    rw [hk] at cA1 hkl HF
    unfold tV
    clear hN hcell hM hb1 hbA hsz hB0 hs1 hB1 hbw1 hRow1 hD hT ih h2 hN0 hRow hbw
    generalize ndAt L j = d at *
    obtain ⟨pl, ⟨ka, kn, kc, kids⟩, ⟨pa, pn, pc, pay⟩⟩ := d
    simp only at cA0 cA1 cA2 hkl hkm HF
    go_enter Try.func30, Try.ntmps30
    go_wp2
    go_ret
    exact unhide HF
  · have hk1 : 0 < (ndAt L j).k.ln := by omega
    have k5 := hT.k5 j hj
    obtain ⟨vv, vv1, vv2, vv3, vv4⟩ := (hD j (Nat.zero_le _) hj).2 hk1
    have hmv := hT.mover j hj hk1
    obtain ⟨W1, hW1⟩ : ∃ W1, (w.alloc (.cells #[.int .i64 (P : Int), .slice (some ⟨b, off, none⟩) n c] 24)).alloc (.cells #[.int .i64 (ndAt L j).pl, .slice (ndAt L j).k.la (ndAt L j).k.ln (ndAt L j).k.lc, .slice (ndAt L j).p.la (ndAt L j).p.ln (ndAt L j).p.lc] 51) = W1 := ⟨_, rfl⟩
    rw [hW1] at hb1 hsz hB0 hB1 hbw1 hRow1
    obtain ⟨u, hu⟩ : ∃ u : Nat → Int, u = fun i => nth (ge (kd L j i)).ints (ndAt L j).pl.toNat := ⟨_, rfl⟩
    have hchj : ch j = (mst u (ndAt L j).k.ln : Int) := by rw [vv1, hu]; unfold CHB at vv3; rw [← vv3]
    have hgej : ge j = ge (kd L j (mst u (ndAt L j).k.ln)) := by rw [vv4]; unfold CHB at vv3; rw [hu, ← vv3]
    have HK0 : Hid (∀ wr, Keep (fun b => b < W1.heap.size ∧ b ≠ g) W1 wr → Below w0.heap.size w0 wr ∧ Keep (fun b => b < w.heap.size ∧ b ≠ g) w wr) := fun wr kp => by
      refine ⟨hbw1.trans ⟨kp.os, kp.tape, kp.output, kp.size, fun q hq => kp.block q ⟨by have := hbw1.size; omega, by omega⟩⟩, (Keep.of_below hb1 (fun b hb => hb.1)).trans (kp.sub (fun b hb => ⟨by omega, hb.2⟩))⟩
    have HBX : Hid (∀ wr, Keep (fun b => b < W1.heap.size ∧ b ≠ g) W1 wr → wr.heap[w.heap.size]? = some (.cells #[.int .i64 (P : Int), .slice (some ⟨b, off, none⟩) n c] 24 (0, 0)) ∧ wr.heap[w.heap.size + 1]? = some (.cells #[.int .i64 (ndAt L j).pl, .slice (ndAt L j).k.la (ndAt L j).k.ln (ndAt L j).k.lc, .slice (ndAt L j).p.la (ndAt L j).p.ln (ndAt L j).p.lc] 51 (0, 0))) := fun wr kp => ⟨(kp.block _ ⟨by omega, by omega⟩).trans hB0, (kp.block _ ⟨by omega, by omega⟩).trans hB1⟩
    have HKI : Hid (∀ wr, Below w0.heap.size w0 wr → ∃ kb ko, (ndAt L j).k.la = some ⟨kb, ko, none⟩ ∧ ∀ t, t < (ndAt L j).k.ln → wr.cell? ⟨kb, ko + t, none⟩ = some (.int .i64 ((kd L j t : Nat) : Int))) := fun wr hr => by
      obtain ⟨kb, ko, e1, -, e2⟩ := ((hN0.later hr).mem hj).1.nth hk1
      exact ⟨kb, ko, e1, fun t ht => by rw [e2 t ht, hT.kid j hj t ht]⟩
    have HGC : Hid (∀ wr, Below w0.heap.size w0 wr → ∀ t, t < (ndAt L j).k.ln → ∃ pb po, (ge (kd L j t)).la = some ⟨pb, po, none⟩ ∧ wr.cell? ⟨pb, po + (ndAt L j).pl.toNat, none⟩ = some (.int .i64 (u t)) ∧ (ge (kd L j t)).ln = P ∧ P ≤ (ge (kd L j t)).lc ∧ (ge (kd L j t)).lc ≤ 9223372036854775807) := fun wr hr t ht => by
      obtain ⟨pb, po, e1, e2, e3, e4, e5⟩ := get_cell (hN0.later hr) hT hD (hT.klt j hj t ht) (who := (ndAt L j).pl.toNat) (by omega)
      exact ⟨pb, po, e1, by rw [e2, hu], e3, e4, e5⟩
    have HCK : Hid (∀ t, t < (ndAt L j).k.ln → ∀ (wr : World) (fr : Nat → Int), Below w0.heap.size w0 wr → RowI wr g n fr → (∀ i, kd L j t ≤ i → i < n → fr i = 0 ∨ fr i = ch i) → Calls Try.prog 30 #[tV P (some ⟨b, off, none⟩) n c, .int .i64 ((kd L j t : Nat) : Int), .slice (some ⟨g, 0, none⟩) n n] wr (BFP n L ch ge g (kd L j t) fr wr)) := fun t ht wr fr h1 h2 h3 => ih (kd L j t) (hT.pos j hj t) (hT.klt j hj t ht) wr fr h1 h2 h3
    have HFI : Hid (∀ f', BF n L ch (kd L j 0) f f' → BK n L ch u j 1 f f') := fun f' h => BK.first hT hj h h2
    have HNO : Hid (∀ k f' f'', BK n L ch u j k f f' → BF n L ch (kd L j k) f' f'' → ¬ u (mst u k) < u k → BK n L ch u j (k + 1) f f'') := fun k f' f'' h g hu => BK.no hT hj h g hu
    have HYE : Hid (∀ k f' f'', BK n L ch u j k f f' → BF n L ch (kd L j k) f' f'' → 1 ≤ k → u (mst u k) < u k → BK n L ch u j (k + 1) f (upd f'' j (k : Int))) := fun k f' f'' h g hk hu => BK.yes hT hj h g hk hu
    have HDO : Hid (∀ f', BK n L ch u j (ndAt L j).k.ln f f' → BF n L ch j f f') := fun f' h => h.done hchj (h2 j (Nat.le_refl _) hj)
    have HTWO : Hid (∀ k f', BK n L ch u j k f f' → ∀ i, kd L j k ≤ i → i < n → f' i = 0 ∨ f' i = ch i) := fun k f' h i h1 h2 => h.two i (by have := hT.pos j hj k; omega) h2
    have HT0 : Hid (∀ i, kd L j 0 ≤ i → i < n → f i = 0 ∨ f i = ch i) := fun i h1 hn => h2 i (by have := hT.pos j hj 0; omega) hn
    have HMST : Hid (∀ k, 1 ≤ k → mst u k < k) := fun k hk => mst_lt k hk
    have HW1 := hide hW1
    have HR1 := hide hRow1
    have HGE := hide hgej
    have hp0 := hmv.1
    have hp1 := hmv.2.1
    have hke : (((ndAt L j).k.ln : Int) == 0) = false := by simp; omega
    obtain ⟨x1, x2⟩ := unhide HBX W1 (Keep.refl _ _)
    obtain ⟨kb, ko, eka, hkc⟩ := unhide HKI W1 hbw1
    have z0 := hkc 0 hk1
    rw [Nat.add_zero] at z0
    have CK0 := hide (unhide HCK 0 hk1 W1.drew f (hbw1.drew) (hRow1.keep (W' := W1.drew) rfl (Nat.le_refl _)) (unhide HT0))
    have hB3 : W1.heap.size = w.heap.size + 2 := hsz
    unfold tV at CK0 HCK ⊢
    clear hN hcell hb1 hbA hsz hB0 hs1 hB1 hbw1 hRow1 hD hT ih h2 hN0 hRow hbw hW1 hu hchj hgej vv1 vv2 vv3 vv4 hmv hkc hM
    have y0 := (cell_in' x1 0).1
    have y1 := (cell_in' x1 1).1
    have z1 := (cell_in' x2 0).1
    have z2 := (cell_in' x2 1).1
    simp at y0 y1 z1 z2
    clear x1 x2
    rw [eka] at cA1 z2 HW1 HBX
    generalize ndAt L j = d at *
    obtain ⟨pl, ⟨ka, kn, kc, kids⟩, ⟨pa, pn, pc, pay⟩⟩ := d
    simp only at cA0 cA1 cA2 hkl hkm HW1 HBX HKI HGC HCK HDO z1 z2 hk1 k5 hp0 hp1 hke HGE eka
    subst eka
    go_enter Try.func30, Try.ntmps30
    go_wp2_with fail
    rw [unhide HW1]
    refine wp_region_still_tail 6 (by kernel_rfl) (by kernel_rfl) ?_
    simp only [List.take_succ_cons, List.take_zero, List.drop_succ_cons, List.drop_zero]
    show wpStill Try.prog _ W1.drew (fun a' => wpList Try.prog _ _ _ a' W1.drew) _ _
    iterate 6 still_step
    refine wpStill_nil ?_
    go_wp2_with fail
    refine (unhide CK0).mono ?_
    rintro e w2 ⟨rfl, kp2, f2, hR2, hF2⟩
    have HKP2 : Hid (Keep (fun b => b < W1.heap.size ∧ b ≠ g) W1 w2) := ⟨kp2.os, kp2.tape, kp2.output, kp2.size, fun b hb => kp2.block b hb⟩
    have HV2 : Hid (∃ fr, RowI w2 g n fr ∧ BK n L ch u j 1 f fr) := ⟨f2, hR2, unhide HFI f2 hF2⟩
    clear kp2 hR2 hF2 CK0 HR1 y0 y1 z0 z1 z2
    have hm1 : mst u 1 = 0 := by rw [mst]; split <;> rfl
    go_wp2_with fail
    go_loopw [8, 9, 10] (fun bv kv _ wr => Hid (Keep (fun b => b < W1.heap.size ∧ b ≠ g) W1 wr) ∧ ∃ k : Nat, 1 ≤ k ∧ k ≤ kn ∧ kv = .int .i64 k ∧ bv = .slice (ge (kd L j (mst u k))).la (ge (kd L j (mst u k))).ln (ge (kd L j (mst u k))).lc ∧ Hid (∃ fr, RowI wr g n fr ∧ BK n L ch u j k f fr)) (fun _ kv _ _ => kn - (intOf kv).toNat)
    case atStart => exact ⟨HKP2, 1, Nat.le_refl _, hk1, rfl, by rw [hm1], HV2⟩
    case round =>
      clear HKP2 HV2 hm1
      obtain ⟨HKr, k, hk1', hkn, rfl, rfl, HVr⟩ := hrel
      obtain ⟨x1, x2⟩ := unhide HBX wr (unhide HKr)
      have y0 := (cell_in' x1 0).1
      have y1 := (cell_in' x1 1).1
      have z1 := (cell_in' x2 0).1
      have z2 := (cell_in' x2 1).1
      simp at y0 y1 z1 z2
      clear x1 x2
      by_cases hlt : k < kn
      · obtain ⟨fr, hRr, hKr⟩ := unhide HVr
        have hbr := (unhide HK0 wr (unhide HKr)).1
        obtain ⟨kb', ko', eka, hkc⟩ := unhide HKI wr hbr
        cases eka
        have z0 := hkc k hlt
        have CK := hide (unhide HCK k hlt wr.drew fr hbr.drew (hRr.keep (W' := wr.drew) rfl (Nat.le_refl _)) (unhide HTWO k fr hKr))
        have hm := unhide HMST k hk1'
        have HGk := hide (fun wz hz => unhide HGC wz hz k hlt)
        have HGm := hide (fun wz hz => unhide HGC wz hz (mst u k) (by omega))
        have HKB := hide hKr
        have HNOk := hide (fun f'' => unhide HNO k fr f'' hKr)
        have HYEk := hide (fun f'' h => unhide HYE k fr f'' hKr h hk1')
        clear hkc hRr hKr hbr
        obtain ⟨Gk, hGk⟩ : ∃ G, ge (kd L j k) = G := ⟨_, rfl⟩
        obtain ⟨Gm, hGm⟩ : ∃ G, ge (kd L j (mst u k)) = G := ⟨_, rfl⟩
        rw [hGm]
        rw [hGm] at HGm
        rw [hGk] at HGk
        unfold BFP at CK
        rw [hGk] at CK
        have HGke := hide hGk
        have HGme := hide hGm
        clear hGk hGm
        obtain ⟨ga, gn, gc, gi⟩ := Gk
        obtain ⟨ma, mn, mc, mi⟩ := Gm
        simp only at HGk HGm CK
        have hxk := unhide HGk wr (unhide HK0 wr (unhide HKr)).1
        have hxm := unhide HGm wr (unhide HK0 wr (unhide HKr)).1
        obtain ⟨pb, po, epa, -, epn, hq1, hq2⟩ := hxk
        obtain ⟨qb, qo, eqa, -, eqn, hq3, hq4⟩ := hxm
        subst epa epn eqa
        obtain rfl : mn = gn := eqn
        go_wp2_with fail
        refine wp_region_still_tail 7 (by kernel_rfl) (by kernel_rfl) ?_
        simp only [List.take_succ_cons, List.take_zero, List.drop_succ_cons, List.drop_zero]
        show wpStill Try.prog _ wr.drew (fun a' => wpList Try.prog _ _ _ a' wr.drew) _ _
        iterate 7 still_step
        refine wpStill_nil ?_
        go_wp2_with fail
        refine (unhide CK).mono ?_
        rintro e w5 ⟨rfl, kp5, f5, hR5, hF5⟩
        have hKr5 : Keep (fun b => b < W1.heap.size ∧ b ≠ g) W1 w5 := (unhide HKr).trans ⟨kp5.os, kp5.tape, kp5.output, kp5.size, fun b hb => kp5.block b ⟨by have := (unhide HKr).size; show b < wr.heap.size; omega, hb.2⟩⟩
        have HK5 := hide hKr5
        have hb5 := (unhide HK0 w5 hKr5).1
        obtain ⟨x1, x2⟩ := unhide HBX w5 hKr5
        have t1 := (cell_in' x2 0).1
        have t2 := (cell_in' x2 1).1
        simp at t1 t2
        obtain ⟨pb', po', epa, tk, -⟩ := unhide HGk w5 hb5
        cases epa
        obtain ⟨qb', qo', eqa, tm, -⟩ := unhide HGm w5 hb5
        cases eqa
        have r5 := hR5.2 j hj
        have r5s := hR5.1
        have HR5 := hide hR5
        have HF5 := hide hF5
        clear kp5 hR5 hF5 hKr5 hb5 x1 x2 y0 y1 z0 z1 z2 CK HVr HKr
        by_cases huu : u (mst u k) < u k
        · have hd : decide (u (mst u k) < u k) = true := by simpa using huu
          have HUU := hide huu
          clear huu
          go_wp2_with fail
          go_quiet (fail)
          have r6 : (w5.drewN nq).cell? ⟨g, j, none⟩ = some (.int .i64 (f5 j)) := r5.1
          have r7 : (w5.drewN nq).frozen? ⟨g, j, none⟩ = false := r5.2
          have r8 : g < (w5.drewN nq).heap.size := r5s
          have HF : Hid (Keep (fun b => b < W1.heap.size ∧ b ≠ g) W1 ((w5.drewN nq).setCell ⟨g, j, none⟩ (.int .i64 (k : Int))) ∧ ∃ fr, RowI ((w5.drewN nq).setCell ⟨g, j, none⟩ (.int .i64 (k : Int))) g n fr ∧ BK n L ch u j (k + 1) f fr) := by
            have hR6 : RowI (w5.drewN nq) g n f5 := (unhide HR5).keep (W' := w5.drewN nq) rfl (Nat.le_refl _)
            refine ⟨(unhide HK5).trans ⟨rfl, rfl, rfl, by simp [World.drewN], fun b hb => ?_⟩, _, hR6.set hj, unhide HYEk f5 (unhide HF5) (unhide HUU)⟩
            exact Below.heap_setCell _ _ _ _ hb.2
          have HBV : Hid (Value.slice (some ⟨pb, po, none⟩) mn gc = .slice (ge (kd L j (mst u (k + 1)))).la (ge (kd L j (mst u (k + 1)))).ln (ge (kd L j (mst u (k + 1)))).lc) := by
            show _ = _
            rw [mst_yes (unhide HUU), unhide HGke]
          clear r5 r5s
          go_wp2_with fail
          go_roundw
          case rel => exact ⟨(unhide HF).1, k + 1, by omega, by omega, by go_num, unhide HBV, (unhide HF).2⟩
          case measure => simp [intOf]; omega
        · have hd : decide (u (mst u k) < u k) = false := by simpa using huu
          have HUU := hide huu
          clear huu
          go_wp2_with fail
          go_quiet (fail)
          have HF : Hid (Keep (fun b => b < W1.heap.size ∧ b ≠ g) W1 (w5.drewN nq) ∧ ∃ fr, RowI (w5.drewN nq) g n fr ∧ BK n L ch u j (k + 1) f fr) :=
            ⟨(unhide HK5).trans ⟨rfl, rfl, rfl, Nat.le_refl _, fun b hb => rfl⟩, f5, (unhide HR5).keep (W' := w5.drewN nq) rfl (Nat.le_refl _), unhide HNOk f5 (unhide HF5) (unhide HUU)⟩
          have HBV : Hid (Value.slice (some ⟨qb, qo, none⟩) mn mc = .slice (ge (kd L j (mst u (k + 1)))).la (ge (kd L j (mst u (k + 1)))).ln (ge (kd L j (mst u (k + 1)))).lc) := by
            show _ = _
            rw [mst_no (Int.not_lt.2 (unhide HUU)), unhide HGme]
          go_wp2_with fail
          go_roundw
          case rel => exact ⟨(unhide HF).1, k + 1, by omega, by omega, by go_num, unhide HBV, (unhide HF).2⟩
          case measure => simp [intOf]; omega
      · obtain rfl : kn = k := by omega
        have HF : Hid (BFP n L ch ge g j f w (.returned (.slice (ge (kd L j (mst u kn))).la (ge (kd L j (mst u kn))).ln (ge (kd L j (mst u kn))).lc)) wr) := by
          obtain ⟨fr, r1, r2⟩ := unhide HVr
          exact ⟨by rw [unhide HGE], (unhide HK0 wr (unhide HKr)).2, fr, r1, unhide HDO fr r2⟩
        go_wp2
        go_ret
        exact unhide HF
end Go.Proofs.Ytbcchbhchfdbiaa
