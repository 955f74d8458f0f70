import Derived.Test.YtajdijjecojdhaaDoorWNG
namespace Go.Proofs.YtajdijjecojdhaaDoor
open Go.RowKit
attribute [local go_sem] Oper.semAt_some
theorem likeF_step {lO : List Ag} {acc : List Int} {ws : List ByteArray} {k : Nat} (h : k < ws.length) : likeF lO acc (ws.drop k) = if aidxFrom lO (ws[k]?.getD ByteArray.empty) 0 < 0 then .error 5 else if 0 ≤ idxFrom acc (aidxFrom lO (ws[k]?.getD ByteArray.empty) 0) 0 then .error 6 else likeF lO (acc ++ [aidxFrom lO (ws[k]?.getD ByteArray.empty) 0]) (ws.drop (k + 1)) := by
  rw [List.drop_eq_getElem_cons h, List.getElem?_eq_getElem h]
  rfl
set_option maxRecDepth 100000 in
set_option maxHeartbeats 8000000 in
theorem settle_any (R s s' j : Nat) (wa : Option Addr) (wn wc : Nat) (ws : List ByteArray) (gS nS cS : Nat) (lS : List Ag) (aO : Option Addr) (nO cO : Nat) (lO : List Ag) (w : World) (hss : s + s' = 1)
    (hS : w.cell? ⟨R, s, none⟩ = some (.slice (some ⟨gS, 0, none⟩) nS cS)) (hO : w.cell? ⟨R, s', none⟩ = some (.slice aO nO cO))
    (oS : w.ownsRow (R + 1) 27 3 (.slice (some ⟨gS, 0, none⟩) nS cS) nS (flat lS)) (oO : w.ownsRow (R + 1) 27 3 (.slice aO nO cO) nO (flat lO)) (hap : Ap (.slice (some ⟨gS, 0, none⟩) nS cS) (.slice aO nO cO)) (h3 : ∀ g ∈ lO, In3 w g.la g.ln g.lc g.likes ∧ g.name.size ≤ maxLen)
    (hj : j < nS) (hlk : (agAt lS j).la = none ∧ (agAt lS j).ln = 0 ∧ (agAt lS j).lc = 0) (hW : In9 w wa wn wc ws) (hwn : wn ≤ 9000) :
    Calls Tryd.prog 30 #[.pointer (some ⟨R, 0, none⟩), .agg #[.int .i64 (s : Int), .int .i64 (j : Int), .slice wa wn wc]] w fun e w' => Below R w w' ∧ (∀ b, b < w.heap.size → b ≠ gS → w'.heap[b]? = w.heap[b]?) ∧
      ((∃ k, likeF lO [] ws = .error k ∧ e = .panicked [{ v := thrown k, recovered := false }]) ∨ (∃ L la lc, likeF lO [] ws = .ok L ∧ e = .returned (.tuple #[]) ∧ w'.ownsRow (R + 1) 27 3 (.slice (some ⟨gS, 0, none⟩) nS cS) nS (flat (lS.set j (putL (agAt lS j) la L.length lc L))) ∧ In3 w' la L.length lc L)) := by
  obtain rfl : wn = ws.length := hW.1.1
  have hlS : lS.length = nS := by have := oS.1; rw [flat_length] at this; omega
  obtain ⟨cur, hcur, hcapS, hcmS, hcsz⟩ : ∃ cur, w.heap[gS]? = some (.cells cur 27 (0, 0)) ∧ nS ≤ cS ∧ cS ≤ maxLen ∧ cur.size = cS * 3 := by
    rcases oS.2 with ⟨e, _⟩ | ⟨g', cap, cur, e, hb, hh, h1, h2, h3, h4⟩
    · cases e
    · cases e; exact ⟨cur, hh, h1, h2, h3⟩
  have hgR : R + 1 ≤ gS := (oS.lt gS rfl).1
  have hgw : gS < w.heap.size := (oS.lt gS rfl).2
  obtain ⟨f1, f2, f3⟩ := flat_at lS j (by omega)
  have k0 : cur[j * 3]? = some (.string (agAt lS j).name) := by
    have := oS.cellAt (g := gS) (j * 3) (by omega)
    rw [f1, (cell_in' hcur (j * 3)).1] at this
    exact this
  have k1 : cur[j * 3 + 1]? = some (.int .i64 (agAt lS j).room) := by
    have := oS.cellAt (g := gS) (j * 3 + 1) (by omega)
    rw [f2, (cell_in' hcur (j * 3 + 1)).1] at this
    exact this
  have k2 : cur[j * 3 + 2]? = some (.slice none 0 0) := by
    have := oS.cellAt (g := gS) (j * 3 + 2) (by omega)
    rw [f3, (cell_in' hcur (j * 3 + 2)).1, hlk.1, hlk.2.1, hlk.2.2] at this
    exact this
  have hRw : R < w.heap.size := World.block_lt_of_cell? w _ hS
  unfold maxLen at hcmS
  -- what serves in every world that keeps all but the row
  have HWD : Hid (∀ wr : World, (∀ b, b < w.heap.size → b ≠ gS → wr.heap[b]? = w.heap[b]?) → ∀ k, k < ws.length → ∃ b off, wa = some ⟨b, off, none⟩ ∧ wr.cell? ⟨b, off + k, none⟩ = some (.string (ws[k]?.getD ByteArray.empty))) := fun wr hf k hk => by
    obtain ⟨⟨-, -, -, -, h5⟩, h6⟩ := hW
    rcases h5 with h5 | ⟨b, off, e, hlt, hc⟩
    · omega
    rcases h6 with h6 | ⟨b', o', e', ht⟩
    · omega
    rw [e] at e'
    cases e'
    refine ⟨b, off, e, ?_⟩
    rw [World.cell?_of_block (a := ⟨b, off + k, none⟩) (hf b hlt (ht.ne ⟨_, _, hcur⟩ (by decide)))]
    exact hc k hk
  have HAO : Hid (∀ wr : World, w.heap.size ≤ wr.heap.size → (∀ b, b < w.heap.size → b ≠ gS → wr.heap[b]? = w.heap[b]?) → Ags wr aO nO cO lO) := fun wr hs hf => by
    have o2 : wr.ownsRow (R + 1) 27 3 (.slice aO nO cO) nO (flat lO) := own_frame oO (fun b hb => hf b (oO.lt b hb).2 (fun q => by
      rcases hap with p | p
      · rw [p] at hb; cases hb
      · rw [hb, q] at p; exact p rfl))
    obtain ⟨a', c', e, hA⟩ := Ags.of_owns o2 (fun g hg => ⟨((h3 g hg).1.block hs (fun b ht => hf b ht.lt (ht.ne ⟨_, _, hcur⟩ (by decide)))).1, (h3 g hg).2⟩)
    cases e
    exact hA
  have HRO : Hid (∀ wr : World, (∀ b, b < w.heap.size → b ≠ gS → wr.heap[b]? = w.heap[b]?) → wr.cell? ⟨R, s', none⟩ = some (.slice aO nO cO)) := fun wr hf => (World.cell?_of_block (a := ⟨R, s', none⟩) (hf R hRw (by omega))).trans hO
  have hwc := hW.1.2.1
  have hwm := hW.1.2.2.1
  unfold maxLen at hwm
  have HOS := hide oS
  have HCUR := hide hcur
  have HK := hide (And.intro k0 (And.intro k1 k2))
  have hsz3 : j * 3 + 2 < cur.size := by omega
  clear oS oO hap h3 hW hlk f1 f2 f3 k0 k1 k2
  generalize hnm : (agAt lS j).name = nm at *
  generalize hrm : (agAt lS j).room = rm at *
  have hbX := alloc_later w (.cells #[.int .i64 (s : Int), .int .i64 (j : Int), .slice wa ws.length wc] 64)
  have hXn := heap_alloc_new w (.cells #[.int .i64 (s : Int), .int .i64 (j : Int), .slice wa ws.length wc] 64)
  have x0 : (w.alloc (.cells #[.int .i64 (s : Int), .int .i64 (j : Int), .slice wa ws.length wc] 64)).cell? ⟨w.heap.size, 0, none⟩ = some (.int .i64 (s : Int)) := (cell_in' hXn 0).1
  have x1 : (w.alloc (.cells #[.int .i64 (s : Int), .int .i64 (j : Int), .slice wa ws.length wc] 64)).cell? ⟨w.heap.size, 1, none⟩ = some (.int .i64 (j : Int)) := (cell_in' hXn 1).1
  have y0 := (hbX.cell (p := ⟨R, s, none⟩) hRw).trans hS
  have HXB := hide hXn
  have HBX := hide hbX
  have hsX : (w.alloc (.cells #[.int .i64 (s : Int), .int .i64 (j : Int), .slice wa ws.length wc] 64)).heap.size = w.heap.size + 1 := by simp
  have hi1 : (s : Int) < 2 := by omega
  have hj1 : (j : Int) < (nS : Int) := by omega
  clear hcur hbX hXn
  go_enter Tryd.func30, Tryd.ntmps30
  go_wp2_with fail
  generalize hW1 : w.alloc (.cells #[.int .i64 (s : Int), .int .i64 (j : Int), .slice wa ws.length wc] 64) = W1 at *
  go_quiet (fail)
  have hbW : Below W1.heap.size W1 (W1.drewN nq) := below_drewN _ W1 nq
  have hXD : (W1.drewN nq).heap[w.heap.size]? = some (.cells #[.int .i64 (s : Int), .int .i64 (j : Int), .slice wa ws.length wc] 64 (0, 0)) := unhide HXB
  have z2 : (W1.drewN nq).cell? ⟨w.heap.size, 2, none⟩ = some (.slice wa ws.length wc) := (cell_in' hXD 2).1
  have HFD : Hid (∀ b, b < w.heap.size → b ≠ gS → (W1.drewN nq).heap[b]? = w.heap[b]?) := fun b hb _ => (unhide HBX).block b hb
  have HGD : Hid ((W1.drewN nq).heap[gS]? = some (.cells (cur.setIfInBounds (j * 3 + 2) (.slice none 0 0)) 27 (0, 0))) := by
    show _ = _
    rw [show (W1.drewN nq).heap[gS]? = w.heap[gS]? from (unhide HBX).block gS hgw, unhide HCUR]
    congr 2
    refine Array.ext_getElem? (fun q => ?_)
    by_cases e : j * 3 + 2 = q
    · subst e; rw [Array.getElem?_setIfInBounds_self_of_lt hsz3, (unhide HK).2.2]
    · rw [Array.getElem?_setIfInBounds_ne e]
  have HBD : Hid (Below R w (W1.drewN nq)) := ((unhide HBX).trans (hbW.mono (unhide HBX).size)).mono (by omega)
  have hsD : (W1.drewN nq).heap.size = w.heap.size + 1 := hsX
  have HXD := hide hXD
  clear hXD hbW x0 x1 y0
  generalize hW2 : W1.drewN nq = W2 at *
  clear hW2 HBX HXB
  go_wp2_with fail
  go_loopw [6, 7, 21] (fun _ _ iv wr => Hid (Below R w wr) ∧ Hid (∀ b, b < w.heap.size → b ≠ gS → wr.heap[b]? = w.heap[b]?) ∧ Hid (wr.heap[w.heap.size]? = some (.cells #[.int .i64 (s : Int), .int .i64 (j : Int), .slice wa ws.length wc] 64 (0, 0))) ∧ w.heap.size + 1 ≤ wr.heap.size ∧ ∃ (k : Nat) (v : Value) (acc : List Int), k ≤ ws.length ∧ iv = .int .i64 (k : Int) ∧ acc.length = k ∧ Hid (wr.heap[gS]? = some (.cells (cur.setIfInBounds (j * 3 + 2) v) 27 (0, 0))) ∧ Hid (wr.ownsRow (w.heap.size + 1) 3 1 v k (intVals acc)) ∧ Hid (likeF lO [] ws = likeF lO acc (ws.drop k))) (fun _ _ iv _ => ws.length - (intOf iv).toNat)
  case atStart => exact ⟨HBD, HFD, HXD, by omega, 0, .slice none 0 0, [], Nat.zero_le _, rfl, rfl, HGD, World.ownsRow_nil _ _ _ _, rfl⟩
  case round =>
    clear HBD HFD HXD HGD z2
    obtain ⟨HB, HF, HX, hsz, k, v, acc, hk, rfl, hac, HG, HV, HLK⟩ := hrel
    by_cases hlt : k < ws.length
    · obtain ⟨wb, wo, ewa, hcw⟩ := unhide HWD wr (unhide HF) k hlt
      subst ewa
      have HST := hide (likeF_step (lO := lO) (acc := acc) hlt)
      have xc0 := (cell_in' (unhide HX) 0).1
      simp only [List.getElem?_toArray, List.getElem?_cons_zero] at xc0
      have rO := unhide HRO wr (unhide HF)
      have HA := hide (unhide HAO wr (by omega) (unhide HF))
      have hk1 : (k : Int) < (ws.length : Int) := by omega
      generalize ws[k]?.getD ByteArray.empty = x at *
      go_wp2_with fail
      refine wp_region_vals DS5 SS5 (JS5 wr R w.heap.size s s' aO nO cO lO x) (by kernel_rfl) (by kernel_rfl) (by kernel_rfl) (by kernel_rfl) (by kernel_rfl) (by kernel_rfl) (by kernel_rfl) ⟨Det.nil _, (Below.refl _ _).drew⟩ (stepsS5 rfl rfl rfl hss xc0 rO (unhide HA) rfl rfl rfl rfl rfl rfl rfl rfl rfl rfl rfl) ?_
      rintro l vals w5 ⟨hDt, hb5⟩ hall
      have z10 := hDt 10 _ rfl (hall 10 (by decide))
      have HB5 := hide hb5
      clear hDt hall hcw xc0 rO hb5
      simp only [finA, SS5, Act.put, List.setIfInBounds_toArray, List.set_cons_succ, List.set_cons_zero, z10]
      clear z10
      generalize aidxFrom lO x 0 = kk at *
      have HBR5 := hide ((unhide HB).trans ((unhide HB5).mono (by omega)))
      have HF5 : Hid (∀ b, b < w.heap.size → b ≠ gS → w5.heap[b]? = w.heap[b]?) := fun b hb hne => ((unhide HB5).block b (by omega)).trans (unhide HF b hb hne)
      have hs5 := (unhide HB5).size
      by_cases hneg : kk < 0
      · have hd : decide (0 ≤ kk) = false := by simp; omega
        have HE : Hid (likeF lO [] ws = .error 5) := by show _ = _; rw [unhide HLK, unhide HST, if_pos hneg]
        go_wp2_with fail
        refine (need_no 5 _).mono ?_
        rintro e w6 ⟨rfl, hw6⟩
        subst w6
        go_wp2
        exact ⟨rfl, unhide HBR5, unhide HF5, .inl ⟨5, unhide HE, rfl⟩⟩
      · have hd : decide (0 ≤ kk) = true := by simp; omega
        have hG5 : w5.heap[gS]? = some (.cells (cur.setIfInBounds (j * 3 + 2) v) 27 (0, 0)) := ((unhide HB5).block gS (by omega)).trans (unhide HG)
        have hV5 := owns_later (unhide HV) (unhide HB5)
        obtain ⟨la, lc, rfl, hI, hT⟩ := ints_of_owns hV5
        have n0 : w5.cell? ⟨gS, j * 3, none⟩ = some (.string nm) := by rw [(cell_in' hG5 _).1, Array.getElem?_setIfInBounds_ne (by omega)]; exact (unhide HK).1
        have n1 : w5.cell? ⟨gS, j * 3 + 1, none⟩ = some (.int .i64 rm) := by rw [(cell_in' hG5 _).1, Array.getElem?_setIfInBounds_ne (by omega)]; exact (unhide HK).2.1
        have n2 : w5.cell? ⟨gS, j * 3 + 2, none⟩ = some (.slice la k lc) := by rw [(cell_in' hG5 _).1, Array.getElem?_setIfInBounds_self_of_lt hsz3]
        have HG5 := hide hG5
        have CRK := hide (rank_any nm rm la k lc acc kk w5 hI)
        have HV5 := hide hV5
        clear hG5 hV5 hI hT
        go_wp2_with fail
        refine (need_yes 5 _).mono ?_
        rintro e w6 ⟨rfl, hw6⟩
        subst w6
        go_wp2_with fail
        refine (unhide CRK).mono ?_
        rintro e w6 ⟨rfl, hb6⟩
        have HB6 := hide hb6
        have hs6 := hb6.size
        have HBR6 := hide ((unhide HBR5).trans (hb6.mono (by omega)))
        have HF6 : Hid (∀ b, b < w.heap.size → b ≠ gS → w6.heap[b]? = w.heap[b]?) := fun b hb hne => (hb6.block b (by omega)).trans (unhide HF5 b hb hne)
        have HG6 : Hid (w6.heap[gS]? = some (.cells (cur.setIfInBounds (j * 3 + 2) (.slice la k lc)) 27 (0, 0))) := (hb6.block gS (by omega)).trans (unhide HG5)
        have HV6 := hide (owns_later (unhide HV5) hb6)
        have HX6 : Hid (w6.heap[w.heap.size]? = some (.cells #[.int .i64 (s : Int), .int .i64 (j : Int), .slice (some ⟨wb, wo, none⟩) ws.length wc] 64 (0, 0))) := (hb6.block w.heap.size (by omega)).trans (((unhide HB5).block w.heap.size (by omega)).trans (unhide HX))
        clear hb6 n0 n1 n2 CRK HV5 HG5
        generalize hidx : idxFrom acc kk 0 = ix at *
        by_cases hin : 0 ≤ ix
        · have hd2 : decide (ix < 0) = false := by simp; omega
          have HE : Hid (likeF lO [] ws = .error 6) := by show _ = _; rw [unhide HLK, unhide HST, if_neg (by omega), if_pos hin]
          go_wp2_with fail
          refine (need_no 6 _).mono ?_
          rintro e w7 ⟨rfl, hw7⟩
          subst w7
          go_wp2
          exact ⟨rfl, unhide HBR6, unhide HF6, .inl ⟨6, unhide HE, rfl⟩⟩
        · have hd2 : decide (ix < 0) = true := by simp; omega
          have HE : Hid (likeF lO [] ws = likeF lO (acc ++ [kk]) (ws.drop (k + 1))) := by show _ = _; rw [unhide HLK, unhide HST, if_neg (by omega), if_neg (by omega)]
          have m2 : w6.cell? ⟨gS, j * 3 + 2, none⟩ = some (.slice la k lc) := by rw [(cell_in' (unhide HG6) _).1, Array.getElem?_setIfInBounds_self_of_lt hsz3]
          obtain ⟨i0, hi0, hz0, hz1, hz2⟩ := info_parts info3'
          have HI0 := hide (And.intro hi0 (And.intro hz0 (And.intro hz1 hz2)))
          clear hi0 hz0 hz1 hz2
          go_wp2_with fail
          refine (need_yes 6 _).mono ?_
          rintro e w7 ⟨rfl, hw7⟩
          subst w7
          have hnw : ∀ (q : Nat) (u : Value), ([.int .i64 kk] : List Value)[q]? = some u → (w6.alloc (.cells #[.int .i64 kk] 3)).cell? ((⟨w6.heap.size, 0, none⟩ : Addr).add q) = some u := fun q u hu => by
            have : (⟨w6.heap.size, 0, none⟩ : Addr).add q = ⟨w6.heap.size, q, none⟩ := by unfold Addr.add; split <;> simp_all
            rw [this, (cell_in' (heap_alloc_new w6 (.cells #[.int .i64 kk] 3)) q).1]
            simpa using hu
          have HNW := hide hnw
          clear hnw
          go_wp2_with (
            at_builtin
            refine wpList_append_elt _ rfl _ _ 25 3 i0 _ 1 8 rfl Tryd.underlying25 (unhide HI0).1 (unhide HI0).2.1 (unhide HI0).2.2.1 (unhide HI0).2.2.2 rfl (by decide) (w.heap.size + 1) (.slice la k lc) k (intVals acc) rfl ((unhide HV6).alloc _) w6.heap.size 1 [.int .i64 kk] rfl rfl (unhide HNW) (by simp [Value.oneCell']) (by omega) (by omega) (by simp; omega) ?_
            intro v2 w8 ho8 hg8 _
            have hown : ∀ b, b < w.heap.size + 1 → some b ≠ (Value.slice la k lc).ownBlock := fun b hb e => by
              have := ((unhide HV6).lt b e.symm).1
              omega
            have hblk : ∀ b, b < w.heap.size + 1 → w8.heap[b]? = w6.heap[b]? := fun b hb => (hg8.block b (by simp; omega) (hown b hb)).trans ((alloc_later w6 _).block b (by omega))
            have HBLK := hide hblk
            have hG8 := (hblk gS (by omega)).trans (unhide HG6)
            have p2 : w8.cell? ⟨gS, j * 3 + 2, none⟩ = some (.slice la k lc) := by rw [(cell_in' hG8 _).1, Array.getElem?_setIfInBounds_self_of_lt hsz3]
            have p3 := (cell_in' hG8 (j * 3 + 2)).2
            have HG8 := hide hG8
            obtain ⟨g2, c2, hv2⟩ := own64_slice ho8 (Nat.succ_pos k)
            subst hv2
            have HO8 := hide ho8
            have hs8 : w.heap.size + 1 ≤ w8.heap.size := by have := hg8.size; simp at this; omega
            have HB8 : Hid (Below R w w8) := ((unhide HBR6).alloc (by omega) (.cells #[.int .i64 kk] 3)).grown hg8 (by simp; omega) (fun q hq => by have := ((unhide HV6).lt q hq).1; omega)
            clear hown hblk hG8 ho8 hg8)
          have HBZ : Hid (Below R w (w8.setCell ⟨gS, j * 3 + 2, none⟩ (.slice (some ⟨g2, 0, none⟩) (k + 1) c2))) := (unhide HB8).setCell (p := ⟨gS, j * 3 + 2, none⟩) (by show R ≤ gS; omega) _
          have HFZ : Hid (∀ b, b < w.heap.size → b ≠ gS → (w8.setCell ⟨gS, j * 3 + 2, none⟩ (.slice (some ⟨g2, 0, none⟩) (k + 1) c2)).heap[b]? = w.heap[b]?) := fun b hb hne => by
            rw [Below.heap_setCell _ _ _ _ (by show b ≠ gS; exact hne), unhide HBLK b (by omega)]
            exact unhide HF6 b hb hne
          have HXZ : Hid ((w8.setCell ⟨gS, j * 3 + 2, none⟩ (.slice (some ⟨g2, 0, none⟩) (k + 1) c2)).heap[w.heap.size]? = some (.cells #[.int .i64 (s : Int), .int .i64 (j : Int), .slice (some ⟨wb, wo, none⟩) ws.length wc] 64 (0, 0))) := by
            show _ = _
            rw [Below.heap_setCell _ _ _ _ (by show w.heap.size ≠ gS; omega), unhide HBLK w.heap.size (by omega)]
            exact unhide HX6
          have HGZ : Hid ((w8.setCell ⟨gS, j * 3 + 2, none⟩ (.slice (some ⟨g2, 0, none⟩) (k + 1) c2)).heap[gS]? = some (.cells (cur.setIfInBounds (j * 3 + 2) (.slice (some ⟨g2, 0, none⟩) (k + 1) c2)) 27 (0, 0))) := by
            show _ = _
            rw [heap_setCell_same _ _ _ _ _ _ (unhide HG8)]
            simp
          have HVZ : Hid ((w8.setCell ⟨gS, j * 3 + 2, none⟩ (.slice (some ⟨g2, 0, none⟩) (k + 1) c2)).ownsRow (w.heap.size + 1) 3 1 (.slice (some ⟨g2, 0, none⟩) (k + 1) c2) (k + 1) (intVals (acc ++ [kk]))) := by
            show World.ownsRow _ _ _ _ _ _ _
            rw [intVals_snoc]
            exact own_frame (unhide HO8) (fun b hb => Below.heap_setCell _ _ _ _ (by
              show b ≠ gS
              have := ((unhide HO8).lt b hb).1
              omega))
          exact ⟨⟨HBZ, HFZ, HXZ, by simp; omega, k + 1, _, acc ++ [kk], by omega, by go_num, by simp; omega, HGZ, HVZ, HE⟩, by simp [intOf]; omega⟩
    · obtain rfl : k = ws.length := by omega
      obtain ⟨la, lc, rfl, hI, hT⟩ := ints_of_owns (unhide HV)
      have HFIN : Hid (Below R w wr ∧ (∀ b, b < w.heap.size → b ≠ gS → wr.heap[b]? = w.heap[b]?) ∧ ((∃ k, likeF lO [] ws = .error k ∧ Ending.returned (.tuple #[]) = .panicked [{ v := thrown k, recovered := false }]) ∨ (∃ L la lc, likeF lO [] ws = .ok L ∧ Ending.returned (.tuple #[]) = .returned (.tuple #[]) ∧ wr.ownsRow (R + 1) 27 3 (.slice (some ⟨gS, 0, none⟩) nS cS) nS (flat (lS.set j (putL (agAt lS j) la L.length lc L))) ∧ In3 wr la L.length lc L))) := by
        refine ⟨unhide HB, unhide HF, .inr ⟨acc, la, lc, by rw [unhide HLK, List.drop_length]; rfl, rfl, ?_, ?_⟩⟩
        · rw [hac]
          exact own_upd (unhide HOS) rfl (unhide HCUR) (by omega) (unhide HG)
        · rw [hac]
          exact ⟨hI, hT⟩
      clear hI hT
      go_wp2
      go_end0
      obtain ⟨f1, f2, f3⟩ := unhide HFIN
      refine ⟨f1, f2, ?_⟩
      rcases f3 with ⟨k, q1, q2⟩ | ⟨L, la, lc, q1, q2, q3, q4⟩
      · exact .inl ⟨k, q1, q2⟩
      · exact .inr ⟨L, q1, rfl, la, lc, q3, q4⟩
end Go.Proofs.YtajdijjecojdhaaDoor
