import Derived.Test.YtbcchbhchfdbiaaWG9
import Derived.Test.YtbcchbhchfdbiaaWGB
namespace Go.Proofs.Ytbcchbhchfdbiaa
open Go.RowKit Go.Shelf
attribute [local go_sem] Oper.semAt_some
set_option maxRecDepth 100000 in
set_option maxHeartbeats 8000000 in
theorem normal_any (P : Int) (a : Option Addr) (n c : Nat) (L : List Nd) (w : World) (h : Nodes w a n c L) :
    Calls Try.prog 40 #[tV P a n c] w (NormP w P n L) := by
  obtain ⟨W, hW, hbW, hsW, hbox⟩ := nbox (w := w) P a n c
  have HW := hide hW
  have HBW := hide hbW
  have HBX := hide hbox
  have hN := h.later hbW
  have HN := hide hN
  have CM := hide (may_any P a n c L W hN)
  have hc1 := h.2.1
  have hc2 := h.2.2.1
  unfold maxLen at hc2
  have w0 := (hbox W (Below.refl _ _)).1
  have w1 := (hbox W (Below.refl _ _)).2.1
  have HERR : Hid (∀ wr, Below W.heap.size W wr → nmE P n L ≠ 0 → NormP w P n L (.returned (.tuple #[.agg #[.slice none 0 0, .slice none 0 0], .int .i64 (nmE P n L)])) ((wr.setCell ⟨w.heap.size + 1, 0, none⟩ (.slice none 0 0)).setCell ⟨w.heap.size + 1, 1, none⟩ (.slice none 0 0))) := fun wr hr hne => by
    have hb := hbW.trans (hr.mono hbW.size)
    exact norm_err ((hb.setCell (p := ⟨w.heap.size + 1, 0, none⟩) (Nat.le_succ _) _).setCell (p := ⟨w.heap.size + 1, 1, none⟩) (Nat.le_succ _) _) hne
  by_cases hm : tmE P n L = 0
  · rw [hm] at CM
    have HM := hide hm
    by_cases hP : P = 2
    · subst hP
      obtain ⟨p2, hp2, hT⟩ := gt_of h hm
      obtain rfl : p2 = 2 := by omega
      have n40 := hT.n40
      have n1 := hT.n1
      have HT := hide hT
      obtain ⟨nb, no, ea, hnb, hncell⟩ := hN.cellAt (by omega)
      subst ea
      have HC := hide hncell
      unfold tV at CM ⊢
      clear h hW hbW hbox hN hm hT hncell hp2
      go_enter Try.func40, Try.ntmps40
      go_wp2_with fail
      rw [unhide HW]
      go_wp2_with fail
      refine (unhide CM).mono ?_
      rintro e w2 ⟨rfl, hb2⟩
      have HB2 := hide hb2
      obtain ⟨v0, v1, -⟩ := unhide HBX w2 hb2
      have CP : Hid (∀ (k : Nat) (X : World), Below W.heap.size W X → Calls Try.prog 53 #[.agg #[.int .i64 2, .slice (some ⟨nb, no, none⟩) n c], .int .i64 (k : Int)] X fun e w' => ∃ oa m oc LS, e = .returned (.slice oa m oc) ∧ Lsts w' oa m oc LS ∧ lists LS = pnL L k (lF n (fun _ => 0)) n ∧ Below X.heap.size X w') := fun k X hX => plans_any 2 (some ⟨nb, no, none⟩) n c L k (unhide HT) X ((unhide HN).later hX)
      have CP0 := hide (unhide CP 0)
      have CP1 := hide (unhide CP 1)
      rw [show ((0 : Nat) : Int) = 0 from rfl] at CP0
      rw [show ((1 : Nat) : Int) = 1 from rfl] at CP1
      clear hb2 w0 w1 CP CM
      go_wp2_with fail
      go_cut [5, 6] from 26 to 29 (fun av bv wc => ∃ oa m oc LS ob m' oc' LT, av = .slice oa m oc ∧ bv = .slice ob m' oc' ∧ Hid (Below W.heap.size W wc) ∧ Hid (Lsts wc oa m oc LS) ∧ Hid (Lsts wc ob m' oc' LT) ∧ Hid (lists LS = pnL L 0 (lF n (fun _ => 0)) n) ∧ Hid (lists LT = pnL L 1 (lF n (fun _ => 0)) n))
      case first =>
        refine wp_region_vals D6 S6 (J6 W (.agg #[.int .i64 2, .slice (some ⟨nb, no, none⟩) n c]) (fun v w' => ∃ oa m oc LS, v = .slice oa m oc ∧ Lsts w' oa m oc LS ∧ lists LS = pnL L 0 (lF n (fun _ => 0)) n) (fun v w' => ∃ oa m oc LS, v = .slice oa m oc ∧ Lsts w' oa m oc LS ∧ lists LS = pnL L 1 (lF n (fun _ => 0)) n)) (by kernel_rfl) (by kernel_rfl) (by kernel_rfl) (by kernel_rfl) (by kernel_rfl) (by kernel_rfl) (by kernel_rfl) ⟨Det.nil _, (unhide HB2).drew, fun h => (by cases h), fun h => (by cases h), fun h => (by cases h), fun h => (by cases h)⟩ (steps6 (x := 2) rfl (fun wr hr => ⟨(unhide HBX wr hr).1, (unhide HBX wr hr).2.1⟩) (fun v w w' h hb => by obtain ⟨oa, m, oc, LS, h1, h2, h3⟩ := h; exact ⟨oa, m, oc, LS, h1, h2.later hb, h3⟩) (fun X hX => (unhide CP0 X hX).mono (by rintro e w' ⟨oa, m, oc, LS, rfl, h2, h3, h4⟩; exact ⟨_, rfl, ⟨oa, m, oc, LS, rfl, h2, h3⟩, h4⟩)) (fun X hX => (unhide CP1 X hX).mono (by rintro e w' ⟨oa, m, oc, LS, rfl, h2, h3, h4⟩; exact ⟨_, rfl, ⟨oa, m, oc, LS, rfl, h2, h3⟩, h4⟩)) rfl rfl rfl rfl rfl rfl) ?_
        rintro l vals wc ⟨-, hBc, hr0, hr1, hv4, hv5⟩ hall
        obtain ⟨oa, m, oc, LS, q1, q2, q3⟩ := hr0 (hall 1 (by decide))
        obtain ⟨oa', m', oc', LT, p1, p2, p3⟩ := hr1 (hall 3 (by decide))
        have z4 := (hv4 (hall 4 (by decide))).trans q1
        have z5 := (hv5 (hall 5 (by decide))).trans p1
        clear hr0 hr1 hv4 hv5 hall
        simp only [finA, S6, Act.put, List.setIfInBounds_toArray, List.set_cons_succ, List.set_cons_zero, z4, z5, q1, p1]
        go_wp2_with fail
        go_meet
        case rel => exact ⟨oa, m, oc, LS, oa', m', oc', LT, rfl, rfl, hBc, q2, p2, q3, p3⟩
      case rest =>
        obtain ⟨oa, m, oc, LS, ob, m', oc', LT, rfl, rfl, HBc, HLS, HLT, HlS, HlT⟩ := hcut
        obtain ⟨x0, x1, rr⟩ := unhide HBX wc (unhide HBc)
        have om1 := (unhide HLS).2.1
        have om2 := (unhide HLS).2.2.1
        have pm1 := (unhide HLT).2.1
        have pm2 := (unhide HLT).2.2.1
        unfold maxLen at om2 pm2
        have hm0 : m = (pnL L 0 (lF n (fun _ => 0)) n).length := by rw [← unhide HlS, lists_len]; exact (unhide HLS).1
        have hm1 : m' = (pnL L 1 (lF n (fun _ => 0)) n).length := by rw [← unhide HlT, lists_len]; exact (unhide HLT).1
        clear CP0 CP1 v0 v1
        have HRR := hide rr
        have r0 := cell_in' rr 0
        have r1 := cell_in' rr 1
        simp at r0 r1
        have HV0 : Hid (prW L 0 (List.range n) ≤ 5 → m ≤ 5) := fun h5 => by
          have e := pnL_wy (L := L) (who := 0) (z := lF n (fun _ => 0)) n (.inr (by rw [wyL_len]; exact h5))
          rw [hm0, e, wyL_len]; exact h5
        have HV1 : Hid (prW L 1 (List.range n) ≤ 5 → m' ≤ 5) := fun h5 => by
          have e := pnL_wy (L := L) (who := 1) (z := lF n (fun _ => 0)) n (.inr (by rw [wyL_len]; exact h5))
          rw [hm1, e, wyL_len]; exact h5
        by_cases h50 : m ≤ 5
        · by_cases h51 : m' ≤ 5
          · have e0 := pnL_wy (L := L) (who := 0) (z := lF n (fun _ => 0)) n (.inl (by omega))
            have e1 := pnL_wy (L := L) (who := 1) (z := lF n (fun _ => 0)) n (.inl (by omega))
            have HE := hide (nmE_0 (unhide HM) ⟨by rw [← wyL_len (q := lF n (fun _ => 0)), ← e0]; omega, by rw [← wyL_len (q := lF n (fun _ => 0)), ← e1]; omega⟩)
            rw [e0] at HlS
            rw [e1] at HlT
            have d0 : decide ((5 : Int) < (m : Int)) = false := by simp; omega
            have d1 : decide ((5 : Int) < (m' : Int)) = false := by simp; omega
            clear hm0 hm1 rr e0 e1 r0 r1 HV0 HV1 HERR
            have HQK : Hid (∀ k, k < m → (slAt LS k).ln = n ∧ ChOk L n (slAt LS k).ints ∧ (slAt LS k).ints.length = n) := fun k hk => by
              have h1 := (unhide HLS).mem hk
              have h2 : (slAt LS k).ints ∈ wyL L 0 (lF n (fun _ => 0)) (List.range n) := by
                rw [← unhide HlS]
                exact List.mem_map.2 ⟨slAt LS k, slAt_mem (by have := (unhide HLS).1; omega), rfl⟩
              have h3 := wy_ok (U := List.range n) (fun y hy => by rw [lF_len]; exact List.mem_range.1 hy) _ h2
              have h4 := h3.1
              rw [lF_len] at h4
              exact ⟨h1.1.trans h4, way_ok zero_ok h3, h4⟩
            have HQK2 : Hid (∀ k, k < m' → (slAt LT k).ln = n ∧ ChOk L n (slAt LT k).ints ∧ (slAt LT k).ints.length = n) := fun k hk => by
              have h1 := (unhide HLT).mem hk
              have h2 : (slAt LT k).ints ∈ wyL L 1 (lF n (fun _ => 0)) (List.range n) := by
                rw [← unhide HlT]
                exact List.mem_map.2 ⟨slAt LT k, slAt_mem (by have := (unhide HLT).1; omega), rfl⟩
              have h3 := wy_ok (U := List.range n) (fun y hy => by rw [lF_len]; exact List.mem_range.1 hy) _ h2
              have h4 := h3.1
              rw [lF_len] at h4
              exact ⟨h1.1.trans h4, way_ok zero_ok h3, h4⟩
            have HGB : Hid (Below wc.heap.size wc (wc.alloc (.cells #[.slice none 0 0, .slice none 0 0] 71))) := by show Below _ _ _; go_grown
            have HG0 : Hid ((wc.alloc (.cells #[.slice none 0 0, .slice none 0 0] 71)).heap[wc.heap.size]? = some (.cells #[.slice none 0 0, .slice none 0 0] 71 (0, 0))) := World.alloc_heap_new _ _
            have HBcx : Hid (∀ wr, Below wc.heap.size wc wr → Below W.heap.size W wr) := fun wr hr => (unhide HBc).trans (hr.mono (unhide HBc).size)
            go_wp2_with fail
            go_loopw [41, 9, 10, 11, 13, 14, 15] (fun iv _ _ _ _ _ _ wr => Hid (Below wc.heap.size wc wr) ∧ ∃ (i : Nat) (vA vB : Value) (AL BL : List Sl), i ≤ m ∧ iv = .int .i64 (i : Int) ∧ Hid (wr.heap[wc.heap.size]? = some (.cells #[vA, vB] 71 (0, 0))) ∧ Hid (RowL (wc.heap.size + 1) wr vA i AL ∧ RowL (wc.heap.size + 1) wr vB i BL ∧ Ap vA vB) ∧ Hid (lists AL = ((lists LS).take i).map (fun r => (wyL L 1 r (List.range n)).map (payQ L n 0)) ∧ lists BL = ((lists LS).take i).map (fun r => (wyL L 1 r (List.range n)).map (payQ L n 1)))) (fun iv _ _ _ _ _ _ _ => m - (intOf iv).toNat)
            case atStart => exact ⟨HGB, 0, .slice none 0 0, .slice none 0 0, [], [], Nat.zero_le _, rfl, HG0, ⟨⟨World.ownsRow_nil _ _ _ _, fun s hs => by cases hs⟩, ⟨World.ownsRow_nil _ _ _ _, fun s hs => by cases hs⟩, .inl rfl⟩, ⟨rfl, rfl⟩⟩
            case round =>
              clear HGB HG0
              obtain ⟨HBi, i, vA, vB, AL, BL, hi, rfl, HGi, HRi, HLi⟩ := hrel
              have hBWi := unhide HBcx wr (unhide HBi)
              obtain ⟨v0, v1, rr⟩ := unhide HBX wr hBWi
              by_cases hlt : i < m
              · obtain ⟨hk1, hk2, hk3⟩ := unhide HQK i hlt
                have hLi := (unhide HLS).later (unhide HBi)
                obtain ⟨sb, so, eoa, hob, hoc⟩ := hLi.cellAt (by omega)
                have o1 := hoc i hlt
                rw [hk1] at o1
                have hIi := hLi.mem hlt
                rw [hk1] at hIi
                have HII := hide hIi
                have HBWi := hide hBWi
                have HQi : Hid ((lists LS)[i]? = some (slAt LS i).ints) := lists_at (by have := (unhide HLS).1; omega)
                have HRO : Hid (ChOk L n (slAt LS i).ints ∧ (slAt LS i).ints.length = n) := ⟨hk2, hk3⟩
                subst eoa
                clear hk1 hk2 hk3 hLi hoc hIi hBWi rr x0 x1
                generalize slAt LS i = Si at *
                obtain ⟨sa, sn, sc, ri⟩ := Si
                simp only at o1 HII HQi HRO
                go_wp2_with fail
                go_loopw [10, 11, 47, 13, 14, 15] (fun va vb jv _ _ _ wy => Hid (Below wr.heap.size wr wy) ∧ ∃ (j : Nat), j ≤ m' ∧ jv = .int .i64 (j : Int) ∧ Hid (wy.ownsRow wr.heap.size 3 1 va j (intVals (((lists LT).take j).map (fun q => payQ L n 0 (comb L n ri q)))) ∧ wy.ownsRow wr.heap.size 3 1 vb j (intVals (((lists LT).take j).map (fun q => payQ L n 1 (comb L n ri q)))) ∧ Ap va vb)) (fun _ _ jv _ _ _ _ => m' - (intOf jv).toNat)
                case atStart => exact ⟨Below.refl _ _, 0, Nat.zero_le _, rfl, ⟨World.ownsRow_nil _ _ _ _, World.ownsRow_nil _ _ _ _, .inl rfl⟩⟩
                case round =>
                  obtain ⟨HBy, j, hj, rfl, HAB⟩ := hrel
                  rename World => wy
                  have hBWy := (unhide HBWi).trans ((unhide HBy).mono (unhide HBWi).size)
                  obtain ⟨y0, y1, -⟩ := unhide HBX wy hBWy
                  have HBWy := hide hBWy
                  have hwy := (unhide HBy).size
                  by_cases hjl : j < m'
                  · obtain ⟨hk1, hk2, hk3⟩ := unhide HQK2 j hjl
                    have hLy := ((unhide HLT).later (unhide HBi)).later (unhide HBy)
                    obtain ⟨qb, qo, eqa, hqb, hqc⟩ := hLy.cellAt (by omega)
                    have o2 := hqc j hjl
                    rw [hk1] at o2
                    have hIk := hLy.mem hjl
                    rw [hk1] at hIk
                    obtain ⟨ch', ge', hd'⟩ := done_q (unhide HT) (comb_ok (unhide HRO).1 hk2)
                    have HQj : Hid ((lists LT)[j]? = some (slAt LT j).ints) := lists_at (by have := (unhide HLT).1; omega)
                    have hge : ∀ w', Below W.heap.size W w' → ∃ pb po, (ge' 0).la = some ⟨pb, po, none⟩ ∧ pb < W.heap.size ∧ w'.cell? ⟨pb, po, none⟩ = some (.int .i64 (payQ L n 0 (comb L n ri (slAt LT j).ints))) ∧ w'.cell? ⟨pb, po + 1, none⟩ = some (.int .i64 (payQ L n 1 (comb L n ri (slAt LT j).ints))) ∧ (ge' 0).ln = 2 ∧ 2 ≤ (ge' 0).lc ∧ (ge' 0).lc ≤ 9223372036854775807 := fun w' hw' => by
                      obtain ⟨pb, po, e1, e2, e3, e4, e5⟩ := get_cell ((unhide HN).later hw') (unhide HT) hd' (j := 0) n1 (who := 0) (by omega)
                      obtain ⟨pb', po', e1', e2', -⟩ := get_cell ((unhide HN).later hw') (unhide HT) hd' (j := 0) n1 (who := 1) (by omega)
                      obtain ⟨pb2, po2, e12, e22, -⟩ := get_cell (unhide HN) (unhide HT) hd' (j := 0) n1 (who := 1) (by omega)
                      rw [e1] at e1' e12
                      cases e1'
                      cases e12
                      rw [payQ_eq (unhide HT) hd', payQ_eq (unhide HT) hd']
                      exact ⟨pb, po, e1, World.block_lt_of_cell? W _ e22, e2, e2', e3, e4, e5⟩
                    obtain ⟨pb, po, e1, e0, -, -, e3, e4, e5⟩ := hge wy hBWy
                    rw [e1] at hge
                    have HGE := hide hge
                    have CR := hide (follow_any 2 (some ⟨nb, no, none⟩) n c L (comb L n ri (slAt LT j).ints) ch' ge' (unhide HT) hd' 54 #[.pointer (some ⟨wy.heap.size, 0, none⟩), .pointer (some ⟨w.heap.size, 0, none⟩)] 0 n1 (wy.alloc (.cells #[.slice sa n sc, .slice (slAt LT j).la n (slAt LT j).lc] 82)) ((unhide HN).later (hBWy.trans ((alloc_later wy _).mono hBWy.size))) (enters_of Try.func54 (by kernel_rfl) rfl) (fun i hi W2 hb2 => by
                      have hbA := alloc_later wy (.cells #[.slice sa n sc, .slice (slAt LT j).la n (slAt LT j).lc] 82)
                      have hbZ : Below wy.heap.size wy W2 := hbA.trans (hb2.mono hbA.size)
                      have hBW2 := hBWy.trans (hbZ.mono hBWy.size)
                      have hnew := (hb2.block wy.heap.size (by simp)).trans (World.alloc_heap_new wy (.cells #[.slice sa n sc, .slice (slAt LT j).la n (slAt LT j).lc] 82))
                      have p0 := (cell_in' hnew 0).1
                      have p1 := (cell_in' hnew 1).1
                      simp at p0 p1
                      refine normal1_any n c nb no wy.heap.size w.heap.size L sa (slAt LT j).la sc (slAt LT j).lc ri (slAt LT j).ints i hi W2 (unhide HBX W2 hBW2).2.1 n40 hc1 (by omega) (unhide HC W2 hBW2 i hi).1 ?_ p0 p1 (((unhide HII).later (unhide HBy)).later hbZ) (hIk.later hbZ)
                      by_cases hk : (ndAt L i).k.ln = 0
                      · exact .inl ((unhide HT).ender i hi hk).1
                      · have := (unhide HT).mover i hi (by omega)
                        omega))
                    obtain ⟨z0, z1, -⟩ := unhide HBX (wy.alloc (.cells #[.slice sa n sc, .slice (slAt LT j).la n (slAt LT j).lc] 82)) (hBWy.trans ((alloc_later wy _).mono hBWy.size))
                    have hgc : ∀ i', i' < n → (ndAt L i').p = ge' 0 → (ndAt L i').p.la = some ⟨pb, po, none⟩ ∧ (ndAt L i').p.ln = 2 ∧ (ndAt L i').p.lc = (ge' 0).lc := fun i' _ e => by rw [e]; exact ⟨e1, e3, rfl⟩
                    have HGC := hide hgc
                    subst eqa
                    rw [show ((0 : Nat) : Int) = 0 from rfl] at CR
                    unfold tV at CR
                    rw [show ((2 : Nat) : Int) = 2 from rfl] at CR
                    clear hk1 hk2 hk3 hLy hqc hIk hd' hge hBWy e1 e3 hgc
                    generalize hlc1 : (ge' 0).lc = lc1 at *
                    generalize slAt LT j = Sj at *
                    obtain ⟨ja, jn, jc, qj⟩ := Sj
                    simp only at o2 CR HGE HQj z0 z1
                    go_wp2_with fail
                    refine (unhide CR).mono ?_
                    rintro e w7 ⟨i', hi', -, hpe, rfl, hb7⟩
                    obtain ⟨r1, r2, r3⟩ := unhide HGC i' hi' hpe
                    have hb7y : Below wy.heap.size wy w7 := (alloc_later wy _).trans (hb7.mono (alloc_later wy _).size)
                    have hBW7 := (unhide HBWy).trans (hb7y.mono (unhide HBWy).size)
                    have hs7 := hb7y.size
                    obtain ⟨hA, hB, hap⟩ := unhide HAB
                    have hA7 := owns_later hA hb7y
                    have hB7 := owns_later hB hb7y
                    have hwW := (unhide HBWi).size
                    simp only [ndC, r1, r2, r3]
                    generalize (ndAt L i').pl = pl'
                    generalize (ndAt L i').k.la = ka'
                    generalize (ndAt L i').k.ln = kn'
                    generalize (ndAt L i').k.lc = kc'
                    have hb8 := alloc_later w7 (.cells #[.int .i64 pl', .slice ka' kn' kc', .slice (some ⟨pb, po, none⟩) 2 lc1] 51)
                    have hs8 := hb8.size
                    have hBW8 := hBW7.trans (hb8.mono hBW7.size)
                    obtain ⟨_, _, q0, -, q1, q2, -⟩ := unhide HGE _ hBW8
                    cases q0
                    have q3 := (cell_in' (World.alloc_heap_new w7 (.cells #[.int .i64 pl', .slice ka' kn' kc', .slice (some ⟨pb, po, none⟩) 2 lc1] 51)) 2).1
                    have HT8 : Hid (Two wr.heap.size (w7.alloc (.cells #[.int .i64 pl', .slice ka' kn' kc', .slice (some ⟨pb, po, none⟩) 2 lc1] 51)) u10 j (((lists LT).take j).map (fun q => payQ L n 0 (comb L n ri q))) u11 j (((lists LT).take j).map (fun q => payQ L n 1 (comb L n ri q)))) := ⟨owns_later hA7 hb8, owns_later hB7 hb8, hap⟩
                    have HM8 : Hid ((w7.alloc (.cells #[.int .i64 pl', .slice ka' kn' kc', .slice (some ⟨pb, po, none⟩) 2 lc1] 51)).cell? ⟨w7.heap.size, 2, none⟩ = some (.slice (some ⟨pb, po, none⟩) 2 lc1) ∧ (w7.alloc (.cells #[.int .i64 pl', .slice ka' kn' kc', .slice (some ⟨pb, po, none⟩) 2 lc1] 51)).cell? ⟨pb, po, none⟩ = some (.int .i64 (payQ L n 0 (comb L n ri qj))) ∧ (w7.alloc (.cells #[.int .i64 pl', .slice ka' kn' kc', .slice (some ⟨pb, po, none⟩) 2 lc1] 51)).cell? ⟨pb, po + 1, none⟩ = some (.int .i64 (payQ L n 1 (comb L n ri qj)))) := ⟨q3, q1, q2⟩
                    have HBr8 : Hid (Below wr.heap.size wr (w7.alloc (.cells #[.int .i64 pl', .slice ka' kn' kc', .slice (some ⟨pb, po, none⟩) 2 lc1] 51))) := ((unhide HBy).trans (hb7y.mono (unhide HBy).size)).trans (hb8.mono (by omega))
                    have HL8 : Hid ((∀ q, u10.ownBlock = some q → wr.heap.size ≤ q ∧ q < wy.heap.size) ∧ (∀ q, u11.ownBlock = some q → wr.heap.size ≤ q ∧ q < wy.heap.size)) := ⟨fun q hq => hA.lt q hq, fun q hq => hB.lt q hq⟩
                    clear hA hB hap hA7 hB7 q1 q2 q3 hb7 hb7y hBW7 hBW8 hb8 r1 r2 r3 hpe CR z0 z1 o2 y0 y1
                    go_wp2_with fail
                    generalize hW8 : w7.alloc (.cells #[.int .i64 pl', .slice ka' kn' kc', .slice (some ⟨pb, po, none⟩) 2 lc1] 51) = W8 at *
                    refine wp_region_vals D19 S19 (J19 wr.heap.size W8 ⟨w7.heap.size, 2, none⟩ pb po lc1 u10 u11 j (((lists LT).take j).map (fun q => payQ L n 0 (comb L n ri q))) (((lists LT).take j).map (fun q => payQ L n 1 (comb L n ri q))) (payQ L n 0 (comb L n ri qj)) (payQ L n 1 (comb L n ri qj))) (by kernel_rfl) (by kernel_rfl) (by kernel_rfl) (by kernel_rfl) (by kernel_rfl) (by kernel_rfl) (by kernel_rfl) ⟨Det.nil _, (Below.refl _ _).drew, unhide HM8, fun h => (by cases h), fun h => (by cases h), fun _ => unhide HT8, fun h => (by cases h), fun h => (by cases h), fun h => (by cases h), fun h => (by cases h)⟩ (steps19 rfl rfl rfl (by omega) (by omega) (fun q hq => ⟨((unhide HL8).1 q hq).1, by have := ((unhide HL8).1 q hq).2; omega⟩) (fun q hq => ⟨((unhide HL8).2 q hq).1, by have := ((unhide HL8).2 q hq).2; omega⟩) (fun e => by have := ((unhide HL8).1 _ e.symm).2; omega) (fun e => by have := ((unhide HL8).2 _ e.symm).2; omega) (by omega) rfl rfl rfl rfl rfl rfl rfl rfl rfl rfl rfl rfl rfl rfl rfl rfl) ?_
                    rintro l vals w9 ⟨-, k1, -, -, -, -, -, k9, k14, k15⟩ hall
                    have HT9 := hide (k9 (hall 13 (by decide)))
                    have z14 := k14 (hall 14 (by decide))
                    have z15 := k15 (hall 15 (by decide))
                    have HB9 := hide ((unhide HBr8).trans k1)
                    clear k1 k9 k14 k15 hall
                    simp only [finA, S19, Act.put, List.setIfInBounds_toArray, List.set_cons_succ, List.set_cons_zero, z14, z15]
                    go_wp2_with fail
                    refine ⟨⟨HB9, j + 1, by omega, by go_num, ⟨?_, ?_, (unhide HT9).2.2⟩⟩, by simp [intOf]; omega⟩
                    · rw [map_take (unhide HQj)]; exact (unhide HT9).1
                    · rw [map_take (unhide HQj)]; exact (unhide HT9).2.1
                  · obtain rfl : m' = j := by omega
                    obtain ⟨hA, hB, -⟩ := unhide HAB
                    obtain ⟨aa, ac, eva, hIA⟩ := own3_of (lo := wr.heap.size) hA (by omega) (Nat.le_refl _)
                    obtain ⟨ab, ad, evb, hIB⟩ := own3_of (lo := wr.heap.size) hB (by omega) (Nat.le_refl _)
                    subst eva evb
                    have hall : (lists LT).take m' = wyL L 1 (lF n (fun _ => 0)) (List.range n) := by
                      rw [← unhide HlT]
                      exact List.take_of_length_le (by rw [lists_len]; have := (unhide HLT).1; omega)
                    rw [hall, row_same (unhide HT) (unhide HRO).1 (unhide HRO).2 0] at hIA
                    rw [hall, row_same (unhide HT) (unhide HRO).1 (unhide HRO).2 1] at hIB
                    have HSA : Hid (In3 wy ⟨aa, m', ac, (wyL L 1 ri (List.range n)).map (payQ L n 0)⟩) := ⟨hIA.1, hIA.2.1⟩
                    have HSB : Hid (In3 wy ⟨ab, m', ad, (wyL L 1 ri (List.range n)).map (payQ L n 1)⟩) := ⟨hIB.1, hIB.2.1⟩
                    have hzy := unhide HBy
                    have hgr := blk_lt (unhide HGi)
                    have HGY : Hid (wy.heap[wc.heap.size]? = some (.cells #[vA, vB] 71 (0, 0))) := (hzy.block wc.heap.size hgr).trans (unhide HGi)
                    obtain ⟨hRA, hRB, hAp⟩ := unhide HRi
                    have HTL : Hid (TwoL (wc.heap.size + 1) wy vA i AL vB i BL) := ⟨hRA.later hzy, hRB.later hzy, hAp⟩
                    have HBcy := hide ((unhide HBi).trans (hzy.mono (unhide HBi).size))
                    clear hA hB hIA hIB hzy hRA hRB hAp hall HAB y0 y1 hBWy
                    go_wp2_with fail
                    refine wp_region_vals D21 S21 (J21 wc.heap.size wy ⟨aa, m', ac, (wyL L 1 ri (List.range n)).map (payQ L n 0)⟩ ⟨ab, m', ad, (wyL L 1 ri (List.range n)).map (payQ L n 1)⟩ vA vB i AL BL) (by kernel_rfl) (by kernel_rfl) (by kernel_rfl) (by kernel_rfl) (by kernel_rfl) (by kernel_rfl) (by kernel_rfl) ⟨Det.nil _, (Below.refl _ _).drew, unhide HGY, ⟨unhide HSA, unhide HSB⟩, fun h => (by cases h), fun h => (by cases h), fun _ => unhide HTL, fun h => (by cases h), fun h => (by cases h)⟩ (steps21 rfl rfl rfl (by omega) (by omega) (fun q hq => ((unhide HTL).1.lt hq).2) rfl rfl rfl rfl rfl rfl rfl rfl rfl rfl rfl rfl rfl rfl) ?_
                    rintro l vals w9 ⟨-, k1, k2, -, -, -, -, -, k8⟩ hall
                    have HT9 := hide (k8 (hall 9 (by decide)))
                    rw [hall 11 (by decide), hall 13 (by decide)] at k2
                    have HG9 : Hid (w9.heap[wc.heap.size]? = some (.cells #[vals 4, vals 9] 71 (0, 0))) := k2
                    have HB9 := hide ((unhide HBcy).trans k1)
                    clear k1 k2 k8 hall
                    simp only [finA, S21, Act.put, List.setIfInBounds_toArray, List.set_cons_succ, List.set_cons_zero]
                    go_wp2_with fail
                    refine ⟨⟨HB9, i + 1, _, _, AL ++ [⟨aa, m', ac, (wyL L 1 ri (List.range n)).map (payQ L n 0)⟩], BL ++ [⟨ab, m', ad, (wyL L 1 ri (List.range n)).map (payQ L n 1)⟩], by omega, by go_num, HG9, ⟨(unhide HT9).1, (unhide HT9).2.1, (unhide HT9).2.2⟩, ⟨?_, ?_⟩⟩, by simp [intOf]; omega⟩
                    · rw [lists_app, (unhide HLi).1, mapL_take (unhide HQi)]; rfl
                    · rw [lists_app, (unhide HLi).2, mapL_take (unhide HQi)]; rfl
              · obtain rfl : m = i := by omega
                obtain ⟨hRA, hRB, -⟩ := unhide HRi
                obtain ⟨gA, cA, evA, hLA⟩ := hRA.lsts
                obtain ⟨gB, cB, evB, hLB⟩ := hRB.lsts
                subst evA evB
                have t0 := cell_in' (unhide HGi) 0
                have t1 := cell_in' (unhide HGi) 1
                simp at t0 t1
                have r0 := cell_in' rr 0
                have r1 := cell_in' rr 1
                simp at r0 r1
                have HRR := hide rr
                have hlt1 : w.heap.size + 1 < W.heap.size := by omega
                have HF : Hid (NormP w 2 n L (.returned (.tuple #[.agg #[.slice gA m cA, .slice gB m cB], .int .i64 0])) ((wr.setCell ⟨w.heap.size + 1, 0, none⟩ (.slice gA m cA)).setCell ⟨w.heap.size + 1, 1, none⟩ (.slice gB m cB))) := by
                  have hb := (unhide HBW).trans (hBWi.mono (unhide HBW).size)
                  have hcw := (unhide HBc).size
                  have q1 := (hRA.set71 (o := 0) (u := .slice gA m cA) rr (by omega)).set71 (g := w.heap.size + 1) (o := 1) (u := .slice gB m cB) (cs := #[.slice gA m cA, .slice none 0 0]) (fz := (0, 0)) (by rw [heap_setCell_same _ _ _ _ _ _ rr]; rfl) (by omega)
                  have q2 := (hRB.set71 (o := 0) (u := .slice gA m cA) rr (by omega)).set71 (g := w.heap.size + 1) (o := 1) (u := .slice gB m cB) (cs := #[.slice gA m cA, .slice none 0 0]) (fz := (0, 0)) (by rw [heap_setCell_same _ _ _ _ _ _ rr]; rfl) (by omega)
                  obtain ⟨_, _, e1, hL1⟩ := q1.lsts
                  obtain ⟨_, _, e2, hL2⟩ := q2.lsts
                  cases e1
                  cases e2
                  have hall : (lists LS).take m = wyL L 0 (lF n (fun _ => 0)) (List.range n) := by
                    rw [← unhide HlS]
                    exact List.take_of_length_le (by rw [lists_len]; have := (unhide HLS).1; omega)
                  obtain ⟨l1, l2⟩ := unhide HLi
                  rw [hall] at l1 l2
                  exact ⟨(hb.setCell (p := ⟨w.heap.size + 1, 0, none⟩) (Nat.le_succ _) _).setCell (p := ⟨w.heap.size + 1, 1, none⟩) (Nat.le_succ _) _, gA, m, cA, AL, gB, m, cB, BL, by rw [unhide HE], hL1, hL2, by rw [l1, nmT_yes (unhide HE)], by rw [l2, nmT_yes (unhide HE)]⟩
                clear hRA hRB hLA hLB rr hBWi
                go_wp2_with fail
                (try simp only [Exit.inBlock, Exit.then])
                refine bodyPost_ret (results_row_tmp rfl _ _ _ (w.heap.size + 1) _ rfl (run_loadVar_row _ (w.heap.size + 1) 71 71 _ (0, 0) _ (over2 (unhide HRR)) Try.underlying71 rfl (by show _ = some 2; kernel_rfl))) rfl ?_
                exact unhide HF
          · have hE := nmE_2 (unhide HM) (fun q => h51 (unhide HV1 q.2))
            rw [hE] at HERR
            have HF := hide (unhide HERR wc (unhide HBc) (by omega))
            have d0 : decide ((5 : Int) < (m : Int)) = false := by simp; omega
            have d1 : decide ((5 : Int) < (m' : Int)) = true := by simp; omega
            clear hm0 hm1 rr
            go_wp2_with fail
            (try simp only [Exit.inBlock, Exit.then])
            refine bodyPost_ret (results_row_tmp rfl _ _ _ (w.heap.size + 1) _ rfl (run_loadVar_row _ (w.heap.size + 1) 71 71 _ (0, 0) _ (over2 (unhide HRR)) Try.underlying71 rfl (by show _ = some 2; kernel_rfl))) rfl ?_
            exact unhide HF
        · have hE := nmE_2 (unhide HM) (fun q => h50 (unhide HV0 q.1))
          rw [hE] at HERR
          have HF := hide (unhide HERR wc (unhide HBc) (by omega))
          have d0 : decide ((5 : Int) < (m : Int)) = true := by simp; omega
          clear hm0 hm1 rr
          go_wp2_with fail
          (try simp only [Exit.inBlock, Exit.then])
          refine bodyPost_ret (results_row_tmp rfl _ _ _ (w.heap.size + 1) _ rfl (run_loadVar_row _ (w.heap.size + 1) 71 71 _ (0, 0) _ (over2 (unhide HRR)) Try.underlying71 rfl (by show _ = some 2; kernel_rfl))) rfl ?_
          exact unhide HF
    · have hd : (P == 2) = false := by simpa using hP
      have hd' : (P != 2) = true := by simpa using hP
      have hE := nmE_7 hm hP
      rw [hE] at HERR
      unfold tV at CM ⊢
      clear h hW hbW hbox hN hm hP
      go_enter Try.func40, Try.ntmps40
      go_wp2_with fail
      rw [unhide HW]
      go_wp2_with fail
      refine (unhide CM).mono ?_
      rintro e w2 ⟨rfl, hb2⟩
      obtain ⟨v0, v1, v2⟩ := unhide HBX w2 hb2
      have z0 := cell_in' v2 0
      have z1 := cell_in' v2 1
      simp at z0 z1
      have HF := hide (unhide HERR w2 hb2 (by omega))
      have HV2 := hide v2
      clear hb2 w0 w1 v2
      go_wp2_with fail
      (try simp only [Exit.inBlock, Exit.then])
      refine bodyPost_ret (results_row_tmp rfl _ _ _ (w.heap.size + 1) _ rfl (run_loadVar_row _ (w.heap.size + 1) 71 71 _ (0, 0) _ (over2 (unhide HV2)) Try.underlying71 rfl (by show _ = some 2; kernel_rfl))) rfl ?_
      exact unhide HF
  · have hE := nmE_t hm
    have hmd : (tmE P n L == 0) = false := by simpa using hm
    have hmd' : (tmE P n L != 0) = true := by simpa using hm
    rw [hE] at HERR
    unfold tV at CM ⊢
    clear h hW hbW hbox hN
    generalize tmE P n L = T at *
    have HT0 := hide hm
    clear hm
    go_enter Try.func40, Try.ntmps40
    go_wp2_with fail
    rw [unhide HW]
    go_wp2_with fail
    refine (unhide CM).mono ?_
    rintro e w2 ⟨rfl, hb2⟩
    obtain ⟨v0, v1, v2⟩ := unhide HBX w2 hb2
    have z0 := cell_in' v2 0
    have z1 := cell_in' v2 1
    simp at z0 z1
    have HF := hide (unhide HERR w2 hb2 (unhide HT0))
    have HV2 := hide v2
    clear hb2 w0 w1 v2
    go_wp2_with fail
    (try simp only [Exit.inBlock, Exit.then])
    refine bodyPost_ret (results_row_tmp rfl _ _ _ (w.heap.size + 1) _ rfl (run_loadVar_row _ (w.heap.size + 1) 71 71 _ (0, 0) _ (over2 (unhide HV2)) Try.underlying71 rfl (by show _ = some 2; kernel_rfl))) rfl ?_
    exact unhide HF
end Go.Proofs.Ytbcchbhchfdbiaa
