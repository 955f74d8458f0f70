import Derived.Test.YtloandcndnmkhaaHH
namespace Go.Proofs.Ytloandcndnmkhaa
open Go.RowKit
def pt2 (n : Nat) (i : Nat) : Int := (n : Int) - 1 - i
set_option maxRecDepth 100000 in
theorem borda1_any (Bn n i : Nat) (w : World) (hn : n ≤ 6) (hi : i < n) (hb : w.cell? ⟨Bn, 0, none⟩ = some (.int .i64 (n : Int))) : Calls Try.prog 46 #[.int .i64 (i : Int), .pointer (some ⟨Bn, 0, none⟩)] w fun e w' => e = .returned (.int .i64 (pt2 n i)) ∧ w' = w := by
  have z1 : IntKind.i64.wrap ((n : Int) - 1) = (n : Int) - 1 := by rw [IntKind.wrap_i64]; omega
  have z2 : IntKind.i64.wrap ((n : Int) - 1 - (i : Int)) = (n : Int) - 1 - (i : Int) := by rw [IntKind.wrap_i64]; omega
  go_enter Try.func46, Try.ntmps46
  go_wp2
  go_ret
  exact ⟨ret_int (by unfold pt2; first | rfl | omega | go_num), rfl⟩
set_option maxRecDepth 100000 in
set_option maxHeartbeats 4000000 in
theorem score2_any (Bn : Nat) (n : Nat) (a : Option Addr) (m c : Nat) (l : List Bal) (w : World) (h : Bals w a m c l) (hg : Good n l) (hbn : w.cell? ⟨Bn, 0, none⟩ = some (.int .i64 (n : Int))) :
    Calls Try.prog 44 #[.int .i64 (n : Int), .slice a m c, .func (.func 46) #[] #[.pointer (some ⟨Bn, 0, none⟩)]] w fun e w' => ScPost (pt2 n) n l w e w' := by
  obtain ⟨j3, hj3, hy0, hy1, hy2⟩ := info_parts info3
  have hn1 := hg.1
  have hn6 := hg.2.1
  have CM := may_any (n : Int) a m c l w h
  rw [(good_iff n l).2 hg] at CM
  have CM := hide CM
  have HM := hide h.1
  have HG := hide hg
  have HH := hide h
  have hc1 := h.2.1
  have hc2 := h.2.2.1
  unfold maxLen at hc2
  have WC : Hid (∀ (i : Nat) (X : World), i < n → Below w.heap.size w X → Calls Try.prog 46 #[.int .i64 (i : Int), .pointer (some ⟨Bn, 0, none⟩)] X fun e w' => e = .returned (.int .i64 (pt2 n i)) ∧ w' = X) := fun i X hi hX => borda1_any Bn n i X (by omega) hi ((hX.cell (p := ⟨Bn, 0, none⟩) (block_lt_of_cell hbn)).trans hbn)
  clear hbn
  have hpt : Hid (∀ i, i < n → 0 ≤ pt2 n i ∧ pt2 n i ≤ 5) := fun i hi => by unfold pt2; omega
  generalize pt2 n = pt at *
  clear h hg
  go_enter Try.func44, Try.ntmps44
  go_wp2_with fail
  refine (unhide CM).mono ?_
  rintro e w1 ⟨rfl, hb1⟩
  have HB1 := hide hb1
  clear hb1
  go_wp2_with (at_make; refine wpList_make_full _ rfl _ _ 23 rfl w1.heap.size 3 j3 _ 1 Try.underlying23 hj3 hy0 hy1 .i64 .i64 _ _ n rfl rfl rfl rfl (by rw [hy2]; omega) (by unfold maxLen; omega) (Nat.le_refl _) ?_; intro w2 ho2 hg2; have hb2 : Below w1.heap.size w1 w2 := (Below.refl w1.heap.size w1).grown hg2 (Nat.le_refl _) (fun k hk => by cases hk))
  have hrow := row_made ho2
  obtain ⟨G, hG, e2, e3, e4, e5⟩ : ∃ gg, w1.heap.size = gg ∧ w1.heap.size ≤ gg ∧ gg < w2.heap.size ∧ (∀ t, t < n → w2.cell? ⟨gg, t, none⟩ = some (.int .i64 0)) ∧ (∀ t, t < n → w2.frozen? ⟨gg, t, none⟩ = false) := by
    rcases hrow with h | ⟨b, h1, h2, h3, h4, h5⟩
    · omega
    · cases h1; exact ⟨_, rfl, h2, h3, h4, h5⟩
  rw [hG]
  have HV0 : Hid (Below w.heap.size w w2 ∧ Vec w w2 G n (fun x => scF pt l 0 x)) := ⟨(unhide HB1).trans (hb2.mono (unhide HB1).size), by have := (unhide HB1).size; omega, e3, fun i hi => ⟨e4 i hi, e5 i hi⟩⟩
  clear hrow ho2 hg2 hb2 hG e2 e3 e4 e5 HB1
  go_wp2_with fail
  go_loopw [24] (fun i wr => ∃ k : Nat, k ≤ m ∧ i = .int .i64 (k : Int) ∧ Below w.heap.size w wr ∧ Vec w wr G n (fun x => scF pt l k x)) (fun i _ => m - (intOf i).toNat)
  case atStart => exact ⟨0, Nat.zero_le _, rfl, unhide HV0⟩
  case round =>
    obtain ⟨k, hk, rfl, hbr, hv⟩ := hrel
    by_cases hlt : k < m
    · have hkl : k < l.length := by have := unhide HM; omega
      obtain ⟨b, off, ea, hb, hcell⟩ := ((unhide HH).later hbr).cellAt (by omega)
      obtain ⟨d1, d2⟩ := hcell k hlt
      obtain ⟨g1, g2, g3⟩ := (unhide HG).2.2.2 k hkl
      have hIo := (unhide HH).at hkl
      have hon : (balAt l k).on = n := by
        have q1 := hIo.1
        unfold ordE at g1
        split at g1
        · rename_i hq; omega
        · cases g1
      rw [hon] at d2 hIo
      have HW := hide (And.intro hbr hv)
      have HGK := hide (And.intro g1 (And.intro g2 g3))
      have HIO := hide hIo
      subst ea
      clear hbr hv hcell g1 hIo
      generalize hcnt : (balAt l k).count = cnt at *
      generalize hoa : (balAt l k).oa = oa at *
      generalize hoc : (balAt l k).oc = oc at *
      have HCN := hide hcnt
      clear hcnt hoa hoc
      go_wp2_with fail
      obtain ⟨B11, hB11⟩ : ∃ y, y = wr.heap.size := ⟨_, rfl⟩
      obtain ⟨X0, hX0⟩ : ∃ y, y = wr.alloc (.cells #[.int .i64 cnt, .slice oa n oc] 44) := ⟨_, rfl⟩
      rw [← hB11, ← hX0]
      have HI0 : Hid (Below w.heap.size w X0 ∧ G < B11 ∧ B11 < X0.heap.size ∧ X0.heap[B11]? = some (.cells #[.int .i64 cnt, .slice oa n oc] 44 (0, 0)) ∧ Vec w X0 G n (fun x => scF pt l k x + if plN (balAt l k) x < 0 then cnt * pt (plN (balAt l k) x) else 0)) := by
        obtain ⟨hbr, hv⟩ := unhide HW
        have ha := (Below.refl wr.heap.size wr).alloc (Nat.le_refl _) (.cells #[.int .i64 cnt, .slice oa n oc] 44)
        rw [← hX0] at ha
        refine ⟨hbr.trans (ha.mono hbr.size), by rw [hB11]; exact hv.2.1, by rw [hX0, hB11]; simp, by rw [hX0, hB11]; exact alloc_new _ _, ?_⟩
        have hv2 := hv.later ha
        refine ⟨hv2.1, hv2.2.1, fun i hi => ⟨?_, (hv2.2.2 i hi).2⟩⟩
        rw [(hv2.2.2 i hi).1]
        dsimp only
        rw [if_neg (by omega), Int.add_zero]
      clear hB11 hX0 HW
      (try rw [show decide ((k : Int) < (m : Int)) = true by simp; omega])
      go_loopw [31] (fun i wy => ∃ q : Nat, q ≤ n ∧ i = .int .i64 (q : Int) ∧ Below w.heap.size w wy ∧ G < B11 ∧ B11 < wy.heap.size ∧ wy.heap[B11]? = some (.cells #[.int .i64 cnt, .slice oa n oc] 44 (0, 0)) ∧ Vec w wy G n (fun x => scF pt l k x + if plN (balAt l k) x < q then cnt * pt (plN (balAt l k) x) else 0)) (fun i _ => n - (intOf i).toNat)
      case atStart => exact ⟨0, Nat.zero_le _, rfl, unhide HI0⟩
      case round =>
        obtain ⟨q, hq, rfl, r1, r2, r3, r4, r5⟩ := hrel
        by_cases hltq : q < n
        · obtain ⟨bo, oo, eo, hbo, hco⟩ := (unhide HIO).cellAt hn1
          subst eo
          obtain ⟨X, hX, x2, x3⟩ := ord_at (unhide HGK).1 hltq
          have ko := (r1.cell (p := ⟨bo, oo + q, none⟩) hbo).trans (hco q hltq)
          rw [x2] at ko
          have hpl : plN (balAt l k) X = q := by unfold plN; rw [x3]; exact Int.toNat_natCast q
          have hoc1 := (unhide HIO).2.1
          have hoc2 := (unhide HIO).2.2.1
          unfold maxLen at hoc2
          have hvX := r5.2.2 X hX
          dsimp only at hvX
          rw [if_neg (by omega), Int.add_zero] at hvX
          have hbd := scF_le (unhide HG) (unhide hpt) hX k (by omega)
          have hpq := unhide hpt q hltq
          have WQ := hide (unhide WC q wr.drew hltq r1.drew)
          have HF : Hid (∀ W', W' = (wr.drew.setCell ⟨G, X, none⟩ (.int .i64 (scF pt l k X + cnt * pt q))) → Below w.heap.size w W' ∧ G < B11 ∧ B11 < W'.heap.size ∧ W'.heap[B11]? = some (.cells #[.int .i64 cnt, .slice (some ⟨bo, oo, none⟩) n oc] 44 (0, 0)) ∧ Vec w W' G n (fun x => scF pt l k x + if plN (balAt l k) x < q + 1 then cnt * pt (plN (balAt l k) x) else 0)) := by
            intro W' hW'
            have rd : Vec w wr.drew G n (fun x => scF pt l k x + if plN (balAt l k) x < q then cnt * pt (plN (balAt l k) x) else 0) := r5
            rw [hW']
            refine ⟨r1.drew.setCell (p := ⟨G, X, none⟩) r5.1 _, r2, by rw [World.size_setCell]; exact r3, ?_, ?_⟩
            · rw [Below.heap_setCell _ _ _ _ (by show B11 ≠ G; omega)]; exact r4
            · refine rd.set hX (by rw [hpl, if_pos (by omega)]) (fun i hi hne => ?_)
              obtain ⟨p, p1, p2, p3⟩ := ord_place (unhide HGK).1 hi
              have e : plN (balAt l k) i = p := by unfold plN; rw [p2]; exact Int.toNat_natCast p
              have hnq : p ≠ q := fun e' => by
                rw [e'] at p3
                rw [x2] at p3
                exact hne (by omega)
              rw [e]
              by_cases hp : p < q
              · rw [if_pos hp, if_pos (by omega)]
              · rw [if_neg hp, if_neg (by omega)]
          have m0 : 0 ≤ cnt * pt q := Int.mul_nonneg g2 hpq.1
          have m1 : cnt * pt q ≤ 1000 * 5 := Int.mul_le_mul g3 hpq.2 hpq.1 (by omega)
          generalize pt q = pq at *
          generalize scF pt l k X = V at *
          have w1' : IntKind.i64.wrap (cnt * pq) = cnt * pq := by rw [IntKind.wrap_i64]; omega
          have hm30 : (k : Int) ≤ 30 := by have := (unhide HG).2.2.1; omega
          have w2' : IntKind.i64.wrap (V + cnt * pq) = V + cnt * pq := by rw [IntKind.wrap_i64]; omega
          have hXi : (X : Int) < n := by omega
          obtain ⟨C, hC⟩ : ∃ C : World → Prop, C = fun Z => Z = wr.drew := ⟨_, rfl⟩
          have hCc : ∀ Z, C Z → Z.cell? ⟨G, X, none⟩ = some (.int .i64 V) ∧ Z.cell? ⟨B11, 0, none⟩ = some (.int .i64 cnt) := fun Z hZ => by
            rw [hC] at hZ
            subst hZ
            exact ⟨hvX.1, by show wr.cell? _ = _; simp [World.cell?, r4]⟩
          have hqi : (q : Int) < n := by omega
          have hqd : decide ((q : Int) < (n : Int)) = true := decide_eq_true hqi
          have HVX := hide hvX
          clear r1 r3 r4 r5 hvX hco
          · go_wp2_with fail
            refine wp_calm_tail C 12 (by kernel_rfl) (by kernel_rfl) (by rw [hC]) ?_
            simp only [List.take_succ_cons, List.take_zero, List.drop_succ_cons, List.drop_zero]
            refine walkC_yes (.slice (some ⟨G, 0, none⟩) n n) (by kernel_rfl) (fun Z hZ => ?_) ?_
            · simp [upC, go_sem]
              exact hZ
            simp only [Act.put, List.setIfInBounds_toArray, List.set_cons_succ, List.set_cons_zero]
            refine walkC_yes (.int .i64 (X : Int)) (by kernel_rfl) (fun Z hZ => ?_) ?_
            · simp [upC, go_sem]
              exact hZ
            simp only [Act.put, List.setIfInBounds_toArray, List.set_cons_succ, List.set_cons_zero]
            refine walkC_yes (.pointer (some ⟨G, X, none⟩)) (by kernel_rfl) (fun Z hZ => ?_) ?_
            · simp [upC, go_sem, hXi]
              exact hZ
            simp only [Act.put, List.setIfInBounds_toArray, List.set_cons_succ, List.set_cons_zero]
            refine walkC_yes (.int .i64 V) (by kernel_rfl) (fun Z hZ => ?_) ?_
            · simp [upC, go_sem, (hCc Z hZ).1]
              exact hZ
            simp only [Act.put, List.setIfInBounds_toArray, List.set_cons_succ, List.set_cons_zero]
            refine walkC_yes (.pointer (some ⟨B11, 0, none⟩)) (by kernel_rfl) (fun Z hZ => ?_) ?_
            · simp [upC, go_sem]
              exact hZ
            simp only [Act.put, List.setIfInBounds_toArray, List.set_cons_succ, List.set_cons_zero]
            refine walkC_yes (.int .i64 cnt) (by kernel_rfl) (fun Z hZ => ?_) ?_
            · simp [upC, go_sem, (hCc Z hZ).2]
              exact hZ
            simp only [Act.put, List.setIfInBounds_toArray, List.set_cons_succ, List.set_cons_zero]
            refine walkC_yes (.func (.func 46) #[] #[.pointer (some ⟨Bn, 0, none⟩)]) (by kernel_rfl) (fun Z hZ => ?_) ?_
            · simp [upC, go_sem]
              exact hZ
            simp only [Act.put, List.setIfInBounds_toArray, List.set_cons_succ, List.set_cons_zero]
            refine walkC_yes (.int .i64 (q : Int)) (by kernel_rfl) (fun Z hZ => ?_) ?_
            · simp [upC, go_sem]
              exact hZ
            simp only [Act.put, List.setIfInBounds_toArray, List.set_cons_succ, List.set_cons_zero]
            refine walkC_yes (.int .i64 pq) (by kernel_rfl) (fun Z hZ => ?_) ?_
            · simp [upC, go_sem]
              rw [hC] at hZ ⊢
              subst hZ
              exact unhide WQ
            simp only [Act.put, List.setIfInBounds_toArray, List.set_cons_succ, List.set_cons_zero]
            refine walkC_yes (.int .i64 (cnt * pq)) (by kernel_rfl) (fun Z hZ => ?_) ?_
            · simp [upC, go_sem, w1']
              exact hZ
            simp only [Act.put, List.setIfInBounds_toArray, List.set_cons_succ, List.set_cons_zero]
            refine walkC_yes (.int .i64 (V + cnt * pq)) (by kernel_rfl) (fun Z hZ => ?_) ?_
            · simp [upC, go_sem, w2']
              exact hZ
            simp only [Act.put, List.setIfInBounds_toArray, List.set_cons_succ, List.set_cons_zero]
            refine walkC_yes (.pointer (some ⟨G, X, none⟩)) (by kernel_rfl) (fun Z hZ => ?_) ?_
            · simp [upC, go_sem, hXi]
              exact hZ
            simp only [Act.put, List.setIfInBounds_toArray, List.set_cons_succ, List.set_cons_zero]
            intro Z hZ
            rw [hC] at hZ
            subst hZ
            have cX : wr.drew.cell? ⟨G, X, none⟩ = some (.int .i64 V) := (unhide HVX).1
            have fX : wr.drew.frozen? ⟨G, X, none⟩ = false := (unhide HVX).2
            go_wp2_with fail
            go_roundw
            case rel => exact ⟨q + 1, by omega, by go_num, unhide HF _ rfl⟩
            case measure => simp [intOf]; omega
        · obtain rfl : q = n := by omega
          go_wp2_with fail
          go_roundw
          case rel =>
            refine ⟨k + 1, by omega, by go_num, r1, r5.1, r5.2.1, fun i hi => ⟨?_, (r5.2.2 i hi).2⟩⟩
            obtain ⟨p, p1, p2, _⟩ := ord_place (unhide HGK).1 hi
            have e : plN (balAt l k) i = p := by unfold plN; rw [p2]; exact Int.toNat_natCast p
            rw [(r5.2.2 i hi).1]
            dsimp only
            rw [e, if_pos p1]
            show _ = some (Value.int .i64 (scF pt l k i + (balAt l k).count * pt (plN (balAt l k) i)))
            rw [e, unhide HCN]
          case measure => simp [intOf]; omega
    · obtain rfl : k = m := by omega
      go_wp2_with fail
      go_ret2
      refine ⟨⟨G, rfl, ?_⟩, hbr⟩
      rw [← unhide HM]
      exact hv
set_option maxRecDepth 100000 in
set_option maxHeartbeats 1000000 in
/-- Where ballots may not be: nothing, and why. -/
theorem score_err (fv : Value) (x : Int) (a : Option Addr) (m c : Nat) (l : List Bal) (w : World) (h : Bals w a m c l) (he : voteE x l ≠ 0) :
    Calls Try.prog 44 #[.int .i64 x, .slice a m c, fv] w fun e w' => e = .returned (.tuple #[.slice none 0 0, .int .i64 (voteE x l)]) ∧ Below w.heap.size w w' := by
  have CM := hide (may_any x a m c l w h)
  clear h
  generalize voteE x l = r at *
  have hne : (r == 0) = false := by simp [he]
  go_enter Try.func44, Try.ntmps44
  go_wp2_with fail
  refine (unhide CM).mono ?_
  rintro e w1 ⟨rfl, hb1⟩
  go_wp2_with fail
  go_ret2
  exact ⟨rfl, hb1⟩
set_option maxRecDepth 100000 in
set_option maxHeartbeats 1000000 in
theorem firsts_any (n : Nat) (a : Option Addr) (m c : Nat) (l : List Bal) (w : World) (h : Bals w a m c l) (hg : Good n l) :
    Calls Try.prog 12 #[.int .i64 (n : Int), .slice a m c] w fun e w' => ScPost pt1 n l w e w' := by
  have C1 := hide (score1_any n a m c l w h hg)
  clear h
  go_enter Try.func12, Try.ntmps12
  go_wp2_with fail
  refine (unhide C1).mono ?_
  rintro e w1 ⟨⟨G, rfl, hv⟩, hb1⟩
  have HV := hide hv
  clear hv
  go_wp2_with fail
  go_ret2
  exact ⟨⟨G, rfl, unhide HV⟩, hb1⟩
set_option maxRecDepth 100000 in
set_option maxHeartbeats 1000000 in
theorem borda_any (n : Nat) (a : Option Addr) (m c : Nat) (l : List Bal) (w : World) (h : Bals w a m c l) (hg : Good n l) :
    Calls Try.prog 13 #[.int .i64 (n : Int), .slice a m c] w fun e w' => ScPost (pt2 n) n l w e w' := by
  have hb0 : Below w.heap.size w (w.alloc (.cells #[.int .i64 (n : Int)] 3)) := (Below.refl _ w).alloc (Nat.le_refl _) _
  have hcn : (w.alloc (.cells #[.int .i64 (n : Int)] 3)).cell? ⟨w.heap.size, 0, none⟩ = some (.int .i64 (n : Int)) := by
    unfold World.cell?
    rw [show (w.alloc (.cells #[.int .i64 (n : Int)] 3)).heap[(⟨w.heap.size, 0, none⟩ : Addr).block]? = some (.cells #[.int .i64 (n : Int)] 3) from alloc_new _ _]
    rfl
  have C1 := hide (score2_any w.heap.size n a m c l _ (h.later hb0) hg hcn)
  clear h hcn
  go_enter Try.func13, Try.ntmps13
  go_wp2_with fail
  refine (unhide C1).mono ?_
  rintro e w1 ⟨⟨G, rfl, hv⟩, hb1⟩
  have HV := hide hv
  clear hv
  go_wp2_with fail
  go_ret2
  exact ⟨⟨G, rfl, by have := (unhide HV).1; simp at this; omega, (unhide HV).2⟩, hb0.trans (hb1.mono (by simp))⟩
end Go.Proofs.Ytloandcndnmkhaa
