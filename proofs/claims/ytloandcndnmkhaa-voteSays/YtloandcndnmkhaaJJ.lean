import Derived.Test.YtloandcndnmkhaaII
namespace Go.Proofs.Ytloandcndnmkhaa
open Go.RowKit
def ScRPost (pt : Nat → Int) (n : Nat) (l : List Bal) (w : World) (e : Ending) (w' : World) : Prop :=
  (∃ G, e = .returned (.slice (some ⟨G, 0, none⟩) n n) ∧ Vec w w' G n (scF pt l l.length)) ∧ Below w.heap.size w w'
set_option maxRecDepth 100000 in
set_option maxHeartbeats 4000000 in
theorem firstsR_any (n : Nat) (a : Option Addr) (m c : Nat) (l : List Bal) (w : World) (h : Bals w a m c l) (hg : Good n l) :
    Calls Try.prog 32 #[.int .i64 (n : Int), .slice a m c] w fun e w' => ScRPost pt1 n l w e w' := by
  obtain ⟨j3, hj3, hy0, hy1, hy2⟩ := info_parts info3
  have hn1 := hg.1
  have hn6 := hg.2.1
  have HM := hide h.1
  have HG := hide hg
  have HH := hide h
  have hc1 := h.2.1
  have hc2 := h.2.2.1
  unfold maxLen at hc2
  clear h hg
  go_enter Try.func32, Try.ntmps32
  go_wp2_with (at_make; refine wpList_make_full _ rfl _ _ 23 rfl w.heap.size 3 j3 _ 1 Try.underlying23 hj3 hy0 hy1 .i64 .i64 _ _ n rfl rfl rfl rfl (by rw [hy2]; omega) (by unfold maxLen; omega) (Nat.le_refl _) ?_; intro w2 ho2 hg2; have hb2 : Below w.heap.size w w2 := (Below.refl w.heap.size w).grown hg2 (Nat.le_refl _) (fun k hk => by cases hk))
  have hrow := row_made ho2
  obtain ⟨G, hG, e2, e3, e4, e5⟩ : ∃ gg, w.heap.size = gg ∧ w.heap.size ≤ gg ∧ gg < w2.heap.size ∧ (∀ t, t < n → w2.cell? ⟨gg, t, none⟩ = some (.int .i64 0)) ∧ (∀ t, t < n → w2.frozen? ⟨gg, t, none⟩ = false) := by
    rcases hrow with h | ⟨b, h1, h2, h3, h4, h5⟩
    · omega
    · cases h1; exact ⟨_, rfl, h2, h3, h4, h5⟩
  have HV0 : Hid (Below w.heap.size w w2 ∧ Vec w w2 G n (fun x => scF pt1 l 0 x)) := ⟨hb2, e2, e3, fun i hi => ⟨e4 i hi, e5 i hi⟩⟩
  rw [show (⟨w.heap.size, 0, none⟩ : Addr) = ⟨G, 0, none⟩ by rw [hG]]
  clear hrow ho2 hg2 hb2 hG e2 e3 e4 e5
  go_wp2_with fail
  go_loopw [6] (fun i wr => ∃ k : Nat, k ≤ m ∧ i = .int .i64 (k : Int) ∧ Below w.heap.size w wr ∧ Vec w wr G n (fun x => scF pt1 l k x)) (fun i _ => m - (intOf i).toNat)
  case atStart => exact ⟨0, Nat.zero_le _, rfl, unhide HV0⟩
  case round =>
    obtain ⟨k, hk, rfl, hbr, hv⟩ := hrel
    by_cases hlt : k < m
    · have hkl : k < l.length := by have := unhide HM; omega
      obtain ⟨b, off, ea, hb, hcell⟩ := (unhide HH).cellAt (by omega)
      obtain ⟨d1, d2⟩ := hcell k hlt
      obtain ⟨g1, g2, g3⟩ := (unhide HG).2.2.2 k hkl
      have hIo := (unhide HH).at hkl
      have hon : (balAt l k).on = n := by
        have q1 := hIo.1
        unfold ordE at g1
        split at g1
        · rename_i hq; omega
        · cases g1
      rw [hon] at d2 hIo
      obtain ⟨bo, oo, eo, hbo, hco⟩ := hIo.cellAt hn1
      rw [eo] at d2
      obtain ⟨X, hX, x2, x3⟩ := ord_at g1 hn1
      have ko := (hbr.cell (p := ⟨bo, oo + 0, none⟩) hbo).trans (hco 0 hn1)
      rw [x2, Nat.add_zero] at ko
      have d1 := (hbr.cell (p := ⟨b, off + k * 2, none⟩) hb).trans d1
      have d2 := (hbr.cell (p := ⟨b, off + k * 2 + 1, none⟩) hb).trans d2
      have hpl : plN (balAt l k) X = 0 := by unfold plN; rw [x3]; rfl
      have hoc1 := hIo.2.1
      have hoc2 := hIo.2.2.1
      unfold maxLen at hoc2
      have hvX := hv.2.2 X hX
      dsimp only at hvX
      have hbd := scF_le (unhide HG) (pt := pt1) (fun i _ => by unfold pt1; split <;> omega) hX k (by omega)
      have HF : Hid (∀ W', W' = (wr.drew.setCell ⟨G, X, none⟩ (.int .i64 (scF pt1 l k X + (balAt l k).count))) → Below w.heap.size w W' ∧ Vec w W' G n (fun x => scF pt1 l (k + 1) x)) := by
        intro W' hW'
        have rd : Vec w wr.drew G n (fun x => scF pt1 l k x) := hv
        rw [hW']
        refine ⟨hbr.drew.setCell (p := ⟨G, X, none⟩) hv.1 _, ?_⟩
        refine rd.set hX ?_ (fun i hi hne => ?_)
        · show scF pt1 l k X + (balAt l k).count * pt1 (plN (balAt l k) X) = _
          rw [hpl]; unfold pt1; rw [if_pos rfl, Int.mul_one]
        · obtain ⟨p, p1, p2, p3⟩ := ord_place g1 hi
          have e : plN (balAt l k) i = p := by unfold plN; rw [p2]; exact Int.toNat_natCast p
          have hnq : p ≠ 0 := fun e' => by
            rw [e', x2] at p3
            exact hne (by omega)
          show scF pt1 l k i + (balAt l k).count * pt1 (plN (balAt l k) i) = _
          rw [e]; unfold pt1; rw [if_neg hnq, Int.mul_zero, Int.add_zero]
      subst ea
      generalize (balAt l k).count = cnt at *
      generalize (balAt l k).oc = oc at *
      generalize scF pt1 l k X = V at *
      have hm30 : (k : Int) ≤ 30 := by have := (unhide HG).2.2.1; omega
      have w2' : IntKind.i64.wrap (V + cnt) = V + cnt := by rw [IntKind.wrap_i64]; omega
      have hXi : (X : Int) < n := by omega
      have hki : (k : Int) < m := by omega
      obtain ⟨C, hC⟩ : ∃ C : World → Prop, C = fun Z => Z = wr.drew := ⟨_, rfl⟩
      have hCc : ∀ Z, C Z → Z.cell? ⟨G, X, none⟩ = some (.int .i64 V) ∧ Z.cell? ⟨b, off + k * 2, none⟩ = some (.int .i64 cnt) ∧ Z.cell? ⟨b, off + k * 2 + 1, none⟩ = some (.slice (some ⟨bo, oo, none⟩) n oc) ∧ Z.cell? ⟨bo, oo, none⟩ = some (.int .i64 (X : Int)) := fun Z hZ => by
        rw [hC] at hZ
        subst hZ
        exact ⟨hvX.1, d1, d2, ko⟩
      have HVX := hide hvX
      clear hbr hv hcell hco hvX d1 d2 ko hIo eo
      go_wp2_with fail
      refine wp_calm_tail C 25 (by kernel_rfl) (by kernel_rfl) (by rw [hC]) ?_
      simp only [List.take_succ_cons, List.take_zero, List.drop_succ_cons, List.drop_zero]
      refine walkC_yes (.slice (some ⟨G, 0, none⟩) n n) (by kernel_rfl) (fun Z hZ => ?_) ?_
      · simp [upC, go_sem]
        exact hZ
      simp only [Act.put, List.setIfInBounds_toArray, List.set_cons_succ, List.set_cons_zero]
      refine walkC_yes (.slice (some ⟨b, off, none⟩) m c) (by kernel_rfl) (fun Z hZ => ?_) ?_
      · simp [upC, go_sem]
        exact hZ
      simp only [Act.put, List.setIfInBounds_toArray, List.set_cons_succ, List.set_cons_zero]
      refine walkC_yes (.int .i64 (k : Int)) (by kernel_rfl) (fun Z hZ => ?_) ?_
      · simp [upC, go_sem]
        exact hZ
      simp only [Act.put, List.setIfInBounds_toArray, List.set_cons_succ, List.set_cons_zero]
      refine walkC_yes (.pointer (some ⟨b, off + k * 2, none⟩)) (by kernel_rfl) (fun Z hZ => ?_) ?_
      · simp [upC, go_sem, hki]
        exact hZ
      simp only [Act.put, List.setIfInBounds_toArray, List.set_cons_succ, List.set_cons_zero]
      refine walkC_yes (.pointer (some ⟨b, off + k * 2 + 1, none⟩)) (by kernel_rfl) (fun Z hZ => ?_) ?_
      · simp [upC, go_sem]
        exact hZ
      simp only [Act.put, List.setIfInBounds_toArray, List.set_cons_succ, List.set_cons_zero]
      refine walkC_yes (.slice (some ⟨bo, oo, none⟩) n oc) (by kernel_rfl) (fun Z hZ => ?_) ?_
      · simp [upC, go_sem, (hCc Z hZ).2.2.1]
        exact hZ
      simp only [Act.put, List.setIfInBounds_toArray, List.set_cons_succ, List.set_cons_zero]
      refine walkC_yes (.pointer (some ⟨bo, oo, none⟩)) (by kernel_rfl) (fun Z hZ => ?_) ?_
      · simp [upC, go_sem, hn1]
        exact hZ
      simp only [Act.put, List.setIfInBounds_toArray, List.set_cons_succ, List.set_cons_zero]
      refine walkC_yes (.int .i64 (X : Int)) (by kernel_rfl) (fun Z hZ => ?_) ?_
      · simp [upC, go_sem, (hCc Z hZ).2.2.2]
        exact hZ
      simp only [Act.put, List.setIfInBounds_toArray, List.set_cons_succ, List.set_cons_zero]
      refine walkC_yes (.slice (some ⟨G, 0, none⟩) n n) (by kernel_rfl) (fun Z hZ => ?_) ?_
      · simp [upC, go_sem]
        exact hZ
      simp only [Act.put, List.setIfInBounds_toArray, List.set_cons_succ, List.set_cons_zero]
      refine walkC_yes (.slice (some ⟨b, off, none⟩) m c) (by kernel_rfl) (fun Z hZ => ?_) ?_
      · simp [upC, go_sem]
        exact hZ
      simp only [Act.put, List.setIfInBounds_toArray, List.set_cons_succ, List.set_cons_zero]
      refine walkC_yes (.int .i64 (k : Int)) (by kernel_rfl) (fun Z hZ => ?_) ?_
      · simp [upC, go_sem]
        exact hZ
      simp only [Act.put, List.setIfInBounds_toArray, List.set_cons_succ, List.set_cons_zero]
      refine walkC_yes (.pointer (some ⟨b, off + k * 2, none⟩)) (by kernel_rfl) (fun Z hZ => ?_) ?_
      · simp [upC, go_sem, hki]
        exact hZ
      simp only [Act.put, List.setIfInBounds_toArray, List.set_cons_succ, List.set_cons_zero]
      refine walkC_yes (.pointer (some ⟨b, off + k * 2 + 1, none⟩)) (by kernel_rfl) (fun Z hZ => ?_) ?_
      · simp [upC, go_sem]
        exact hZ
      simp only [Act.put, List.setIfInBounds_toArray, List.set_cons_succ, List.set_cons_zero]
      refine walkC_yes (.slice (some ⟨bo, oo, none⟩) n oc) (by kernel_rfl) (fun Z hZ => ?_) ?_
      · simp [upC, go_sem, (hCc Z hZ).2.2.1]
        exact hZ
      simp only [Act.put, List.setIfInBounds_toArray, List.set_cons_succ, List.set_cons_zero]
      refine walkC_yes (.pointer (some ⟨bo, oo, none⟩)) (by kernel_rfl) (fun Z hZ => ?_) ?_
      · simp [upC, go_sem, hn1]
        exact hZ
      simp only [Act.put, List.setIfInBounds_toArray, List.set_cons_succ, List.set_cons_zero]
      refine walkC_yes (.int .i64 (X : Int)) (by kernel_rfl) (fun Z hZ => ?_) ?_
      · simp [upC, go_sem, (hCc Z hZ).2.2.2]
        exact hZ
      simp only [Act.put, List.setIfInBounds_toArray, List.set_cons_succ, List.set_cons_zero]
      refine walkC_yes (.pointer (some ⟨G, X, none⟩)) (by kernel_rfl) (fun Z hZ => ?_) ?_
      · simp [upC, go_sem, hXi]
        exact hZ
      simp only [Act.put, List.setIfInBounds_toArray, List.set_cons_succ, List.set_cons_zero]
      refine walkC_yes (.int .i64 V) (by kernel_rfl) (fun Z hZ => ?_) ?_
      · simp [upC, go_sem, (hCc Z hZ).1]
        exact hZ
      simp only [Act.put, List.setIfInBounds_toArray, List.set_cons_succ, List.set_cons_zero]
      refine walkC_yes (.slice (some ⟨b, off, none⟩) m c) (by kernel_rfl) (fun Z hZ => ?_) ?_
      · simp [upC, go_sem]
        exact hZ
      simp only [Act.put, List.setIfInBounds_toArray, List.set_cons_succ, List.set_cons_zero]
      refine walkC_yes (.int .i64 (k : Int)) (by kernel_rfl) (fun Z hZ => ?_) ?_
      · simp [upC, go_sem]
        exact hZ
      simp only [Act.put, List.setIfInBounds_toArray, List.set_cons_succ, List.set_cons_zero]
      refine walkC_yes (.pointer (some ⟨b, off + k * 2, none⟩)) (by kernel_rfl) (fun Z hZ => ?_) ?_
      · simp [upC, go_sem, hki]
        exact hZ
      simp only [Act.put, List.setIfInBounds_toArray, List.set_cons_succ, List.set_cons_zero]
      refine walkC_yes (.pointer (some ⟨b, off + k * 2, none⟩)) (by kernel_rfl) (fun Z hZ => ?_) ?_
      · simp [upC, go_sem]
        exact hZ
      simp only [Act.put, List.setIfInBounds_toArray, List.set_cons_succ, List.set_cons_zero]
      refine walkC_yes (.int .i64 cnt) (by kernel_rfl) (fun Z hZ => ?_) ?_
      · simp [upC, go_sem, (hCc Z hZ).2.1]
        exact hZ
      simp only [Act.put, List.setIfInBounds_toArray, List.set_cons_succ, List.set_cons_zero]
      refine walkC_yes (.int .i64 (V + cnt)) (by kernel_rfl) (fun Z hZ => ?_) ?_
      · simp [upC, go_sem, w2']
        exact hZ
      simp only [Act.put, List.setIfInBounds_toArray, List.set_cons_succ, List.set_cons_zero]
      refine walkC_yes (.pointer (some ⟨G, X, none⟩)) (by kernel_rfl) (fun Z hZ => ?_) ?_
      · simp [upC, go_sem, hXi]
        exact hZ
      simp only [Act.put, List.setIfInBounds_toArray, List.set_cons_succ, List.set_cons_zero]
      intro Z hZ
      rw [hC] at hZ
      subst hZ
      have cX : wr.drew.cell? ⟨G, X, none⟩ = some (.int .i64 V) := (unhide HVX).1
      have fX : wr.drew.frozen? ⟨G, X, none⟩ = false := (unhide HVX).2
      go_wp2_with fail
      go_roundw
      case rel => exact ⟨k + 1, by omega, by go_num, unhide HF _ rfl⟩
      case measure => simp [intOf]; omega
    · obtain rfl : k = m := by omega
      go_wp2_with fail
      go_ret
      refine ⟨⟨G, rfl, ?_⟩, hbr⟩
      rw [← unhide HM]
      exact hv
end Go.Proofs.Ytloandcndnmkhaa
