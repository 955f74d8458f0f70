import Derived.Test.YtfagkgehljoppaaN
namespace Go.Proofs.Ytfagkgehljoppaa
open Go.RowKit
set_option maxRecDepth 100000 in
set_option maxHeartbeats 4000000 in
/-- SwapSays, walked. -/
theorem says_any (gv rd rw : Int) (fa : Option Addr) (fn fc : Nat) (F : List Sl) (ra : Option Addr) (rn rc : Nat) (R1 : List Sl) (oa : Option Addr) (on oc : Nat) (R2 : List Sl) (w : World) (hF : Lsts w fa fn fc F) (hfs : ∀ s ∈ F, s.ln ≤ 140737488351232) (hfn : fn ≤ 140737488351232) (h1 : Lsts w ra rn rc R1) (h1s : ∀ s ∈ R1, s.ln ≤ 140737488351232) (h1n : rn ≤ 140737488351232) (h2 : Lsts w oa on oc R2) (h2s : ∀ s ∈ R2, s.ln ≤ 140737488351232) (h2n : on ≤ 140737488351232) :
    Calls Try.prog 3 #[swV gv rd rw fa fn fc, .slice ra rn rc, .slice oa on oc] w fun e w' => e = .returned (.bool true) ∧ Below w.heap.size w w' := by
  obtain ⟨wA, hwA⟩ : ∃ y, y = w.alloc (.cells #[.int .i64 gv, .slice fa fn fc, .int .i64 rd, .int .i64 rw] 24) := ⟨_, rfl⟩
  have hbA : Below w.heap.size w wA := by rw [hwA]; go_grown
  have tA : SBox wA w.heap.size gv rd rw fa fn fc := by rw [hwA]; exact ⟨by simp, by simp, by simp, by simp⟩
  have HW := hide hwA
  clear hwA
  have CF := hide (heavy_any fa fn fc F wA (hF.later hbA) hfs hfn)
  have CR := hide (heavy_any ra rn rc R1 wA (h1.later hbA) h1s h1n)
  have CO := hide (heavy_any oa on oc R2 wA (h2.later hbA) h2s h2n)
  have t1 := tA.c1
  have HFA : Hid (Lsts wA fa fn fc F) := hF.later hbA
  have HRA : Hid (Lsts wA ra rn rc R1) := h1.later hbA
  have HOA : Hid (Lsts wA oa on oc R2) := h2.later hbA
  clear hF h1 h2 hfs h1s h2s
  unfold swV
  go_enter Try.func3, Try.ntmps3
  go_wp2_with fail
  rw [← unhide HW]
  refine (unhide CF).mono ?_
  rintro e w1 ⟨hv1, rfl, hb1, hw1⟩
  subst w1
  cases hv1 with
  | true =>
    go_wp2
    go_ret
    exact ⟨rfl, hbA⟩
  | false =>
  obtain ⟨hf1, hf2⟩ := hb1 rfl
  have HF2 := hide hf2
  clear hf2 hb1
  go_wp2_with fail
  refine (unhide CR).mono ?_
  rintro e w1 ⟨hv2, rfl, hb2, hw1⟩
  subst w1
  cases hv2 with
  | true =>
    go_wp2
    go_ret
    exact ⟨rfl, hbA⟩
  | false =>
  obtain ⟨hr1, hr2⟩ := hb2 rfl
  have HR2 := hide hr2
  clear hr2 hb2
  go_wp2_with fail
  refine (unhide CO).mono ?_
  rintro e w1 ⟨hv3, rfl, hb3, hw1⟩
  subst w1
  cases hv3 with
  | true =>
    go_wp2
    go_ret
    exact ⟨rfl, hbA⟩
  | false =>
  obtain ⟨ho1, ho2⟩ := hb3 rfl
  have HO2 := hide ho2
  clear ho2 hb3
  clear CF CR CO
  have t0 := tA.c0
  have t2 := tA.c2
  have t3 := tA.c3
  have CK := hide (check_any gv rd rw fa fn fc F ra rn rc R1 oa on oc R2 wA (unhide HFA) (unhide HF2) (unhide HRA) hr1 (unhide HR2) (unhide HOA) ho1 (unhide HO2))
  unfold swV pairV at CK
  go_wp2_with fail
  refine (unhide CK).mono ?_
  rintro e w1 ⟨rfl, hbc⟩
  have tB := tA.later hbc
  have hbwc := hbA.trans (hbc.mono hbA.size)
  clear t0 t1 t2 t3 CK
  have t0 := tB.c0
  have t1 := tB.c1
  have t2 := tB.c2
  have t3 := tB.c3
  have CS := hide (swapCheck_any gv rd rw fa fn fc F ra rn rc R1 oa on oc R2 w1 ((unhide HFA).later hbc) (unhide HF2) ((unhide HRA).later hbc) hr1 (unhide HR2) ((unhide HOA).later hbc) ho1 (unhide HO2))
  unfold swV pairV at CS
  generalize chkR gv rd rw F (lists R1) (lists R2) = CC at *
  obtain ⟨c1, c2⟩ := CC
  simp only at CS
  go_wp2_with fail
  refine (unhide CS).mono ?_
  rintro e w2 ⟨rfl, hbd⟩
  have tD := tB.later hbd
  have hbwd := hbwc.trans (hbd.mono hbwc.size)
  clear t0 t1 t2 t3 CS
  have p0q := cell_regrown tD.c0
  have p1q := cell_regrown tD.c1
  have p2q := cell_regrown tD.c2
  have p3q := cell_regrown tD.c3
  have HFD : Hid (Lsts w2 fa fn fc F) := ((unhide HFA).later hbc).later hbd
  have C1 := hide (fun d os => Calls.regrown_of (may_any gv rd rw fa fn fc F (Sort.grow (redrawn w2 d) os) ((unhide HFD).later (below_regrown w2 d os)) (unhide HF2)))
  have C2 := hide (fun d os => Calls.regrown_of (swapMay_any gv rd rw fa fn fc F (Sort.grow (redrawn w2 d) os) ((unhide HFD).later (below_regrown w2 d os)) (unhide HF2)))
  unfold swV at C1 C2
  generalize maySw gv rd rw F = M at *
  go_wp2_with fail
  refine wp_region_quiet_below (by kernel_rfl) (by kernel_rfl) ?_
  iterate 16 (quiet_step (first | with_reducible exact unhide C1 _ _ | with_reducible exact unhide C2 _ _))
  refine wpQuiet_nil ?_
  intro w3 hw'
  obtain ⟨⟨dq, osq⟩, hw''⟩ := hw'
  have hbq : Below w2.heap.size w2 w3 := by rw [hw'']; exact below_regrown _ _ _
  clear hw''
  go_wp2
  go_ret
  exact ⟨ret_bool (by simp), hbwd.trans (hbq.mono hbwd.size)⟩
end Go.Proofs.Ytfagkgehljoppaa
