import Derived.Test.YtfagkgehljoppaaD
namespace Go.Proofs.Ytfagkgehljoppaa
open Go.RowKit
theorem quiet_skip {Pr : Program} {ops : Array Oper} {C : World → Prop} {Q : Act → Prop} {a : Act} {o : Oper} {rest : List Oper} (hw : Region.wanted o (yielded ops a.tmps) = false) (h : wpQuiet Pr ops C Q rest (a.put o.dst undef)) : wpQuiet Pr ops C Q (o :: rest) a := by
  unfold wpQuiet
  rw [if_neg (by rw [hw]; exact Bool.false_ne_true)]
  exact h
def fitsB (F : List Sl) (i : Nat) (x : Int) : Bool := decide (0 ≤ idxFrom (slAt F i).ints x 0)
def rowB (gv rw : Int) (n : Nat) (l : List Int) : Bool := decide ((n : Int) - 1 ≤ rw) && decide (l[0]?.getD 0 < gv)
def roundB (gv rd : Int) (F : List Sl) (n : Nat) (l : List Int) : Bool := decide ((n : Int) ≤ rd) && (!decide (l[0]?.getD 0 < gv) && fitsB F (l[n - 1]?.getD 0).toNat (l[0]?.getD 0))
set_option maxHeartbeats 1000000 in
theorem mayRow_any (gv rd rw : Int) (fa : Option Addr) (fn fc : Nat) (a : Option Addr) (n c : Nat) (l : List Int) (w : World) (h : Ints w a n c l) (hn : 2 ≤ n) (hn2 : n ≤ 1024) :
    Calls Try.prog 14 #[swV gv rd rw fa fn fc, .slice a n c] w fun e w' => e = .returned (.bool (rowB gv rw n l)) ∧ Below w.heap.size w w' := by
  obtain ⟨wA, hwA⟩ : ∃ y, y = w.alloc (.cells #[.int .i64 gv, .slice fa fn fc, .int .i64 rd, .int .i64 rw] 24) := ⟨_, rfl⟩
  have hbA : Below w.heap.size w wA := by rw [hwA]; go_grown
  have tA : SBox wA w.heap.size gv rd rw fa fn fc := by rw [hwA]; exact ⟨by simp, by simp, by simp, by simp⟩
  have HW := hide hwA
  clear hwA
  have hIA := h.later hbA
  obtain ⟨b, off, rfl, hb, hcell⟩ := hIA.cellAt (by omega)
  have hc := h.2.1
  have hm := h.2.2.1
  unfold maxLen at hm
  have x0 := hcell 0 (by omega)
  rw [Nat.add_zero] at x0
  have hn0 : 0 < n := by omega
  clear hcell
  have HR0 : Hid (rowB gv rw n l = (decide ((n : Int) - 1 ≤ rw) && decide (l[0]?.getD 0 < gv))) := rfl
  generalize rowB gv rw n l = R at *
  generalize l[0]?.getD 0 = x at *
  have C1 := hide (fun d os => Calls.regrown_of (gives_any gv rd rw fa fn fc x (Sort.grow (redrawn wA d) os)))
  have C2 := C1
  unfold swV at C1 C2 ⊢
  have p0q := cell_regrown tA.c0
  have p1q := cell_regrown tA.c1
  have p2q := cell_regrown tA.c2
  have p3q := cell_regrown tA.c3
  have x0q := cell_regrown x0
  have zw : IntKind.i64.wrap ((n : Int) - 1) = (n : Int) - 1 := by rw [IntKind.wrap_i64]; omega
  by_cases h1 : (n : Int) - 1 ≤ rw
  · have d1 : decide ((n : Int) - 1 ≤ rw) = true := decide_eq_true h1
    have HR : Hid (R = decide (x < gv)) := by rw [unhide HR0, d1]; rfl
    clear HR0
    go_enter Try.func14, Try.ntmps14
    go_wp2_with fail
    rw [← unhide HW]
    refine wp_region_quiet_below (by kernel_rfl) (by kernel_rfl) ?_
    iterate 14 (quiet_step (first | with_reducible exact unhide C1 _ _ | with_reducible exact unhide C2 _ _))
    refine wpQuiet_nil ?_
    intro _ hw'
    obtain ⟨⟨dq, osq⟩, hw''⟩ := hw'
    subst hw''
    have hbq := below_regrown wA dq osq
    go_wp2
    go_ret
    exact ⟨ret_bool (by rw [unhide HR]), hbA.trans (hbq.mono hbA.size)⟩
  · have d1 : decide ((n : Int) - 1 ≤ rw) = false := decide_eq_false h1
    have HR : Hid (R = false) := by rw [unhide HR0, d1]; rfl
    clear HR0
    go_enter Try.func14, Try.ntmps14
    go_wp2_with fail
    rw [← unhide HW]
    refine wp_region_quiet_below (by kernel_rfl) (by kernel_rfl) ?_
    iterate 7 (quiet_step (first | with_reducible exact unhide C1 _ _ | with_reducible exact unhide C2 _ _))
    iterate 5 (with_reducible refine quiet_skip (by kernel_rfl) ?_)
    iterate 2 (quiet_step (first | with_reducible exact unhide C1 _ _ | with_reducible exact unhide C2 _ _))
    refine wpQuiet_nil ?_
    intro _ hw'
    obtain ⟨⟨dq, osq⟩, hw''⟩ := hw'
    subst hw''
    have hbq := below_regrown wA dq osq
    go_wp2
    go_ret
    exact ⟨ret_bool (by rw [unhide HR]), hbA.trans (hbq.mono hbA.size)⟩
set_option maxHeartbeats 1000000 in
theorem mayRound_any (gv rd rw : Int) (fa : Option Addr) (fn fc : Nat) (F : List Sl) (a : Option Addr) (n c : Nat) (l : List Int) (w : World) (hF : Lsts w fa fn fc F) (h : Ints w a n c l) (hn : 2 ≤ n) (hn2 : n ≤ 1024) (hlast : 0 ≤ l[n - 1]?.getD 0 ∧ l[n - 1]?.getD 0 < fn) :
    Calls Try.prog 13 #[swV gv rd rw fa fn fc, .slice a n c] w fun e w' => e = .returned (.bool (roundB gv rd F n l)) ∧ Below w.heap.size w w' := by
  obtain ⟨wA, hwA⟩ : ∃ y, y = w.alloc (.cells #[.int .i64 gv, .slice fa fn fc, .int .i64 rd, .int .i64 rw] 24) := ⟨_, rfl⟩
  have hbA : Below w.heap.size w wA := by rw [hwA]; go_grown
  have tA : SBox wA w.heap.size gv rd rw fa fn fc := by rw [hwA]; exact ⟨by simp, by simp, by simp, by simp⟩
  have HW := hide hwA
  clear hwA
  have hIA := h.later hbA
  obtain ⟨b, off, rfl, hb, hcell⟩ := hIA.cellAt (by omega)
  have hc := h.2.1
  have hm := h.2.2.1
  unfold maxLen at hm
  have x0 := hcell 0 (by omega)
  rw [Nat.add_zero] at x0
  have hn0 : 0 < n := by omega
  have x9 := hcell (n - 1) (by omega)
  clear hcell
  have HR0 : Hid (roundB gv rd F n l = (decide ((n : Int) ≤ rd) && (!decide (l[0]?.getD 0 < gv) && fitsB F (l[n - 1]?.getD 0).toNat (l[0]?.getD 0)))) := rfl
  obtain ⟨t, ht⟩ : ∃ t : Nat, l[n - 1]?.getD 0 = t := ⟨(l[n - 1]?.getD 0).toNat, by omega⟩
  rw [ht] at x9 HR0 hlast
  rw [Int.toNat_natCast] at HR0
  clear ht
  generalize roundB gv rd F n l = R at *
  generalize l[0]?.getD 0 = x at *
  have C1 := hide (fun d os => Calls.regrown_of (gives_any gv rd rw fa fn fc x (Sort.grow (redrawn wA d) os)))
  have C2 := hide (fun d os => Calls.regrown_of (fits_any gv rd rw fa fn fc F t x (Sort.grow (redrawn wA d) os) (hF.later (hbA.trans ((below_regrown wA d os).mono hbA.size))) (by omega)))
  have HFB : Hid (fitsB F t x = decide (0 ≤ idxFrom (slAt F t).ints x 0)) := rfl
  rw [← unhide HFB] at C2
  generalize fitsB F t x = B at *
  unfold swV at C1 C2 ⊢
  have p0q := cell_regrown tA.c0
  have p1q := cell_regrown tA.c1
  have p2q := cell_regrown tA.c2
  have p3q := cell_regrown tA.c3
  have x0q := cell_regrown x0
  have x9q := cell_regrown x9
  obtain ⟨n', rfl⟩ : ∃ n', n = n' + 1 := ⟨n - 1, by omega⟩
  rw [Nat.add_sub_cancel] at x9q x9
  rw [show (((n' + 1 : Nat) : Int)) = (n' : Int) + 1 by omega] at HR0
  have zw : IntKind.i64.wrap ((n' : Int) + 1 - 1) = (n' : Int) := by rw [IntKind.wrap_i64]; omega
  have zw3 : (n' : Int) < (n' : Int) + 1 := by omega
  have zw2 : IntKind.i64.wrap (n' : Int) = (n' : Int) := by rw [IntKind.wrap_i64]; omega
  by_cases h1 : (n' : Int) + 1 ≤ rd
  · have d1 : decide ((n' : Int) + 1 ≤ rd) = true := decide_eq_true h1
    by_cases h2 : x < gv
    · have d2 : decide (x < gv) = true := decide_eq_true h2
      have HR : Hid (R = false) := by rw [unhide HR0, d1, d2]; rfl
      rw [d2] at C1
      clear HR0
      go_enter Try.func13, Try.ntmps13
      go_wp2_with fail
      rw [← unhide HW]
      refine wp_region_quiet_below (by kernel_rfl) (by kernel_rfl) ?_
      iterate 14 (quiet_step (first | with_reducible exact unhide C1 _ _ | with_reducible exact unhide C2 _ _))
      iterate 11 (with_reducible refine quiet_skip (by kernel_rfl) ?_)
      iterate 2 (quiet_step (first | with_reducible exact unhide C1 _ _ | with_reducible exact unhide C2 _ _))
      refine wpQuiet_nil ?_
      intro _ hw'
      obtain ⟨⟨dq, osq⟩, hw''⟩ := hw'
      subst hw''
      have hbq := below_regrown wA dq osq
      go_wp2
      go_ret
      exact ⟨ret_bool (by rw [unhide HR]), hbA.trans (hbq.mono hbA.size)⟩
    · have d2 : decide (x < gv) = false := decide_eq_false h2
      have HR : Hid (R = B) := by rw [unhide HR0, d1, d2]; cases B <;> rfl
      rw [d2] at C1
      clear HR0
      go_enter Try.func13, Try.ntmps13
      go_wp2_with fail
      rw [← unhide HW]
      refine wp_region_quiet_below (by kernel_rfl) (by kernel_rfl) ?_
      iterate 27 (quiet_step (first | with_reducible exact unhide C1 _ _ | with_reducible exact unhide C2 _ _))
      refine wpQuiet_nil ?_
      intro _ hw'
      obtain ⟨⟨dq, osq⟩, hw''⟩ := hw'
      subst hw''
      have hbq := below_regrown wA dq osq
      go_wp2
      go_ret
      exact ⟨ret_bool (by rw [unhide HR]), hbA.trans (hbq.mono hbA.size)⟩
  · have d1 : decide ((n' : Int) + 1 ≤ rd) = false := decide_eq_false h1
    have HR : Hid (R = false) := by rw [unhide HR0, d1]; rfl
    clear HR0
    go_enter Try.func13, Try.ntmps13
    go_wp2_with fail
    rw [← unhide HW]
    refine wp_region_quiet_below (by kernel_rfl) (by kernel_rfl) ?_
    iterate 6 (quiet_step (first | with_reducible exact unhide C1 _ _ | with_reducible exact unhide C2 _ _))
    iterate 6 (with_reducible refine quiet_skip (by kernel_rfl) ?_)
    iterate 2 (quiet_step (first | with_reducible exact unhide C1 _ _ | with_reducible exact unhide C2 _ _))
    iterate 11 (with_reducible refine quiet_skip (by kernel_rfl) ?_)
    iterate 2 (quiet_step (first | with_reducible exact unhide C1 _ _ | with_reducible exact unhide C2 _ _))
    refine wpQuiet_nil ?_
    intro _ hw'
    obtain ⟨⟨dq, osq⟩, hw''⟩ := hw'
    subst hw''
    have hbq := below_regrown wA dq osq
    go_wp2
    go_ret
    exact ⟨ret_bool (by rw [unhide HR]), hbA.trans (hbq.mono hbA.size)⟩
end Go.Proofs.Ytfagkgehljoppaa
