import Derived.Test.YtfagkgehljoppaaD
namespace Go.Proofs.Ytfagkgehljoppaa
open Go.RowKit
set_option maxRecDepth 100000 in
set_option maxHeartbeats 4000000 in
theorem may_any (gv rd rw : Int) (fa : Option Addr) (fn fc : Nat) (F : List Sl) (w : World) (h : Lsts w fa fn fc F) (hln : ∀ s ∈ F, s.ln ≤ 1024) :
    Calls Try.prog 7 #[swV gv rd rw fa fn fc] w fun e w' => e = .returned (.int .i64 (maySw gv rd rw F)) ∧ Below w.heap.size w w' := by
  obtain ⟨wA, hwA⟩ : ∃ y, y = w.alloc (.cells #[.int .i64 gv, .slice fa fn fc, .int .i64 rd, .int .i64 rw] 24) := ⟨_, rfl⟩
  have hbA : Below w.heap.size w wA := by rw [hwA]; go_grown
  have tA : SBox wA w.heap.size gv rd rw fa fn fc := by rw [hwA]; exact ⟨by simp, by simp, by simp, by simp⟩
  have HW := hide hwA
  clear hwA
  have hA := h.later hbA
  have HN := hide h.1
  have HLN := hide hln
  clear hln
  have hc1 := h.2.1
  have hc2 := h.2.2.1
  unfold maxLen at hc2
  have t0 := tA.c0
  have t1 := tA.c1
  have t2 := tA.c2
  have t3 := tA.c3
  unfold swV
  by_cases h8 : 8 < fn
  · have HM := hide (swm1 (gv := gv) (rd := rd) (rw := rw) (F := F) (by have := unhide HN; omega))
    go_enter Try.func7, Try.ntmps7
    go_wp2_with fail
    rw [← unhide HW]
    go_wp2
    go_ret
    exact ⟨ret_int (by rw [unhide HM]), hbA⟩
  have d8 : decide (8 < (fn : Int)) = false := by simp; omega
  by_cases hg : gv < 0 ∨ (fn : Int) < gv
  · have HM := hide (swm2 (gv := gv) (rd := rd) (rw := rw) (F := F) (by have := unhide HN; omega) (by have := unhide HN; omega))
    by_cases g1 : gv < 0
    · have d1 : decide (gv < 0) = true := decide_eq_true g1
      go_enter Try.func7, Try.ntmps7
      go_wp2_with fail
      rw [← unhide HW]
      go_wp2
      go_ret
      exact ⟨ret_int (by rw [unhide HM]), hbA⟩
    · have d1 : decide (gv < 0) = false := decide_eq_false g1
      have d2 : decide ((fn : Int) < gv) = true := decide_eq_true (by omega)
      go_enter Try.func7, Try.ntmps7
      go_wp2_with fail
      rw [← unhide HW]
      go_wp2
      go_ret
      exact ⟨ret_int (by rw [unhide HM]), hbA⟩
  have d1 : decide (gv < 0) = false := decide_eq_false (by omega)
  have d2 : decide ((fn : Int) < gv) = false := decide_eq_false (by omega)
  by_cases hv : rd < 0 ∨ (fn : Int) < rd ∨ rw < 0 ∨ (fn : Int) < rw
  · have HM := hide (swm3 (gv := gv) (rd := rd) (rw := rw) (F := F) (by have := unhide HN; omega) (by have := unhide HN; omega) (by have := unhide HN; omega))
    clear hg
    by_cases r1 : rd < 0
    · have d3 : decide (rd < 0) = true := decide_eq_true r1
      clear hv
      go_enter Try.func7, Try.ntmps7
      go_wp2_with fail
      rw [← unhide HW]
      go_wp2
      go_ret
      exact ⟨ret_int (by rw [unhide HM]), hbA⟩
    have d3 : decide (rd < 0) = false := decide_eq_false r1
    by_cases r2 : rw < 0
    · have d4 : decide (rw < 0) = true := decide_eq_true r2
      by_cases r3 : (fn : Int) < rd
      · have d5 : decide ((fn : Int) < rd) = true := decide_eq_true r3
        clear hv
        go_enter Try.func7, Try.ntmps7
        go_wp2_with fail
        rw [← unhide HW]
        go_wp2
        go_ret
        exact ⟨ret_int (by rw [unhide HM]), hbA⟩
      · have d5 : decide ((fn : Int) < rd) = false := decide_eq_false r3
        clear hv
        go_enter Try.func7, Try.ntmps7
        go_wp2_with fail
        rw [← unhide HW]
        go_wp2
        go_ret
        exact ⟨ret_int (by rw [unhide HM]), hbA⟩
    have d4 : decide (rw < 0) = false := decide_eq_false r2
    by_cases r3 : (fn : Int) < rd
    · have d5 : decide ((fn : Int) < rd) = true := decide_eq_true r3
      clear hv
      go_enter Try.func7, Try.ntmps7
      go_wp2_with fail
      rw [← unhide HW]
      go_wp2
      go_ret
      exact ⟨ret_int (by rw [unhide HM]), hbA⟩
    have d5 : decide ((fn : Int) < rd) = false := decide_eq_false r3
    have d6 : decide ((fn : Int) < rw) = true := decide_eq_true (by omega)
    clear hv
    go_enter Try.func7, Try.ntmps7
    go_wp2_with fail
    rw [← unhide HW]
    go_wp2
    go_ret
    exact ⟨ret_int (by rw [unhide HM]), hbA⟩
  have HM := hide (swm4 (gv := gv) (rd := rd) (rw := rw) (F := F) (by have := unhide HN; omega) (by have := unhide HN; omega) (by have := unhide HN; omega))
  rw [← unhide HN] at HM
  have d3 : decide (rd < 0) = false := decide_eq_false (by omega)
  have d4 : decide (rw < 0) = false := decide_eq_false (by omega)
  have d5 : decide ((fn : Int) < rd) = false := decide_eq_false (by omega)
  have d6 : decide ((fn : Int) < rw) = false := decide_eq_false (by omega)
  have hg0 : 0 ≤ gv ∧ gv ≤ 8 := by omega
  clear hg hv
  go_enter Try.func7, Try.ntmps7
  go_wp2_with fail
  rw [← unhide HW]
  go_wp2_with fail
  go_loop [49] (fun i => ∃ k : Nat, k ≤ fn ∧ i = .int .i64 k ∧ okAll gv fn F k = true) (fun i => fn - (intOf i).toNat)
  case atStart => exact ⟨0, Nat.zero_le _, rfl, rfl⟩
  case round =>
    obtain ⟨i, hi, rfl, hok⟩ := hrel
    have HOK := hide hok
    clear hok
    by_cases hlt : i < fn
    · obtain ⟨b, off, rfl, hb, hcell⟩ := hA.cellAt (by omega)
      have hck := hcell i hlt
      have hI := hA.mem hlt
      have hsm := unhide HLN (slAt F i) (slAt_mem (by have := unhide HN; omega))
      have HA1 : Hid (okAll gv fn F (i + 1) = (okAll gv fn F i && okRow gv fn i (slAt F i).ints (slAt F i).ints.length)) := rfl
      have HAF : Hid (okRow gv fn i (slAt F i).ints (slAt F i).ints.length = false → okAll gv fn F fn = false) := fun e => okAll_false e fn hlt
      generalize slAt F i = S at *
      obtain ⟨la, ln, lc, ints⟩ := S
      simp only at hck hI hsm HA1 HAF
      have hlc := hI.2.1
      have hlm := hI.2.2.1
      unfold maxLen at hlm
      have HLL := hide hI.1
      rw [← unhide HLL] at HA1 HAF
      clear hcell
      go_wp2_with fail
      go_loop [59, 6] (fun kk v => ∃ k : Nat, k ≤ ln ∧ kk = .int .i64 k ∧ v = .int .i64 (lastI gv ints k) ∧ okRow gv fn i ints k = true) (fun kk _ => ln - (intOf kk).toNat)
      case atStart => exact ⟨0, Nat.zero_le _, rfl, by unfold lastI; rw [if_pos rfl], rfl⟩
      case round =>
        obtain ⟨k, hk, rfl, rfl, hrow⟩ := hrel
        by_cases hkl : k < ln
        · obtain ⟨bI, oI, rfl, hbI, hcI⟩ := hI.cellAt (by omega)
          have hx := hcI k hkl
          have hbad := last_bad hrow
          have HROW := hide hrow
          have HNX : Hid (lastI gv ints (k + 1) = ints[k]?.getD 0) := by show _ = _; unfold lastI; rw [if_neg (by omega)]; rfl
          have HO1 : Hid (okRow gv fn i ints (k + 1) = (okRow gv fn i ints k && !badP gv fn i ints k)) := rfl
          have HOF : Hid (badP gv fn i ints k = true → okRow gv fn i ints ln = false) := fun e => okRow_false e ln hkl
          clear hcI hrow
          generalize badP gv fn i ints k = B at *
          generalize ints[k]?.getD 0 = x at *
          generalize lastI gv ints k = y at *
          by_cases c1 : x ≤ y
          · have e1 : decide (x ≤ y) = true := decide_eq_true c1
            have HB : Hid (B = true) := by rw [hbad, e1]; rfl
            clear hbad
            go_wp2
            go_ret
            exact ⟨ret_int (by rw [unhide HM, unhide HAF (unhide HOF (unhide HB))]; rfl), hbA⟩
          have e1 : decide (x ≤ y) = false := decide_eq_false c1
          by_cases c2 : x = (i : Int)
          · have e2 : (x == (i : Int)) = true := by simpa using c2
            have HB : Hid (B = true) := by rw [hbad, e1, decide_eq_true c2]; rfl
            clear hbad c2
            go_wp2
            go_ret
            exact ⟨ret_int (by rw [unhide HM, unhide HAF (unhide HOF (unhide HB))]; rfl), hbA⟩
          have e2 : (x == (i : Int)) = false := by simpa using c2
          by_cases c3 : (fn : Int) ≤ x
          · have e3 : decide ((fn : Int) ≤ x) = true := decide_eq_true c3
            have HB : Hid (B = true) := by rw [hbad, e1, decide_eq_false c2, e3]; rfl
            clear hbad c2
            go_wp2
            go_ret
            exact ⟨ret_int (by rw [unhide HM, unhide HAF (unhide HOF (unhide HB))]; rfl), hbA⟩
          have e3 : decide ((fn : Int) ≤ x) = false := decide_eq_false c3
          have HB : Hid (B = false) := by rw [hbad, e1, decide_eq_false c2, e3]; rfl
          clear hbad c2
          go_wp2
          refine ⟨⟨k + 1, by omega, by go_num, by rw [unhide HNX], by rw [unhide HO1, unhide HROW, unhide HB]; rfl⟩, by simp [intOf]; omega⟩
        · obtain rfl : k = ln := by omega
          have HR2 := hide hrow
          clear hrow
          go_wp2
          refine ⟨⟨i + 1, by omega, by go_num, by rw [unhide HA1, unhide HOK, unhide HR2]; rfl⟩, by simp [intOf]; omega⟩
    · obtain rfl : i = fn := by omega
      go_wp2
      go_ret
      exact ⟨ret_int (by rw [unhide HM, unhide HOK]; rfl), hbA⟩
end Go.Proofs.Ytfagkgehljoppaa
