import Derived.Test.YtfagkgehljoppaaG
namespace Go.Proofs.Ytfagkgehljoppaa
open Go.RowKit
theorem and_bit : ∀ s : Nat, s < 256 → ∀ x : Nat, x < 8 → (bits .and .i64 ((s : Int) / 2 ^ x) 1 == 1) = s.testBit x := by decide +kernel
theorem eight_take {u l : List Int} {n k : Nat} (hu : Eight u) (h8 : n ≤ 8) (hkl : k ≤ l.length) (hv : ∀ j, j < k → 0 ≤ l[j]?.getD 0 ∧ l[j]?.getD 0 < n) : Eight (u ++ l.take k) := fun x hx => by
  rcases List.mem_append.1 hx with h | h
  · exact hu x h
  · obtain ⟨j, hj, e⟩ := List.getElem_of_mem h
    have hj2 : j < k ∧ j < l.length := by rw [List.length_take] at hj; omega
    have := hv j hj2.1
    rw [List.getElem?_eq_getElem hj2.2] at this
    rw [List.getElem_take] at e
    rw [← e]
    have t : l[j] = (some l[j]).getD 0 := rfl
    rw [t]
    omega
theorem setN_append (a b : List Int) : setN (a ++ b) = b.foldl (fun s x => s ||| 2 ^ x.toNat) (setN a) := by simp [setN]
theorem setN_or (a b : List Int) : setN (a ++ b) = setN a ||| setN b := by
  have go : ∀ (l : List Int) (s : Nat), l.foldl (fun s x => s ||| 2 ^ x.toNat) s = s ||| setN l := by
    intro l
    induction l with
    | nil => intro s; simp [setN]
    | cons x l ih =>
      intro s
      rw [List.foldl_cons, ih]
      show _ = s ||| (List.foldl _ (0 ||| 2 ^ x.toNat) l)
      rw [ih (0 ||| 2 ^ x.toNat), Nat.zero_or, Nat.or_assoc]
  rw [setN_append, go]
/-- What is said of one chain, from its k-th on; u: who is used already. -/
def chFuel (F : List Sl) (n : Nat) (l u : List Int) : Nat → Nat → Int
  | 0, _ => 0
  | f + 1, k => if l[k]?.getD 0 < 0 ∨ (n : Int) ≤ l[k]?.getD 0 then 8 else if l[k]?.getD 0 ∈ u ++ l.take k then 6 else if 0 < k ∧ fitsB F (l[k - 1]?.getD 0).toNat (l[k]?.getD 0) = false then 11 else chFuel F n l u f (k + 1)
def chFrom (F : List Sl) (n : Nat) (l u : List Int) (k : Nat) : Int := chFuel F n l u (l.length - k) k
theorem ch_step {F : List Sl} {n : Nat} {l u : List Int} {k : Nat} (h : k < l.length) : chFrom F n l u k = if l[k]?.getD 0 < 0 ∨ (n : Int) ≤ l[k]?.getD 0 then 8 else if l[k]?.getD 0 ∈ u ++ l.take k then 6 else if 0 < k ∧ fitsB F (l[k - 1]?.getD 0).toNat (l[k]?.getD 0) = false then 11 else chFrom F n l u (k + 1) := by
  unfold chFrom
  rw [show l.length - k = (l.length - (k + 1)) + 1 by omega, chFuel]
theorem ch_end {F : List Sl} {n : Nat} {l u : List Int} {k : Nat} (h : ¬ k < l.length) : chFrom F n l u k = 0 := by
  unfold chFrom
  rw [show l.length - k = 0 by omega, chFuel]
def chE (F : List Sl) (n : Nat) (l u : List Int) : Int := if l.length < 2 then 7 else chFrom F n l u 0
set_option maxRecDepth 100000 in
set_option maxHeartbeats 4000000 in
theorem mayChain_any (gv rd rw : Int) (fa : Option Addr) (fn fc : Nat) (F : List Sl) (a : Option Addr) (n c : Nat) (l u : List Int) (w : World) (hF : Lsts w fa fn fc F) (h : Ints w a n c l) (hn2 : n ≤ 1024) (h8 : fn ≤ 8) (hu : Eight u) :
    Calls Try.prog 10 #[swV gv rd rw fa fn fc, .slice a n c, .int .i64 (setN u)] w fun e w' => e = .returned (.int .i64 (chE F fn l u)) ∧ Below w.heap.size w w' := by
  obtain ⟨wA, hwA⟩ : ∃ y, y = w.alloc (.cells #[.int .i64 gv, .slice fa fn fc, .int .i64 rd, .int .i64 rw] 24) := ⟨_, rfl⟩
  have hbA : Below w.heap.size w wA := by rw [hwA]; go_grown
  have tA : SBox wA w.heap.size gv rd rw fa fn fc := by rw [hwA]; exact ⟨by simp, by simp, by simp, by simp⟩
  have HW := hide hwA
  clear hwA
  have HL := hide h.1
  have hc := h.2.1
  have hm := h.2.2.1
  unfold maxLen at hm
  have HU := hide hu
  clear hu
  unfold swV
  by_cases hs : n < 2
  · have HE : Hid (chE F fn l u = 7) := by show _ = _; unfold chE; rw [if_pos (by have := unhide HL; omega)]
    have d0 : decide ((n : Int) < 2) = true := by simp; omega
    go_enter Try.func10, Try.ntmps10
    go_wp2_with fail
    rw [← unhide HW]
    go_wp2
    go_ret
    exact ⟨ret_int (by rw [unhide HE]), hbA⟩
  have HE : Hid (chE F fn l u = chFrom F fn l u 0) := by show _ = _; unfold chE; rw [if_neg (by have := unhide HL; omega)]
  have d0 : decide ((n : Int) < 2) = false := by simp; omega
  go_enter Try.func10, Try.ntmps10
  go_wp2_with fail
  rw [← unhide HW]
  go_loopw [14, 2] (fun i v wr => Below wA.heap.size wA wr ∧ ∃ k : Nat, k ≤ n ∧ i = .int .i64 k ∧ v = .int .i64 (setN (u ++ l.take k)) ∧ (∀ j, j < k → 0 ≤ l[j]?.getD 0 ∧ l[j]?.getD 0 < fn) ∧ chFrom F fn l u 0 = chFrom F fn l u k) (fun i _ _ => n - (intOf i).toNat)
  case atStart => exact ⟨Below.refl _ _, 0, Nat.zero_le _, rfl, by rw [List.take_zero, List.append_nil], fun j hj => by omega, rfl⟩
  case round =>
    obtain ⟨hbr, k, hk, rfl, rfl, hv, hch⟩ := hrel
    have HV := hide hv
    have HCH := hide hch
    clear hv hch
    have tR := tA.later hbr
    have hbwr := hbA.trans (hbr.mono hbA.size)
    by_cases hlt : k < n
    · have hIr := h.later hbwr
      obtain ⟨b, off, rfl, hb, hcell⟩ := hIr.cellAt (by omega)
      have hx := hcell k hlt
      have HCL := hide hcell
      have hkl : k < l.length := by have := unhide HL; omega
      have HST := hide (ch_step (F := F) (n := fn) (l := l) (u := u) hkl)
      have h8u := eight_take (unhide HU) h8 (by omega : k ≤ l.length) (unhide HV)
      have hlt2 := setN_lt _ h8u
      have HBIT := hide (fun x => setN_bit (u ++ l.take k) x h8u)
      have t0 := tR.c0
      have t1 := tR.c1
      have t2 := tR.c2
      have t3 := tR.c3
      clear hcell h8u
      by_cases c1 : l[k]?.getD 0 < 0
      · have HR : Hid (chFrom F fn l u k = 8) := by rw [unhide HST, if_pos (.inl c1)]; rfl
        generalize l[k]?.getD 0 = x at *
        generalize setN (u ++ l.take k) = s at *
        have e1 : decide (x < 0) = true := decide_eq_true c1
        go_wp2
        go_ret
        exact ⟨ret_int (by rw [unhide HE, unhide HCH, unhide HR]), hbwr⟩
      by_cases c2 : (fn : Int) ≤ l[k]?.getD 0
      · have HR : Hid (chFrom F fn l u k = 8) := by rw [unhide HST, if_pos (.inr c2)]; rfl
        generalize l[k]?.getD 0 = x at *
        generalize setN (u ++ l.take k) = s at *
        have e1 : decide (x < 0) = false := decide_eq_false c1
        have e2 : decide ((fn : Int) ≤ x) = true := decide_eq_true c2
        go_wp2
        go_ret
        exact ⟨ret_int (by rw [unhide HE, unhide HCH, unhide HR]), hbwr⟩
      obtain ⟨x, hx2⟩ : ∃ x : Nat, l[k]?.getD 0 = x := ⟨(l[k]?.getD 0).toNat, by omega⟩
      have HX2 := hide hx2
      rw [hx2] at hx c1 c2 HST
      rw [if_neg (show ¬ ((x : Int) < 0 ∨ (fn : Int) ≤ (x : Int)) by omega)] at HST
      have hx8 : x < 8 := by omega
      have HNX : Hid (setN (u ++ l.take (k + 1)) = setN (u ++ l.take k) ||| 2 ^ x) := by
        show _ = _
        rw [take_snocI l hkl, ← List.append_assoc, setN_snoc, hx2]
        rfl
      have HTB := unhide HBIT x
      clear hx2
      have e1 : decide ((x : Int) < 0) = false := decide_eq_false c1
      have e2 : decide ((fn : Int) ≤ (x : Int)) = false := decide_eq_false c2
      have hab := and_bit (setN (u ++ l.take k)) hlt2 x hx8
      have HOB := hide (or_bit (setN (u ++ l.take k)) hlt2 x hx8)
      rw [HTB] at hab
      by_cases c3 : (x : Int) ∈ u ++ l.take k
      · rw [decide_eq_true c3] at hab
        rw [if_pos c3] at HST
        clear HBIT HTB HNX HOB c3
        generalize setN (u ++ l.take k) = s at *
        go_wp2
        go_ret
        exact ⟨ret_int (by rw [unhide HE, unhide HCH, unhide HST]), hbwr⟩
      · rw [decide_eq_false c3] at hab
        rw [if_neg c3] at HST
        clear HBIT HTB c3
        generalize setN (u ++ l.take k) = s at *
        have p0q := cell_regrown t0
        have p1q := cell_regrown t1
        have p2q := cell_regrown t2
        have p3q := cell_regrown t3
        by_cases c4 : 0 < k
        · obtain ⟨k', rfl⟩ : ∃ k', k = k' + 1 := ⟨k - 1, by omega⟩
          have hpv := unhide HCL k' (by omega)
          have hv' := unhide HV k' (by omega)
          obtain ⟨y, hy⟩ : ∃ y : Nat, l[k']?.getD 0 = y := ⟨(l[k']?.getD 0).toNat, by omega⟩
          rw [Nat.add_sub_cancel, hy, Int.toNat_natCast] at HST
          rw [hy] at hpv hv'
          have xq := cell_regrown hpv
          have C1 := hide (fun d os => Calls.regrown_of (fits_any gv rd rw fa fn fc F y x (Sort.grow (redrawn wr d) os) (hF.later (hbwr.trans ((below_regrown wr d os).mono hbwr.size))) (by omega)))
          have HFB : Hid (fitsB F y x = decide (0 ≤ idxFrom (slAt F y).ints x 0)) := rfl
          rw [← unhide HFB] at C1
          unfold swV at C1
          have e4 : decide (0 < (k' : Int) + 1) = true := decide_eq_true (by omega)
          have zw : IntKind.i64.wrap ((k' : Int) + 1 - 1) = (k' : Int) := by rw [IntKind.wrap_i64]; omega
          have zw2 : IntKind.i64.wrap (k' : Int) = (k' : Int) := by rw [IntKind.wrap_i64]; omega
          have zw3 : (k' : Int) < (n : Int) := by omega
          have zw4 : k' < n := by omega
          clear hy HFB
          cases hfb : fitsB F y x with
          | false =>
            rw [hfb] at HST C1
            have HST2 : Hid (chFrom F fn l u (k' + 1) = 11) := by rw [unhide HST, if_pos ⟨by omega, rfl⟩]; rfl
            go_wp2_with fail
            refine wp_region_quiet_below (by kernel_rfl) (by kernel_rfl) ?_
            iterate 14 (quiet_step (with_reducible exact unhide C1 _ _))
            refine wpQuiet_nil ?_
            intro _ hw'
            obtain ⟨⟨dq, osq⟩, hw''⟩ := hw'
            subst hw''
            have hbq := below_regrown wr dq osq
            go_wp2
            go_ret
            exact ⟨ret_int (by rw [unhide HE, unhide HCH, unhide HST2]), hbwr.trans (hbq.mono hbwr.size)⟩
          | true =>
            rw [hfb] at HST C1
            have HST2 : Hid (chFrom F fn l u (k' + 1) = chFrom F fn l u (k' + 1 + 1)) := by rw [unhide HST, if_neg (by simp)]; rfl
            go_wp2_with fail
            refine wp_region_quiet_below (by kernel_rfl) (by kernel_rfl) ?_
            iterate 14 (quiet_step (with_reducible exact unhide C1 _ _))
            refine wpQuiet_nil ?_
            intro _ hw'
            obtain ⟨⟨dq, osq⟩, hw''⟩ := hw'
            subst hw''
            have hbq := below_regrown wr dq osq
            go_wp2
            go_roundw
            case rel =>
              refine ⟨hbr.trans (hbq.mono hbr.size), k' + 1 + 1, by omega, by go_num, by rw [unhide HNX, ← unhide HOB], fun j hj => ?_, by rw [unhide HCH, unhide HST2]⟩
              by_cases e : j = k' + 1
              · subst e; rw [unhide HX2]; omega
              · exact unhide HV j (by omega)
            case measure => simp [intOf]; omega
        · obtain rfl : k = 0 := by omega
          have C1 := HL
          rw [Nat.add_zero] at hx
          have HST2 : Hid (chFrom F fn l u 0 = chFrom F fn l u (0 + 1)) := by rw [unhide HST, if_neg (by omega)]; rfl
          go_wp2_with fail
          refine wp_region_quiet_below (by kernel_rfl) (by kernel_rfl) ?_
          iterate 3 (quiet_step (fail))
          iterate 9 (with_reducible refine quiet_skip (by kernel_rfl) ?_)
          iterate 2 (quiet_step (fail))
          refine wpQuiet_nil ?_
          intro _ hw'
          obtain ⟨⟨dq, osq⟩, hw''⟩ := hw'
          subst hw''
          have hbq := below_regrown wr dq osq
          go_wp2
          go_roundw
          case rel =>
            refine ⟨hbr.trans (hbq.mono hbr.size), 0 + 1, by omega, by go_num, by rw [unhide HNX, ← unhide HOB], fun j hj => ?_, unhide HST2⟩
            by_cases e : j = 0
            · subst e; rw [unhide HX2]; omega
            · exact unhide HV j (by omega)
          case measure => simp [intOf]; omega
    · obtain rfl : k = n := by omega
      have HR : Hid (chFrom F fn l u k = 0) := ch_end (by have := unhide HL; omega)
      generalize setN (u ++ l.take k) = s at *
      go_wp2
      go_ret
      exact ⟨ret_int (by rw [unhide HE, unhide HCH, unhide HR]), hbwr⟩
end Go.Proofs.Ytfagkgehljoppaa
