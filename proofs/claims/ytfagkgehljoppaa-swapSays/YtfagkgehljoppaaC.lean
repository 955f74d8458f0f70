import Derived.Test.YtfagkgehljoppaaB
namespace Go.Proofs.Ytfagkgehljoppaa
open Go.RowKit
theorem or_bit : ∀ s : Nat, s < 256 → ∀ x : Nat, x < 8 → bits .or .i64 (s : Int) (wrap64 (2 ^ x)) = ((s ||| 2 ^ x : Nat) : Int) := by decide +kernel
theorem or_lt : ∀ s : Nat, s < 256 → ∀ x : Nat, x < 8 → s ||| 2 ^ x < 256 := by decide +kernel
theorem or_or : ∀ s : Nat, s < 256 → ∀ t : Nat, t < 256 → bits .or .i64 (s : Int) (t : Int) = ((s ||| t : Nat) : Int) ∧ s ||| t < 256 := by decide +kernel
/-- A bit for each. -/
def setN (l : List Int) : Nat := l.foldl (fun s x => s ||| 2 ^ x.toNat) 0
theorem setN_snoc (l : List Int) (x : Int) : setN (l ++ [x]) = setN l ||| 2 ^ x.toNat := by simp [setN]
def Eight (l : List Int) : Prop := ∀ x ∈ l, 0 ≤ x ∧ x < 8
theorem setN_lt (l : List Int) : Eight l → setN l < 256 := by
  have go : ∀ (l : List Int) (s : Nat), s < 256 → Eight l → l.foldl (fun s x => s ||| 2 ^ x.toNat) s < 256 := by
    intro l
    induction l with
    | nil => intro s hs _; exact hs
    | cons x l ih =>
      intro s hs h
      have hx := h x (by simp)
      exact ih _ (or_lt s hs x.toNat (by omega)) fun y hy => h y (by simp [hy])
  exact go l 0 (by omega)
theorem setN_bit (l : List Int) (k : Nat) : Eight l → (setN l).testBit k = decide ((k : Int) ∈ l) := by
  have go : ∀ (l : List Int) (s : Nat), Eight l → (l.foldl (fun s x => s ||| 2 ^ x.toNat) s).testBit k = (s.testBit k || decide ((k : Int) ∈ l)) := by
    intro l
    induction l with
    | nil => intro s _; simp
    | cons x l ih =>
      intro s h
      have hx := h x (by simp)
      rw [List.foldl_cons, ih _ fun y hy => h y (by simp [hy]), Nat.testBit_or, Nat.testBit_two_pow]
      have e : decide (x.toNat = k) = decide ((k : Int) = x) := by
        by_cases c : x.toNat = k
        · rw [decide_eq_true c, decide_eq_true (by omega)]
        · rw [decide_eq_false c, decide_eq_false (by omega)]
      rw [e]
      simp only [List.mem_cons]
      cases s.testBit k <;> by_cases c : (k : Int) = x <;> by_cases d : (k : Int) ∈ l <;> simp [c, d]
  intro h
  have := go l 0 h
  simpa [setN] using this
theorem take_snocI (l : List Int) {k : Nat} (h : k < l.length) : l.take (k + 1) = l.take k ++ [l[k]?.getD 0] := by
  rw [List.getElem?_eq_getElem h]
  simp
set_option maxHeartbeats 1000000 in
theorem setOf_any (a : Option Addr) (n c : Nat) (l : List Int) (w : World) (h : Ints w a n c l) (hs : Eight l) :
    Calls Try.prog 12 #[.slice a n c] w fun e w' => e = .returned (.int .i64 (setN l)) ∧ w' = w := by
  have HL := hide h.1
  have HS := hide hs
  clear hs
  go_enter Try.func12, Try.ntmps12
  go_wp2
  go_loop [8, 3] (fun i v => ∃ k : Nat, k ≤ n ∧ i = .int .i64 k ∧ v = .int .i64 (setN (l.take k))) (fun i _ => n - (intOf i).toNat)
  case atStart => exact ⟨0, Nat.zero_le _, rfl, rfl⟩
  case round =>
    obtain ⟨k, hk, rfl, rfl⟩ := hrel
    by_cases hlt : k < n
    · obtain ⟨b, off, rfl, hb, hcell⟩ := h.cellAt (by omega)
      have hc := h.2.1
      have hm := h.2.2.1
      unfold maxLen at hm
      have hkl : k < l.length := by have := unhide HL; omega
      have hx := unhide HS (l[k]?.getD 0) (by rw [List.getElem?_eq_getElem hkl]; simp)
      obtain ⟨x, hx2⟩ : ∃ x : Nat, l[k]?.getD 0 = x := ⟨(l[k]?.getD 0).toNat, by omega⟩
      have hck := hcell k hlt
      rw [hx2] at hck hx
      have HT : Hid (setN (l.take (k + 1)) = setN (l.take k) ||| 2 ^ x) := by
        show _ = _
        rw [take_snocI l hkl, setN_snoc, hx2]
        rfl
      have hlt2 := setN_lt (l.take k) fun y hy => unhide HS y (List.mem_of_mem_take hy)
      generalize setN (l.take k) = s at *
      have HO := hide (or_bit s hlt2 x (by omega))
      clear hx2 hcell hkl
      go_wp2
      refine ⟨⟨k + 1, by omega, by go_num, ?_⟩, by simp [intOf]; omega⟩
      rw [unhide HT, ← unhide HO]
    · obtain rfl : k = n := by omega
      have e : l.take k = l := List.take_of_length_le (by have := unhide HL; omega)
      have HE : Hid (setN (l.take k) = setN l) := by rw [e]; rfl
      clear e
      go_wp2
      go_ret
      exact ⟨ret_int (by rw [unhide HE]), rfl⟩
set_option maxHeartbeats 400000 in
theorem giftsOf_any (gv rd rw : Int) (fa : Option Addr) (fn fc : Nat) (a : Option Addr) (n c : Nat) (l : List Int) (w : World) (h : Ints w a n c l) (hn : 0 < n) (hn2 : n ≤ 1024) :
    Calls Try.prog 11 #[swV gv rd rw fa fn fc, .slice a n c] w fun e w' => e = .returned (.int .i64 (if l[0]?.getD 0 < gv then (n : Int) - 1 else n)) ∧ Below w.heap.size w w' := by
  obtain ⟨wA, hwA⟩ : ∃ y, y = w.alloc (.cells #[.int .i64 gv, .slice fa fn fc, .int .i64 rd, .int .i64 rw] 24) := ⟨_, rfl⟩
  have hbA : Below w.heap.size w wA := by rw [hwA]; go_grown
  have tA : SBox wA w.heap.size gv rd rw fa fn fc := by rw [hwA]; exact ⟨by simp, by simp, by simp, by simp⟩
  have HW := hide hwA
  clear hwA
  have hIA := h.later hbA
  obtain ⟨b, off, rfl, hb, hcell⟩ := hIA.cellAt hn
  have hc := h.2.1
  have hm := h.2.2.1
  unfold maxLen at hm
  have x0 := hcell 0 hn
  rw [Nat.add_zero] at x0
  clear hcell
  generalize l[0]?.getD 0 = x at *
  have C1 := hide (fun d os => Calls.regrown_of (gives_any gv rd rw fa fn fc x (Sort.grow (redrawn wA d) os)))
  unfold swV at C1 ⊢
  have p0q := cell_regrown tA.c0
  have p1q := cell_regrown tA.c1
  have p2q := cell_regrown tA.c2
  have p3q := cell_regrown tA.c3
  have x0q := cell_regrown x0
  by_cases hg : x < gv
  · have dg : decide (x < gv) = true := decide_eq_true hg
    rw [dg] at C1
    go_enter Try.func11, Try.ntmps11
    go_wp2_with fail
    rw [← unhide HW]
    refine wp_region_quiet_below (by kernel_rfl) (by kernel_rfl) ?_
    repeat (quiet_step (exact unhide C1 _ _))
    refine wpQuiet_nil ?_
    intro _ hw'
    obtain ⟨⟨dq, osq⟩, hw''⟩ := hw'
    subst hw''
    have hbq := below_regrown wA dq osq
    go_wp2
    go_ret
    exact ⟨ret_int rfl, hbA.trans (hbq.mono hbA.size)⟩
  · have dg : decide (x < gv) = false := decide_eq_false hg
    rw [dg] at C1
    go_enter Try.func11, Try.ntmps11
    go_wp2_with fail
    rw [← unhide HW]
    refine wp_region_quiet_below (by kernel_rfl) (by kernel_rfl) ?_
    repeat (quiet_step (exact unhide C1 _ _))
    refine wpQuiet_nil ?_
    intro _ hw'
    obtain ⟨⟨dq, osq⟩, hw''⟩ := hw'
    subst hw''
    have hbq := below_regrown wA dq osq
    go_wp2
    go_ret
    exact ⟨ret_int rfl, hbA.trans (hbq.mono hbA.size)⟩
end Go.Proofs.Ytfagkgehljoppaa
