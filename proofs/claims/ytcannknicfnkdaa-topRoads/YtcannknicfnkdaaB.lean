import Derived.Test.YtcannknicfnkdaaA
namespace Go.Proofs.Ytcannknicfnkdaa
open Go.RowKit
/-- A cost that may not be. -/
def badK (x : Int) : Bool := decide (x < -999) || decide (999 < x)
/-- A set of roads that may not be. -/
def badC (m : Nat) (x : Int) : Bool := decide (x < 0) || decide ((2 : Int) ^ m ≤ x)
theorem pow6 {m : Nat} (h : m ≤ 6) : 1 ≤ (2 : Int) ^ m ∧ (2 : Int) ^ m ≤ 64 := by
  have : m = 0 ∨ m = 1 ∨ m = 2 ∨ m = 3 ∨ m = 4 ∨ m = 5 ∨ m = 6 := by omega
  rcases this with h | h | h | h | h | h | h <;> subst h <;> decide
theorem wpow6 {m : Nat} (h : m ≤ 6) : wrap64 ((2 : Int) ^ m) = (2 : Int) ^ m := wrap64_in _ (by have := pow6 h; omega) (by have := pow6 h; omega)
theorem c1_any (x : Int) (w : World) : Calls Try.prog 28 #[.int .i64 x] w fun e w' => e = .returned (.bool (badK x)) ∧ w' = w := by
  unfold badK
  by_cases h : x < -999
  · have d : decide (x < -999) = true := by simp [h]
    go_enter Try.func28, Try.ntmps28
    go_wp2
    go_ret
    exact ⟨ret_bool (by rw [d]; rfl), rfl⟩
  · have d : decide (x < -999) = false := by simp [h]
    go_enter Try.func28, Try.ntmps28
    go_wp2
    go_ret
    exact ⟨ret_bool rfl, rfl⟩
theorem c2_any (x : Int) (p m : Nat) (w : World) (hp : w.cell? ⟨p, 0, none⟩ = some (.int .i64 m)) (hm : m ≤ 6) : Calls Try.prog 29 #[.int .i64 x, .pointer (some ⟨p, 0, none⟩)] w fun e w' => e = .returned (.bool (badC m x)) ∧ w' = w := by
  unfold badC
  by_cases h : x < 0
  · have d : decide (x < 0) = true := by simp [h]
    go_enter Try.func29, Try.ntmps29
    go_wp2
    go_ret
    exact ⟨ret_bool (by rw [d]; rfl), rfl⟩
  · have d : decide (x < 0) = false := by simp [h]
    go_enter Try.func29, Try.ntmps29
    go_wp2
    go_ret
    exact ⟨ret_bool (by rw [wpow6 hm]), rfl⟩
/-- Where the first one is of which p is true; -1: nowhere. -/
def IdxP (p : Int → Bool) (l : List Int) (w : World) (e : Ending) (w' : World) : Prop := ∃ k : Int, e = .returned (.int .i64 k) ∧ (decide (0 ≤ k) = l.any p) ∧ w' = w
theorem any_yes {p : Int → Bool} {l : List Int} {k : Nat} (hk : k < l.length) (h : p (l[k]?.getD 0) = true) : l.any p = true := by
  rw [List.getElem?_eq_getElem hk] at h
  exact List.any_eq_true.2 ⟨l[k], List.getElem_mem hk, h⟩
theorem any_no {p : Int → Bool} {l : List Int} (h : ∀ q, q < l.length → p (l[q]?.getD 0) = false) : l.any p = false := by
  rw [List.any_eq_false]
  intro x hx
  obtain ⟨j, hj, e⟩ := List.getElem_of_mem hx
  have := h j hj
  rw [List.getElem?_eq_getElem hj, e] at this
  simp at this
  simp [this]
set_option maxHeartbeats 1000000 in
theorem indexFunc1 (ra : Option Addr) (rn rc : Nat) (rl : List Int) (w : World) (h : Ints w ra rn rc rl) :
    Calls Try.prog 33 #[.slice ra rn rc, .func (.func 28) #[] #[]] w fun e w' => IdxP badK rl w e w' := by
  have HN := hide h.1
  have hc := h.2.1
  have hmx := h.2.2.1
  unfold maxLen at hmx
  have CC := hide (fun x => c1_any x w)
  go_enter Try.func33, Try.ntmps33
  go_wp2
  go_loop [8, 5] (fun i _ => ∃ k : Nat, k ≤ rn ∧ i = .int .i64 k ∧ ∀ q, q < k → badK (rl[q]?.getD 0) = false) (fun i _ => rn - (intOf i).toNat)
  case atStart => exact ⟨0, Nat.zero_le _, rfl, fun q hq => absurd hq (Nat.not_lt_zero _)⟩
  case round =>
    obtain ⟨k, hk, rfl, hi⟩ := hrel
    have HI := hide hi
    clear hi
    by_cases hlt : k < rn
    · have hkl : k < rl.length := by have := unhide HN; omega
      have HKL := hide hkl
      obtain ⟨b, off, rfl, hb, hcell⟩ := h.cellAt (by omega)
      have hx := hcell k hlt
      clear hcell hkl
      have C2 := unhide CC (rl[k]?.getD 0)
      cases hf : badK (rl[k]?.getD 0) with
      | false =>
        rw [hf] at C2
        have HNX : Hid (∀ q, q < k + 1 → badK (rl[q]?.getD 0) = false) := fun q hq => by
          by_cases e : q = k
          · rw [e]; exact hf
          · exact unhide HI q (by omega)
        have C2 := hide C2
        clear hf
        generalize rl[k]?.getD 0 = t at *
        go_wp2_with fail
        refine (unhide C2).mono ?_
        rintro e w2 ⟨rfl, hw2⟩
        subst w2
        go_wp2
        exact ⟨⟨k+1, by omega, by go_num, unhide HNX⟩, by simp [intOf]; omega⟩
      | true =>
        rw [hf] at C2
        have C2 := hide C2
        have HT : Hid (rl.any badK = true) := any_yes (unhide HKL) hf
        clear hf
        generalize rl[k]?.getD 0 = t at *
        go_wp2_with fail
        refine (unhide C2).mono ?_
        rintro e w2 ⟨rfl, hw2⟩
        subst w2
        go_wp2
        go_ret
        exact ⟨k, rfl, by rw [unhide HT]; simp, rfl⟩
    · obtain rfl : rn = k := by omega
      have HT : Hid (rl.any badK = false) := any_no (fun q hq => unhide HI q (by have := unhide HN; omega))
      go_wp2
      go_ret
      exact ⟨-1, rfl, by rw [unhide HT]; rfl, rfl⟩
theorem contains1 (ra : Option Addr) (rn rc : Nat) (rl : List Int) (w : World) (h : Ints w ra rn rc rl) :
    Calls Try.prog 27 #[.slice ra rn rc, .func (.func 28) #[] #[]] w fun e w' => e = .returned (.bool (rl.any badK)) ∧ w' = w := by
  have C := hide (indexFunc1 ra rn rc rl w h)
  clear h
  go_enter Try.func27, Try.ntmps27
  go_wp2_with fail
  refine (unhide C).mono ?_
  rintro e w' ⟨k, rfl, hk, hw'⟩
  subst w'
  have HK := hide hk
  clear hk
  go_wp2
  go_ret
  exact ⟨ret_bool (unhide HK), rfl⟩
set_option maxHeartbeats 1000000 in
theorem indexFunc2 (ra : Option Addr) (rn rc : Nat) (rl : List Int) (p m : Nat) (w : World) (h : Ints w ra rn rc rl) (hp : w.cell? ⟨p, 0, none⟩ = some (.int .i64 m)) (hm : m ≤ 6) :
    Calls Try.prog 33 #[.slice ra rn rc, .func (.func 29) #[] #[.pointer (some ⟨p, 0, none⟩)]] w fun e w' => IdxP (badC m) rl w e w' := by
  have HN := hide h.1
  have hc := h.2.1
  have hmx := h.2.2.1
  unfold maxLen at hmx
  have CC := hide (fun x => c2_any x p m w hp hm)
  go_enter Try.func33, Try.ntmps33
  go_wp2
  go_loop [8, 5] (fun i _ => ∃ k : Nat, k ≤ rn ∧ i = .int .i64 k ∧ ∀ q, q < k → (badC m) (rl[q]?.getD 0) = false) (fun i _ => rn - (intOf i).toNat)
  case atStart => exact ⟨0, Nat.zero_le _, rfl, fun q hq => absurd hq (Nat.not_lt_zero _)⟩
  case round =>
    obtain ⟨k, hk, rfl, hi⟩ := hrel
    have HI := hide hi
    clear hi
    by_cases hlt : k < rn
    · have hkl : k < rl.length := by have := unhide HN; omega
      have HKL := hide hkl
      obtain ⟨b, off, rfl, hb, hcell⟩ := h.cellAt (by omega)
      have hx := hcell k hlt
      clear hcell hkl
      have C2 := unhide CC (rl[k]?.getD 0)
      cases hf : (badC m) (rl[k]?.getD 0) with
      | false =>
        rw [hf] at C2
        have HNX : Hid (∀ q, q < k + 1 → (badC m) (rl[q]?.getD 0) = false) := fun q hq => by
          by_cases e : q = k
          · rw [e]; exact hf
          · exact unhide HI q (by omega)
        have C2 := hide C2
        clear hf
        generalize rl[k]?.getD 0 = t at *
        go_wp2_with fail
        refine (unhide C2).mono ?_
        rintro e w2 ⟨rfl, hw2⟩
        subst w2
        go_wp2
        exact ⟨⟨k+1, by omega, by go_num, unhide HNX⟩, by simp [intOf]; omega⟩
      | true =>
        rw [hf] at C2
        have C2 := hide C2
        have HT : Hid (rl.any (badC m) = true) := any_yes (unhide HKL) hf
        clear hf
        generalize rl[k]?.getD 0 = t at *
        go_wp2_with fail
        refine (unhide C2).mono ?_
        rintro e w2 ⟨rfl, hw2⟩
        subst w2
        go_wp2
        go_ret
        exact ⟨k, rfl, by rw [unhide HT]; simp, rfl⟩
    · obtain rfl : rn = k := by omega
      have HT : Hid (rl.any (badC m) = false) := any_no (fun q hq => unhide HI q (by have := unhide HN; omega))
      go_wp2
      go_ret
      exact ⟨-1, rfl, by rw [unhide HT]; rfl, rfl⟩
theorem contains2 (ra : Option Addr) (rn rc : Nat) (rl : List Int) (p m : Nat) (w : World) (h : Ints w ra rn rc rl) (hp : w.cell? ⟨p, 0, none⟩ = some (.int .i64 m)) (hm : m ≤ 6) :
    Calls Try.prog 27 #[.slice ra rn rc, .func (.func 29) #[] #[.pointer (some ⟨p, 0, none⟩)]] w fun e w' => e = .returned (.bool (rl.any (badC m))) ∧ w' = w := by
  have C := hide (indexFunc2 ra rn rc rl p m w h hp hm)
  clear h
  go_enter Try.func27, Try.ntmps27
  go_wp2_with fail
  refine (unhide C).mono ?_
  rintro e w' ⟨k, rfl, hk, hw'⟩
  subst w'
  have HK := hide hk
  clear hk
  go_wp2
  go_ret
  exact ⟨ret_bool (unhide HK), rfl⟩
end Go.Proofs.Ytcannknicfnkdaa
