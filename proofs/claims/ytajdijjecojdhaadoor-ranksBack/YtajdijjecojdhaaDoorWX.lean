import Derived.Test.YtajdijjecojdhaaDoorWG3
import Derived.BigQuiet
namespace Go.Proofs.YtajdijjecojdhaaDoor
open Go.RowKit
theorem in_any (a : Option Addr) (n c : Nat) (l : List Int) (x : Int) (w : World) (h : Ints w a n c l) :
    Calls Tryd.prog 34 #[.int .i64 x, .slice a n c] w fun e w' => e = .returned (.bool (decide (0 ≤ idxFrom l x 0))) ∧ w' = w := by
  go_enter Tryd.func34, Tryd.ntmps34
  go_wp2_with (go_at_call 12; refine (place_any _ _ _ l _ _ h).mono ?_; rintro e w' ⟨rfl, rfl⟩)
  go_ret
  exact ⟨rfl, rfl⟩
theorem need_yes (k : Int) (w : World) :
    Calls Tryd.prog 25 #[.bool true, .int .i64 k] w fun e w' => e = .returned (.tuple #[]) ∧ w' = w := by
  go_enter Tryd.func25, Tryd.ntmps25
  go_wp2
  go_end0
  exact ⟨rfl, rfl⟩
/-- What the reader panics with. -/
def thrown (k : Int) : Value := .iface 52 (.agg #[.int .i64 k])
theorem need_no (k : Int) (w : World) :
    Calls Tryd.prog 25 #[.bool false, .int .i64 k] w fun e w' => e = .panicked [{ v := thrown k, recovered := false }] ∧ w' = w := by
  go_enter Tryd.func25, Tryd.ntmps25
  go_wp2
  exact ⟨rfl, rfl, rfl⟩
def digFuel (s : ByteArray) : Nat → Nat → Bool
  | 0, _ => true
  | f + 1, k => (if h : k < s.size then isFig s[k].toNat else true) && digFuel s f (k + 1)
def digFrom (s : ByteArray) (k : Nat) : Bool := digFuel s (s.size - k) k
theorem digFrom_step {s : ByteArray} {k : Nat} (h : k < s.size) : digFrom s k = (isFig s[k].toNat && digFrom s (k+1)) := by
  unfold digFrom
  rw [show s.size - k = (s.size - (k + 1)) + 1 by omega, digFuel, dif_pos h]
theorem digFrom_yes {s : ByteArray} {k : Nat} (h : k < s.size) (ho : isFig s[k].toNat = true) : digFrom s k = digFrom s (k+1) := by
  rw [digFrom_step h, ho, Bool.true_and]
theorem digFrom_no {s : ByteArray} {k : Nat} (h : k < s.size) (ho : isFig s[k].toNat = false) : digFrom s k = false := by
  rw [digFrom_step h, ho, Bool.false_and]
theorem digFrom_end {s : ByteArray} {k : Nat} (h : ¬ k < s.size) : digFrom s k = true := by
  unfold digFrom
  rw [show s.size - k = 0 by omega, digFuel]
set_option maxHeartbeats 1000000 in
theorem isNumber_any (s : ByteArray) (w : World) (hs : s.size ≤ maxLen) (h1 : 0 < s.size) :
    Calls Tryd.prog 67 #[.string s] w fun e w' => e = .returned (.bool (digFrom s 0 && (decide (s.size = 1) || decide (s[0].toNat ≠ 48)))) ∧ w' = w := by
  unfold maxLen at hs
  go_enter Tryd.func67, Tryd.ntmps67
  go_wp2
  go_loop [6, 3] (fun i _ => ∃ k : Nat, k ≤ s.size ∧ i = .int .i64 k ∧ digFrom s 0 = digFrom s k) (fun i _ => s.size - (intOf i).toNat)
  case atStart => exact ⟨0, Nat.zero_le _, rfl, rfl⟩
  case round =>
    obtain ⟨k, hk, rfl, hn⟩ := hrel
    have HN : Hid (digFrom s 0 = digFrom s k) := hn
    clear hn
    by_cases hlt : k < s.size
    · go_wp2_with (first | (go_at_call 60; refine (isDigit_any _ _).mono ?_; rintro e w' ⟨rfl, rfl⟩))
      all_goals first
        | (refine ⟨⟨k+1, by omega, by go_num, ?_⟩, by simp [intOf]; omega⟩
           rw [HN.out]; exact digFrom_yes hlt (by simp_all))
        | (go_ret
           refine ⟨ret_bool ?_, rfl⟩
           rw [HN.out, digFrom_no hlt (by simp_all), Bool.false_and])
    · have hd : digFrom s 0 = true := by rw [HN.out, digFrom_end hlt]
      have HD : Hid (digFrom s 0 = true) := hd
      clear hd
      go_wp2
      all_goals
        go_ret
        refine ⟨ret_bool ?_, rfl⟩
        rw [HD.out, Bool.true_and]
        clear HD HN
        first
          | (by_cases e1 : s.size = 1 <;> by_cases e2 : s[0].toNat = 48 <;> simp_all <;> omega)
          | (by_cases e1 : s.size = 1 <;> by_cases e2 : s[0].toNat = 48 <;> simp_all)
def eqFuel (l m : List Int) : Nat → Nat → Bool
  | 0, _ => true
  | f + 1, k => decide (l[k]?.getD 0 = m[k]?.getD 0) && eqFuel l m f (k + 1)
def eqFrom (l m : List Int) (k : Nat) : Bool := eqFuel l m (l.length - k) k
theorem eqFrom_step {l m : List Int} {k : Nat} (h : k < l.length) : eqFrom l m k = (decide (l[k]?.getD 0 = m[k]?.getD 0) && eqFrom l m (k+1)) := by
  unfold eqFrom
  rw [show l.length - k = (l.length - (k + 1)) + 1 by omega, eqFuel]
theorem eqFrom_yes {l m : List Int} {k : Nat} (h : k < l.length) (e : l[k]?.getD 0 = m[k]?.getD 0) : eqFrom l m k = eqFrom l m (k+1) := by
  rw [eqFrom_step h, decide_eq_true e, Bool.true_and]
theorem eqFrom_no {l m : List Int} {k : Nat} (h : k < l.length) (e : ¬ l[k]?.getD 0 = m[k]?.getD 0) : eqFrom l m k = false := by
  rw [eqFrom_step h, decide_eq_false e, Bool.false_and]
theorem eqFrom_end {l m : List Int} {k : Nat} (h : ¬ k < l.length) : eqFrom l m k = true := by
  unfold eqFrom
  rw [show l.length - k = 0 by omega, eqFuel]
theorem eqFrom_all {l m : List Int} : ∀ (d k : Nat), l.length - k = d → eqFrom l m k = true → ∀ j, k ≤ j → j < l.length → l[j]?.getD 0 = m[j]?.getD 0
  | 0, k, hd, _, j, hj, hl => by omega
  | d + 1, k, hd, h, j, hj, hl => by
    have hk : k < l.length := by omega
    rw [eqFrom_step hk, Bool.and_eq_true, decide_eq_true_eq] at h
    by_cases e : j = k
    · rw [e]; exact h.1
    · exact eqFrom_all d (k + 1) (by omega) h.2 j (by omega) hl
theorem eqFrom_refl {l : List Int} : ∀ (d k : Nat), l.length - k = d → eqFrom l l k = true
  | 0, k, hd => eqFrom_end (by omega)
  | d + 1, k, hd => by rw [eqFrom_step (by omega), eqFrom_refl d (k + 1) (by omega)]; simp
theorem eqFrom_eq {l m : List Int} (hl : l.length = m.length) : eqFrom l m 0 = decide (l = m) := by
  by_cases e : l = m
  · subst e; rw [eqFrom_refl _ 0 rfl]; simp
  · rw [decide_eq_false e]
    cases h : eqFrom l m 0 with
    | false => rfl
    | true =>
      refine absurd ?_ e
      refine List.ext_getElem hl fun j h1 h2 => ?_
      have := eqFrom_all _ 0 rfl h j (Nat.zero_le _) h1
      simpa [h1, h2] using this
set_option maxHeartbeats 1000000 in
theorem sameInts_any (a a' : Option Addr) (n c n' c' : Nat) (l m : List Int) (w : World) (h : Ints w a n c l) (h' : Ints w a' n' c' m) :
    Calls Tryd.prog 53 #[.slice a n c, .slice a' n' c'] w fun e w' => e = .returned (.bool (decide (l = m))) ∧ Below w.heap.size w w' := by
  obtain ⟨hn, hc, hm, h⟩ := h
  obtain ⟨hn', hc', hm', h'⟩ := h'
  unfold maxLen at hm hm'
  have HN : Hid (n = l.length) := hn
  have HN' : Hid (n' = m.length) := hn'
  clear hn hn'
  by_cases hnn : n = n'
  · subst hnn
    have HL : Hid (decide (l = m) = eqFrom l m 0) := (eqFrom_eq (HN.out.symm.trans HN'.out)).symm
    rcases h with h0 | ⟨b, off, rfl, hb, hcell⟩
    · subst h0
      go_enter Tryd.func53, Tryd.ntmps53
      go_wp2
      refine wp_loop_rounds 1 ?_
      rw [rounds_succ]
      go_wp2
      go_ret
      exact ⟨ret_bool (by rw [HL.out, eqFrom_end (by have := HN.out; omega)]), Below.refl _ _⟩
    · rcases h' with h0 | ⟨b', off', rfl, hb', hcell'⟩
      · subst h0
        go_enter Tryd.func53, Tryd.ntmps53
        go_wp2
        refine wp_loop_rounds 1 ?_
        rw [rounds_succ]
        go_wp2
        go_ret
        exact ⟨ret_bool (by rw [HL.out, eqFrom_end (by have := HN.out; omega)]), Below.refl _ _⟩
      · go_enter Tryd.func53, Tryd.ntmps53
        go_wp2
        go_loopw [5] (fun i wr => Below w.heap.size w wr ∧ ∃ k : Nat, k ≤ n ∧ i = .int .i64 k ∧ eqFrom l m 0 = eqFrom l m k) (fun i _ => n - (intOf i).toNat)
        case atStart => exact ⟨Below.refl _ _, 0, Nat.zero_le _, rfl, rfl⟩
        case round =>
          obtain ⟨hbr, k, hk, rfl, hn⟩ := hrel
          have HI : Hid (eqFrom l m 0 = eqFrom l m k) := hn
          clear hn
          by_cases hlt : k < n
          · have hck := (hbr.cell (p := ⟨b, off + k, none⟩) hb).trans (hcell k hlt)
            have hck' := (hbr.cell (p := ⟨b', off' + k, none⟩) hb').trans (hcell' k hlt)
            clear hcell hcell'
            by_cases q : l[k]?.getD 0 = m[k]?.getD 0
            · have HQ : Hid (l[k]?.getD 0 = m[k]?.getD 0) := q
              rw [← q] at hck'
              clear q
              go_wp2
              go_quiet (fail)
              go_wp2
              go_roundw
              case rel => exact ⟨hbr.trans (below_drewN _ _ _), k+1, by omega, by go_num, by rw [HI.out]; exact eqFrom_yes (by have := HN.out; omega) HQ.out⟩
              case measure => simp [intOf]; omega
            · go_wp2
              go_quiet (fail)
              go_wp2
              go_ret
              refine ⟨ret_bool ?_, hbr.trans (below_drewN _ _ _)⟩
              rw [HL.out, HI.out]; exact (eqFrom_no (by have := HN.out; omega) q).symm
          · go_wp2
            go_ret
            exact ⟨ret_bool (by rw [HL.out, HI.out, eqFrom_end (by have := HN.out; omega)]), hbr⟩
  · have HL : Hid (decide (l = m) = false) := decide_eq_false (fun e => hnn (by rw [HN.out, HN'.out, e]))
    have hnn' : ¬ (n : Int) = (n' : Int) := by omega
    go_enter Tryd.func53, Tryd.ntmps53
    go_wp2
    go_ret
    exact ⟨ret_bool HL.out.symm, Below.refl _ _⟩
end Go.Proofs.YtajdijjecojdhaaDoor
