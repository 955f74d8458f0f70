import Derived.Test.YtodbnjainpjkcaaS
import Derived.Test.YtodbnjainpjkcaaT
namespace Go.Proofs.Ytodbnjainpjkcaa
open Go.RowKit
def eqFuel (l m : List Int) : Nat → Nat → Bool
  | 0, _ => true
  | f + 1, k => decide (l[k]?.getD 0 = m[k]?.getD 0) && eqFuel l m f (k + 1)
def eqFrom (l m : List Int) (k : Nat) : Bool := eqFuel l m (l.length - k) k
theorem eqFrom_step {l m : List Int} {k : Nat} (h : k < l.length) : eqFrom l m k = (decide (l[k]?.getD 0 = m[k]?.getD 0) && eqFrom l m (k+1)) := by
  unfold eqFrom
  rw [show l.length - k = (l.length - (k + 1)) + 1 by omega, eqFuel]
theorem eqFrom_yes {l m : List Int} {k : Nat} (h : k < l.length) (e : l[k]?.getD 0 = m[k]?.getD 0) : eqFrom l m k = eqFrom l m (k+1) := by
  rw [eqFrom_step h, decide_eq_true e, Bool.true_and]
theorem eqFrom_no {l m : List Int} {k : Nat} (h : k < l.length) (e : ¬ l[k]?.getD 0 = m[k]?.getD 0) : eqFrom l m k = false := by
  rw [eqFrom_step h, decide_eq_false e, Bool.false_and]
theorem eqFrom_end {l m : List Int} {k : Nat} (h : ¬ k < l.length) : eqFrom l m k = true := by
  unfold eqFrom
  rw [show l.length - k = 0 by omega, eqFuel]
theorem eqFrom_all {l m : List Int} : ∀ (d k : Nat), l.length - k = d → eqFrom l m k = true → ∀ j, k ≤ j → j < l.length → l[j]?.getD 0 = m[j]?.getD 0
  | 0, k, hd, _, j, hj, hl => by omega
  | d + 1, k, hd, h, j, hj, hl => by
    have hk : k < l.length := by omega
    rw [eqFrom_step hk, Bool.and_eq_true, decide_eq_true_eq] at h
    by_cases e : j = k
    · rw [e]; exact h.1
    · exact eqFrom_all d (k + 1) (by omega) h.2 j (by omega) hl
theorem eqFrom_refl {l : List Int} : ∀ (d k : Nat), l.length - k = d → eqFrom l l k = true
  | 0, k, hd => eqFrom_end (by omega)
  | d + 1, k, hd => by rw [eqFrom_step (by omega), eqFrom_refl d (k + 1) (by omega)]; simp
theorem eqFrom_eq {l m : List Int} (hl : l.length = m.length) : eqFrom l m 0 = decide (l = m) := by
  by_cases e : l = m
  · subst e; rw [eqFrom_refl _ 0 rfl]; simp
  · rw [decide_eq_false e]
    cases h : eqFrom l m 0 with
    | false => rfl
    | true =>
      refine absurd ?_ e
      refine List.ext_getElem hl fun j h1 h2 => ?_
      have := eqFrom_all _ 0 rfl h j (Nat.zero_le _) h1
      simpa [h1, h2] using this
set_option maxHeartbeats 1000000 in
theorem sameInts_any (a a' : Option Addr) (n c n' c' : Nat) (l m : List Int) (w : World) (h : Ints w a n c l) (h' : Ints w a' n' c' m) :
    Calls Try.prog 28 #[.slice a n c, .slice a' n' c'] w fun e w' => e = .returned (.bool (decide (l = m))) ∧ Below w.heap.size w w' := by
  obtain ⟨hn, hc, hm, h⟩ := h
  obtain ⟨hn', hc', hm', h'⟩ := h'
  unfold maxLen at hm hm'
  have HN : Hid (n = l.length) := hn
  have HN' : Hid (n' = m.length) := hn'
  clear hn hn'
  by_cases hnn : n = n'
  · subst hnn
    have HL : Hid (decide (l = m) = eqFrom l m 0) := (eqFrom_eq (HN.out.symm.trans HN'.out)).symm
    rcases h with h0 | ⟨b, off, rfl, hb, hcell⟩
    · subst h0
      go_enter Try.func28, Try.ntmps28
      go_wp2
      refine wp_loop_rounds 1 ?_
      rw [rounds_succ]
      go_wp2
      go_ret
      exact ⟨ret_bool (by rw [HL.out, eqFrom_end (by have := HN.out; omega)]), Below.refl _ _⟩
    · rcases h' with h0 | ⟨b', off', rfl, hb', hcell'⟩
      · subst h0
        go_enter Try.func28, Try.ntmps28
        go_wp2
        refine wp_loop_rounds 1 ?_
        rw [rounds_succ]
        go_wp2
        go_ret
        exact ⟨ret_bool (by rw [HL.out, eqFrom_end (by have := HN.out; omega)]), Below.refl _ _⟩
      · go_enter Try.func28, Try.ntmps28
        go_wp2
        go_loopw [5] (fun i wr => Below w.heap.size w wr ∧ ∃ k : Nat, k ≤ n ∧ i = .int .i64 k ∧ eqFrom l m 0 = eqFrom l m k) (fun i _ => n - (intOf i).toNat)
        case atStart => exact ⟨Below.refl _ _, 0, Nat.zero_le _, rfl, rfl⟩
        case round =>
          obtain ⟨hbr, k, hk, rfl, hn⟩ := hrel
          have HI : Hid (eqFrom l m 0 = eqFrom l m k) := hn
          clear hn
          by_cases hlt : k < n
          · have hck := (hbr.cell (p := ⟨b, off + k, none⟩) hb).trans (hcell k hlt)
            have hck' := (hbr.cell (p := ⟨b', off' + k, none⟩) hb').trans (hcell' k hlt)
            clear hcell hcell'
            by_cases q : l[k]?.getD 0 = m[k]?.getD 0
            · have HQ : Hid (l[k]?.getD 0 = m[k]?.getD 0) := q
              rw [← q] at hck'
              clear q
              go_wp2
              go_quiet (fail)
              go_wp2
              go_roundw
              case rel => exact ⟨hbr.trans (below_drewN _ _ _), k+1, by omega, by go_num, by rw [HI.out]; exact eqFrom_yes (by have := HN.out; omega) HQ.out⟩
              case measure => simp [intOf]; omega
            · go_wp2
              go_quiet (fail)
              go_wp2
              go_ret
              refine ⟨ret_bool ?_, hbr.trans (below_drewN _ _ _)⟩
              rw [HL.out, HI.out]; exact (eqFrom_no (by have := HN.out; omega) q).symm
          · go_wp2
            go_ret
            exact ⟨ret_bool (by rw [HL.out, HI.out, eqFrom_end (by have := HN.out; omega)]), hbr⟩
  · have HL : Hid (decide (l = m) = false) := decide_eq_false (fun e => hnn (by rw [HN.out, HN'.out, e]))
    have hnn' : ¬ (n : Int) = (n' : Int) := by omega
    go_enter Try.func28, Try.ntmps28
    go_wp2
    go_ret
    exact ⟨ret_bool HL.out.symm, Below.refl _ _⟩
end Go.Proofs.Ytodbnjainpjkcaa
