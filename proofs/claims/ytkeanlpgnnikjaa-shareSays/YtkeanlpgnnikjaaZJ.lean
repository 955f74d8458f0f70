import Derived.Test.YtkeanlpgnnikjaaA
namespace Go.Proofs.Ytkeanlpgnnikjaa
open Go.RowKit
set_option maxRecDepth 100000 in
set_option maxHeartbeats 2000000 in
/-- Two tables that are the same. -/
theorem sameLists_any (n : Nat) (a a' : Option Addr) (c c' : Nat) (L L' : List Sl) (w : World) (h : Lsts w a n c L) (h' : Lsts w a' n c' L') (hl : lists L = lists L') :
    Calls Try.prog 12 #[.slice a n c, .slice a' n c'] w fun e w' => e = .returned (.bool true) ∧ Below w.heap.size w w' := by
  have h1 := h.2.1
  have h2 := h.2.2.1
  have h3 := h'.2.1
  have h4 := h'.2.2.1
  unfold maxLen at h2 h4
  have HH := hide h
  have HH' := hide h'
  have HE : Hid (∀ i, i < n → (slAt L i).ints = (slAt L' i).ints) := fun i hi => by
    have e1 : i < L.length := by have := h.1; omega
    have e2 : i < L'.length := by have := h'.1; omega
    have : (lists L)[i]? = (lists L')[i]? := by rw [hl]
    unfold lists at this
    rw [List.getElem?_map, List.getElem?_map, List.getElem?_eq_getElem e1, List.getElem?_eq_getElem e2] at this
    unfold slAt
    rw [List.getElem?_eq_getElem e1, List.getElem?_eq_getElem e2]
    simpa using this
  clear h h' hl
  go_enter Try.func12, Try.ntmps12
  go_wp2_with fail
  go_loopw [5] (fun i wr => Below w.heap.size w wr ∧ ∃ k : Nat, k ≤ n ∧ i = .int .i64 k) (fun i _ => n - (intOf i).toNat)
  case atStart => exact ⟨Below.refl _ _, 0, Nat.zero_le _, rfl⟩
  case round =>
    obtain ⟨hbr, k, hk, rfl⟩ := hrel
    by_cases hlt : k < n
    · obtain ⟨b1, o1, e1, hb1, hc1⟩ := ((unhide HH).later hbr).cellAt (by omega)
      obtain ⟨b2, o2, e2, hb2, hc2⟩ := ((unhide HH').later hbr).cellAt (by omega)
      subst e1 e2
      have q1 := hc1 k hlt
      have q2 := hc2 k hlt
      have I1 := ((unhide HH).later hbr).mem hlt
      have I2 := ((unhide HH').later hbr).mem hlt
      have C1 := hide (fun d os => Calls.regrown_of (v := .bool true) (by
        have := sameInts_any _ _ _ _ _ _ _ _ (Sort.grow (redrawn wr d) os) (I1.later (below_regrown wr d os)) (I2.later (below_regrown wr d os))
        rw [decide_eq_true (unhide HE k hlt)] at this
        exact this))
      clear hc1 hc2 I1 I2
      generalize slAt L k = s1 at *
      generalize slAt L' k = s2 at *
      obtain ⟨sa, sn, sc, si⟩ := s1
      obtain ⟨ta, tn, tc, ti⟩ := s2
      simp only at q1 q2 C1
      have q1' := fun d os => cell_regrown q1 d os
      have q2' := fun d os => cell_regrown q2 d os
      go_wp2_with fail
      refine wp_region_quiet_below (by kernel_rfl) (by kernel_rfl) ?_
      iterate 10 (quiet_step (first | with_reducible exact unhide C1 _ _))
      refine wpQuiet_nil ?_
      intro _ hw'
      obtain ⟨⟨dq, osq⟩, hw''⟩ := hw'
      subst hw''
      have hbq := below_regrown wr dq osq
      go_wp2_with fail
      go_roundw
      case rel => exact ⟨hbr.trans (hbq.mono hbr.size), k + 1, by omega, by go_num⟩
      case measure => simp [intOf]; omega
    · obtain rfl : n = k := by omega
      go_wp2_with fail
      go_ret
      exact ⟨rfl, hbr⟩
end Go.Proofs.Ytkeanlpgnnikjaa
