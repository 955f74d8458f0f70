import Derived.Test.YtcannknicfnkdaaL
namespace Go.Proofs.Ytcannknicfnkdaa
open Go.RowKit
set_option maxRecDepth 100000 in
set_option maxHeartbeats 2000000 in
/-- Two tables that are the same. -/
theorem sameLists_any (n : Nat) (a a' : Option Addr) (c c' : Nat) (L L' : List Sl) (w : World) (h : Lsts w a n c L) (h' : Lsts w a' n c' L') (hl : lists L = lists L') :
    Calls Try.prog 15 #[.slice a n c, .slice a' n c'] w fun e w' => e = .returned (.bool true) ∧ Below w.heap.size w w' := by
  have h1 := h.2.1
  have h2 := h.2.2.1
  have h3 := h'.2.1
  have h4 := h'.2.2.1
  unfold maxLen at h2 h4
  have HH := hide h
  have HH' := hide h'
  have HE : Hid (∀ i, i < n → (slAt L i).ints = (slAt L' i).ints) := fun i hi => by
    have e1 : i < L.length := by have := h.1; omega
    have e2 : i < L'.length := by have := h'.1; omega
    have : (lists L)[i]? = (lists L')[i]? := by rw [hl]
    unfold lists at this
    rw [List.getElem?_map, List.getElem?_map, List.getElem?_eq_getElem e1, List.getElem?_eq_getElem e2] at this
    unfold slAt
    rw [List.getElem?_eq_getElem e1, List.getElem?_eq_getElem e2]
    simpa using this
  clear h h' hl
  go_enter Try.func15, Try.ntmps15
  go_wp2_with fail
  go_loopw [5] (fun i wr => Below w.heap.size w wr ∧ ∃ k : Nat, k ≤ n ∧ i = .int .i64 k) (fun i _ => n - (intOf i).toNat)
  case atStart => exact ⟨Below.refl _ _, 0, Nat.zero_le _, rfl⟩
  case round =>
    obtain ⟨hbr, k, hk, rfl⟩ := hrel
    by_cases hlt : k < n
    · obtain ⟨b1, o1, e1, hb1, hc1⟩ := ((unhide HH).later hbr).cellAt (by omega)
      obtain ⟨b2, o2, e2, hb2, hc2⟩ := ((unhide HH').later hbr).cellAt (by omega)
      subst e1 e2
      have q1 := hc1 k hlt
      have q2 := hc2 k hlt
      have I1 := ((unhide HH).later hbr).mem hlt
      have I2 := ((unhide HH').later hbr).mem hlt
      have C1 := hide (fun d os => Calls.regrown_of (v := .bool true) (by
        have := sameInts_any _ _ _ _ _ _ _ _ (Sort.grow (redrawn wr d) os) (I1.later (below_regrown wr d os)) (I2.later (below_regrown wr d os))
        rw [decide_eq_true (unhide HE k hlt)] at this
        exact this))
      clear hc1 hc2 I1 I2
      generalize slAt L k = s1 at *
      generalize slAt L' k = s2 at *
      obtain ⟨sa, sn, sc, si⟩ := s1
      obtain ⟨ta, tn, tc, ti⟩ := s2
      simp only at q1 q2 C1
      have q1' := fun d os => cell_regrown q1 d os
      have q2' := fun d os => cell_regrown q2 d os
      go_wp2_with fail
      refine wp_region_quiet_below (by kernel_rfl) (by kernel_rfl) ?_
      iterate 10 (quiet_step (first | with_reducible exact unhide C1 _ _))
      refine wpQuiet_nil ?_
      intro _ hw'
      obtain ⟨⟨dq, osq⟩, hw''⟩ := hw'
      subst hw''
      have hbq := below_regrown wr dq osq
      go_wp2_with fail
      go_roundw
      case rel => exact ⟨hbr.trans (hbq.mono hbr.size), k + 1, by omega, by go_num⟩
      case measure => simp [intOf]; omega
    · obtain rfl : n = k := by omega
      go_wp2_with fail
      go_ret
      exact ⟨rfl, hbr⟩
theorem heavyRoads_any (ca : Option Addr) (cn cc : Nat) (C : List Sl) (ka : Option Addr) (kn kc : Nat) (K : List Sl) (w : World) (hC : Lsts w ca cn cc C) (hK : Lsts w ka kn kc K) (hs : ∀ s ∈ C, s.ln ≤ 140737488351232) (hn : cn ≤ 140737488351232) (hs' : ∀ s ∈ K, s.ln ≤ 140737488351232) (hn' : kn ≤ 140737488351232) :
    Calls Try.prog 5 #[rV ca cn cc ka kn kc] w fun e w' => ∃ hv : Bool, e = .returned (.bool hv) ∧ Below w.heap.size w w' := by
  obtain ⟨W, hW, hbW, hlt0, hbox⟩ := box_cells (w := w) ca cn cc ka kn kc
  have HW := hide hW
  have HBW := hide hbW
  have w0 := (hbox W (Below.refl _ _)).1
  have w1 := (hbox W (Below.refl _ _)).2
  have C1 := hide (heavy_any ca cn cc C W (hC.later hbW) hs hn)
  have C2 := hide (heavy_any ka kn kc K W (hK.later hbW) hs' hn')
  clear hC hK hW hbW hbox hlt0 hs hs' hn hn'
  unfold rV at *
  go_enter Try.func5, Try.ntmps5
  go_wp2_with fail
  rw [unhide HW]
  go_wp2_with fail
  refine (unhide C1).mono ?_
  rintro e wa ⟨hv, rfl, -, hwa⟩
  subst wa
  cases hv with
  | true =>
    go_wp2
    go_ret
    exact ⟨_, rfl, unhide HBW⟩
  | false =>
    go_wp2_with fail
    refine (unhide C2).mono ?_
    rintro e wa ⟨hv, rfl, -, hwa⟩
    subst wa
    cases hv with
    | true =>
      go_wp2
      go_ret
      exact ⟨_, rfl, unhide HBW⟩
    | false =>
      go_wp2
      go_ret
      exact ⟨_, rfl, unhide HBW⟩
end Go.Proofs.Ytcannknicfnkdaa
