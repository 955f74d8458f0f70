import Derived.Test.YtloandcndnmkhaaEE
import Derived.Test.YtloandcndnmkhaaW
namespace Go.Proofs.Ytloandcndnmkhaa
open Go.RowKit
set_option maxHeartbeats 1000000 in
/-- Two answers that are the same list. -/
theorem intsL_any (a a' : Option Addr) (n c n' c' : Nat) (l l' : List Int) (w : World) (h : Ints w a n c l) (h' : Ints w a' n' c' l') (hl : l = l') :
    Calls Try.prog 31 #[.slice a n c, .int .i64 0, .slice a' n' c', .int .i64 0] w fun e w' => e = .returned (.bool true) ∧ Below w.heap.size w w' := by
  have C := sameInts_any a a' n c n' c' l l' w h h'
  rw [decide_eq_true hl] at C
  have C := hide C
  clear h h' hl
  go_enter Try.func31, Try.ntmps31
  go_wp2_with fail
  refine (unhide C).mono ?_
  rintro e w1 ⟨rfl, hb1⟩
  go_wp2_with fail
  go_ret
  exact ⟨rfl, hb1⟩
set_option maxRecDepth 100000 in
set_option maxHeartbeats 2000000 in
/-- Two tables that are the same. -/
theorem sameLists_any (n : Nat) (a a' : Option Addr) (c c' : Nat) (L L' : List Sl) (w : World) (h : Lsts w a n c L) (h' : Lsts w a' n c' L') (hl : lists L = lists L') :
    Calls Try.prog 39 #[.slice a n c, .slice a' n c'] w fun e w' => e = .returned (.bool true) ∧ Below w.heap.size w w' := by
  have h1 := h.2.1
  have h2 := h.2.2.1
  have h3 := h'.2.1
  have h4 := h'.2.2.1
  unfold maxLen at h2 h4
  have HH := hide h
  have HH' := hide h'
  have HE : Hid (∀ i, i < n → (slAt L i).ints = (slAt L' i).ints) := fun i hi => by
    have e1 : i < L.length := by have := h.1; omega
    have e2 : i < L'.length := by have := h'.1; omega
    have : (lists L)[i]? = (lists L')[i]? := by rw [hl]
    unfold lists at this
    rw [List.getElem?_map, List.getElem?_map, List.getElem?_eq_getElem e1, List.getElem?_eq_getElem e2] at this
    unfold slAt
    rw [List.getElem?_eq_getElem e1, List.getElem?_eq_getElem e2]
    simpa using this
  clear h h' hl
  go_enter Try.func39, Try.ntmps39
  go_wp2_with fail
  go_loopw [5] (fun i wr => Below w.heap.size w wr ∧ ∃ k : Nat, k ≤ n ∧ i = .int .i64 k) (fun i _ => n - (intOf i).toNat)
  case atStart => exact ⟨Below.refl _ _, 0, Nat.zero_le _, rfl⟩
  case round =>
    obtain ⟨hbr, k, hk, rfl⟩ := hrel
    by_cases hlt : k < n
    · obtain ⟨b1, o1, e1, hb1, hc1⟩ := ((unhide HH).later hbr).cellAt (by omega)
      obtain ⟨b2, o2, e2, hb2, hc2⟩ := ((unhide HH').later hbr).cellAt (by omega)
      subst e1 e2
      have q1 := hc1 k hlt
      have q2 := hc2 k hlt
      have I1 := ((unhide HH).later hbr).mem hlt
      have I2 := ((unhide HH').later hbr).mem hlt
      have C1 := hide (fun d os => Calls.regrown_of (v := .bool true) (by
        have := sameInts_any _ _ _ _ _ _ _ _ (Sort.grow (redrawn wr d) os) (I1.later (below_regrown wr d os)) (I2.later (below_regrown wr d os))
        rw [decide_eq_true (unhide HE k hlt)] at this
        exact this))
      clear hc1 hc2 I1 I2
      generalize slAt L k = s1 at *
      generalize slAt L' k = s2 at *
      obtain ⟨sa, sn, sc, si⟩ := s1
      obtain ⟨ta, tn, tc, ti⟩ := s2
      simp only at q1 q2 C1
      have q1' := fun d os => cell_regrown q1 d os
      have q2' := fun d os => cell_regrown q2 d os
      go_wp2_with fail
      refine wp_region_quiet_below (by kernel_rfl) (by kernel_rfl) ?_
      iterate 10 (quiet_step (first | with_reducible exact unhide C1 _ _))
      refine wpQuiet_nil ?_
      intro _ hw'
      obtain ⟨⟨dq, osq⟩, hw''⟩ := hw'
      subst hw''
      have hbq := below_regrown wr dq osq
      go_wp2_with fail
      go_roundw
      case rel => exact ⟨hbr.trans (hbq.mono hbr.size), k + 1, by omega, by go_num⟩
      case measure => simp [intOf]; omega
    · obtain rfl : n = k := by omega
      go_wp2_with fail
      go_ret
      exact ⟨rfl, hbr⟩
/-- One thing beats all others. -/
theorem dom_one {p : Nat → Nat → Int} {n k : Nat} (hn : n ≤ 6) (hk : k < n) : Dom p n (2 ^ k) ↔ ∀ y, y < n → y ≠ k → p y k < p k y := by
  have bp : ∀ j, j < n → ((2 ^ k).testBit j = true ↔ j = k) := fun j hj => by
    have : ∀ k : Nat, k < 6 → ∀ j : Nat, j < 6 → ((2 ^ k).testBit j = true ↔ j = k) := by decide +kernel
    exact this k (by omega) j (by omega)
  refine ⟨fun h y hy hne => h k y hk hy ((bp k hk).2 rfl) ?_, fun h x y hx hy hbx hby => ?_⟩
  · cases hb : (2 ^ k).testBit y with
    | false => rfl
    | true => exact absurd ((bp y hy).1 hb) hne
  · have e := (bp x hx).1 hbx
    subst e
    refine h y hy fun e => ?_
    rw [e, (bp x hx).2 rfl] at hby
    cases hby
theorem con_uniq {p : Nat → Nat → Int} {n : Nat} (hn : n ≤ 6) {r r' : Int} (h : ConP p n r) (h' : ConP p n r') : r = r' := by
  rcases h with ⟨k, k1, k2, k3⟩ | ⟨k1, k2⟩
  · rcases h' with ⟨j, j1, j2, j3⟩ | ⟨j1, j2⟩
    · by_cases e : k = j
      · rw [k2, j2, e]
      · have a1 := (dom_one hn k1).1 k3 j j1 (Ne.symm e)
        have a2 := (dom_one hn j1).1 j3 k k1 e
        omega
    · exact absurd k3 (j2 k k1)
  · rcases h' with ⟨j, j1, j2, j3⟩ | ⟨j1, j2⟩
    · exact absurd j3 (k2 j j1)
    · rw [k1, j1]
set_option maxRecDepth 100000 in
set_option maxHeartbeats 4000000 in
theorem condR_any (n : Nat) (a : Option Addr) (m c : Nat) (l : List Bal) (w : World) (h : Bals w a m c l) (hg : Good n l) :
    Calls Try.prog 42 #[.int .i64 n, .slice a m c] w fun e w' => (∃ r, ConP (prf l l.length) n r ∧ e = .returned (.int .i64 r)) ∧ w' = w := by
  have hn6 := hg.2.1
  have CB := hide (fun x y => beatsR_any n a m c l x y w h hg)
  clear h hg
  generalize prf l l.length = p at *
  have HD : Hid (∀ k, k < n → (Dom p n (2 ^ k) ↔ ∀ y, y < n → y ≠ k → p y k < p k y)) := fun k hk => dom_one hn6 hk
  go_enter Try.func42, Try.ntmps42
  go_wp2_with fail
  go_loop [5, 6, 7, 8] (fun i _ _ _ => ∃ k : Nat, k ≤ n ∧ i = .int .i64 k ∧ ∀ j, j < k → ¬ Dom p n (2 ^ j)) (fun i _ _ _ => n - (intOf i).toNat)
  case atStart => exact ⟨0, Nat.zero_le _, rfl, fun j hj => by omega⟩
  case round =>
    obtain ⟨k, hk, rfl, hno⟩ := hrel
    have HNO := hide hno
    clear hno
    by_cases hlt : k < n
    · go_wp2_with fail
      go_loop [7, 6, 8] (fun i b _ => ∃ (t : Nat) (bb : Bool), t ≤ n ∧ i = .int .i64 t ∧ b = .bool bb ∧ (bb = true ↔ ∀ y, y < t → y ≠ k → p y k < p k y)) (fun i _ _ => n - (intOf i).toNat)
      case atStart => exact ⟨0, true, Nat.zero_le _, rfl, rfl, ⟨fun _ y hy => by omega, fun _ => rfl⟩⟩
      case round =>
        obtain ⟨t, bb, ht, rfl, rfl, hiff⟩ := hrel
        have HIF := hide hiff
        clear hiff
        by_cases hlt2 : t < n
        · have C := hide (unhide CB k t)
          cases bb with
          | false =>
            have HN : Hid (¬ ∀ y, y < t + 1 → y ≠ k → p y k < p k y) := fun hh => by
              have := (unhide HIF).2 (fun y hy => hh y (by omega))
              cases this
            go_wp2_with fail
            refine (unhide C).mono ?_
            rintro e w1 ⟨rfl, hw1⟩
            subst w1
            go_wp2_with fail
            exact ⟨⟨t + 1, false, by omega, by go_num, rfl, ⟨fun hh => (by cases hh), fun hh => absurd hh (unhide HN)⟩⟩, by simp [intOf]; omega⟩
          | true =>
            by_cases hkt : k = t
            · have hkt2 : ((k : Int) == (t : Int)) = true := by simp; omega
              have HY : Hid (∀ y, y < t + 1 → y ≠ k → p y k < p k y) := fun y hy hne => (unhide HIF).1 rfl y (by omega) hne
              have HKT := hide hkt
              clear hkt
              go_wp2_with fail
              refine (unhide C).mono ?_
              rintro e w1 ⟨rfl, hw1⟩
              subst w1
              go_wp2_with fail
              exact ⟨⟨t + 1, true, by omega, by go_num, rfl, ⟨fun _ => unhide HY, fun _ => rfl⟩⟩, by simp [intOf]; omega⟩
            · have hkt2 : ((k : Int) == (t : Int)) = false := by simp; omega
              have HKT := hide hkt
              clear hkt
              by_cases hc : p t k < p k t
              · rw [decide_eq_true hc] at C
                have HY : Hid (∀ y, y < t + 1 → y ≠ k → p y k < p k y) := fun y hy hne => by
                  by_cases e : y = t
                  · rw [e]; exact hc
                  · exact (unhide HIF).1 rfl y (by omega) hne
                clear hc
                go_wp2_with fail
                refine (unhide C).mono ?_
                rintro e w1 ⟨rfl, hw1⟩
                subst w1
                go_wp2_with fail
                exact ⟨⟨t + 1, true, by omega, by go_num, rfl, ⟨fun _ => unhide HY, fun _ => rfl⟩⟩, by simp [intOf]; omega⟩
              · rw [decide_eq_false hc] at C
                have HN : Hid (¬ ∀ y, y < t + 1 → y ≠ k → p y k < p k y) := fun hh => hc (hh t (by omega) (Ne.symm (unhide HKT)))
                clear hc
                go_wp2_with fail
                refine (unhide C).mono ?_
                rintro e w1 ⟨rfl, hw1⟩
                subst w1
                go_wp2_with fail
                exact ⟨⟨t + 1, false, by omega, by go_num, rfl, ⟨fun hh => (by cases hh), fun hh => absurd hh (unhide HN)⟩⟩, by simp [intOf]; omega⟩
        · obtain rfl : n = t := by omega
          cases bb with
          | true =>
            have HDK : Hid (Dom p n (2 ^ k)) := (unhide HD k hlt).2 ((unhide HIF).1 rfl)
            go_wp2_with fail
            go_ret
            exact ⟨⟨k, .inl ⟨k, hlt, rfl, unhide HDK⟩, rfl⟩, rfl⟩
          | false =>
            have HDK : Hid (¬ Dom p n (2 ^ k)) := fun hh => by
              have := (unhide HIF).2 ((unhide HD k hlt).1 hh)
              cases this
            go_wp2_with fail
            refine ⟨⟨k + 1, by omega, by go_num, fun j hj => ?_⟩, by simp [intOf]; omega⟩
            by_cases e : j = k
            · rw [e]; exact unhide HDK
            · exact unhide HNO j (by omega)
    · obtain rfl : n = k := by omega
      go_wp2_with fail
      go_ret
      exact ⟨⟨-1, .inr ⟨rfl, unhide HNO⟩, rfl⟩, rfl⟩
end Go.Proofs.Ytloandcndnmkhaa
