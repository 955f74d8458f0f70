import Derived.Test.YtloandcndnmkhaaY
import Derived.Test.YtloandcndnmkhaaL
namespace Go.Proofs.Ytloandcndnmkhaa
open Go.RowKit
set_option maxHeartbeats 1000000 in
theorem same_any (a a' : Option Addr) (n c n' c' : Nat) (l m : List Int) (w : World) (h : Ints w a n c l) (h' : Ints w a' n' c' m) :
    Calls Try.prog 26 #[.slice a n c, .slice a' n' c'] w fun e w' => e = .returned (.bool (decide (l = m))) ∧ Below w.heap.size w w' := by
  obtain ⟨hn, hc, hm, h⟩ := h
  obtain ⟨hn', hc', hm', h'⟩ := h'
  unfold maxLen at hm hm'
  have HN : Hid (n = l.length) := hn
  have HN' : Hid (n' = m.length) := hn'
  clear hn hn'
  by_cases hnn : n = n'
  · subst hnn
    have HL : Hid (decide (l = m) = eqFrom l m 0) := (eqFrom_eq (HN.out.symm.trans HN'.out)).symm
    rcases h with h0 | ⟨b, off, rfl, hb, hcell⟩
    · subst h0
      go_enter Try.func26, Try.ntmps26
      go_wp2
      refine wp_loop_rounds 1 ?_
      rw [rounds_succ]
      go_wp2
      go_ret
      exact ⟨ret_bool (by rw [HL.out, eqFrom_end (by have := HN.out; omega)]), Below.refl _ _⟩
    · rcases h' with h0 | ⟨b', off', rfl, hb', hcell'⟩
      · subst h0
        go_enter Try.func26, Try.ntmps26
        go_wp2
        refine wp_loop_rounds 1 ?_
        rw [rounds_succ]
        go_wp2
        go_ret
        exact ⟨ret_bool (by rw [HL.out, eqFrom_end (by have := HN.out; omega)]), Below.refl _ _⟩
      · go_enter Try.func26, Try.ntmps26
        go_wp2
        go_loopw [5] (fun i wr => Below w.heap.size w wr ∧ ∃ k : Nat, k ≤ n ∧ i = .int .i64 k ∧ eqFrom l m 0 = eqFrom l m k) (fun i _ => n - (intOf i).toNat)
        case atStart => exact ⟨Below.refl _ _, 0, Nat.zero_le _, rfl, rfl⟩
        case round =>
          obtain ⟨hbr, k, hk, rfl, hn⟩ := hrel
          have HI : Hid (eqFrom l m 0 = eqFrom l m k) := hn
          clear hn
          by_cases hlt : k < n
          · have hck := (hbr.cell (p := ⟨b, off + k, none⟩) hb).trans (hcell k hlt)
            have hck' := (hbr.cell (p := ⟨b', off' + k, none⟩) hb').trans (hcell' k hlt)
            clear hcell hcell'
            by_cases q : l[k]?.getD 0 = m[k]?.getD 0
            · have HQ : Hid (l[k]?.getD 0 = m[k]?.getD 0) := q
              rw [← q] at hck'
              clear q
              go_wp2
              go_quiet (fail)
              go_wp2
              go_roundw
              case rel => exact ⟨hbr.trans (below_drewN _ _ _), k+1, by omega, by go_num, by rw [HI.out]; exact eqFrom_yes (by have := HN.out; omega) HQ.out⟩
              case measure => simp [intOf]; omega
            · go_wp2
              go_quiet (fail)
              go_wp2
              go_ret
              refine ⟨ret_bool ?_, hbr.trans (below_drewN _ _ _)⟩
              rw [HL.out, HI.out]; exact (eqFrom_no (by have := HN.out; omega) q).symm
          · go_wp2
            go_ret
            exact ⟨ret_bool (by rw [HL.out, HI.out, eqFrom_end (by have := HN.out; omega)]), hbr⟩
  · have HL : Hid (decide (l = m) = false) := decide_eq_false (fun e => hnn (by rw [HN.out, HN'.out, e]))
    have hnn' : ¬ (n : Int) = (n' : Int) := by omega
    go_enter Try.func26, Try.ntmps26
    go_wp2
    go_ret
    exact ⟨ret_bool HL.out.symm, Below.refl _ _⟩
set_option maxHeartbeats 1000000 in
theorem against_f (n : Nat) (a : Option Addr) (m c : Nat) (l : List Bal) (oa : Option Addr) (oc : Nat) (o : List Int) (w : World) (h : Bals w a m c l) (hg : Good n l) (hI : Ints w oa n oc o) (ho : ordE o n = 0) :
    Calls Try.prog 22 #[.int .i64 n, .slice a m c, .slice oa n oc] w fun e w' => e = .returned (two (.int .i64 (agS (prf l l.length) o n n)) 0) ∧ Below w.heap.size w w' := by
  have CP := hide (pairs_any n a m c l w h hg)
  have hn1 := hg.1
  have hn6 := hg.2.1
  have HPP : Hid (∀ x y, 0 ≤ prf l l.length x y ∧ prf l l.length x y ≤ 30000) := fun x y => by
    have := prf_le hg x y l.length (Nat.le_refl _)
    have := hg.2.2.1
    omega
  have HI := hide hI
  have HO := hide ho
  clear h hg hI ho
  generalize prf l l.length = p at *
  go_enter Try.func22, Try.ntmps22
  go_wp2_with fail
  refine (unhide CP).mono ?_
  rintro e w1 ⟨G, Bf, rfl, hT, hb1⟩
  unfold two
  have CM := ordersMay_any oa n oc o n w1 ((unhide HI).later hb1)
  rw [unhide HO] at CM
  have CM := hide CM
  have CA := hide (against_any w.heap.size w1 G Bf n p oa oc o hT ((unhide HI).later hb1) (unhide HO) hn1 hn6 (unhide HPP))
  clear hT
  go_wp2_with fail
  refine (unhide CM).mono ?_
  rintro e w2 ⟨rfl, hw2⟩
  subst w2
  go_wp2_with fail
  refine (unhide CA).mono ?_
  rintro e w2 ⟨rfl, hw2⟩
  subst w2
  go_wp2_with fail
  go_ret2
  exact ⟨rfl, hb1⟩
end Go.Proofs.Ytloandcndnmkhaa
