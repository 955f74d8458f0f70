import Derived.Test.YtloandcndnmkhaaLL
namespace Go.Proofs.Ytloandcndnmkhaa
open Go.RowKit
/-- Whom x beats, less who beats it, up to the k-th thing. -/
def cpT (p : Nat → Nat → Int) (x : Nat) : Nat → Int
  | 0 => 0
  | y + 1 => cpT p x y + (if p y x < p x y then 1 else 0) - (if p x y < p y x then 1 else 0)
theorem cpT_le (p : Nat → Nat → Int) (x : Nat) : ∀ k : Nat, -(k : Int) ≤ cpT p x k ∧ cpT p x k ≤ k := by
  intro k
  induction k with
  | zero => exact ⟨by simp [cpT], by simp [cpT]⟩
  | succ k ih =>
    unfold cpT
    split <;> split <;> omega
set_option maxRecDepth 100000 in
set_option maxHeartbeats 4000000 in
theorem copelandR_any (n : Nat) (a : Option Addr) (m c : Nat) (l : List Bal) (w : World) (h : Bals w a m c l) (hg : Good n l) :
    Calls Try.prog 34 #[.int .i64 n, .slice a m c] w fun e w' => IntsPost n ((List.range n).map fun x => cpT (prf l l.length) x n) w e w' := by
  have hn6 := hg.2.1
  have CP := hide (fun W x y (hb : Below w.heap.size w W) => beatsR_any n a m c l x y W (h.later hb) hg)
  clear h hg
  generalize prf l l.length = p at *
  go_enter Try.func34, Try.ntmps34
  go_wp2_with fail
  go_loopw [6, 5, 7, 8, 9, 10] (fun i v _ _ _ _ wr => Below w.heap.size w wr ∧ ∃ k : Nat, k ≤ n ∧ i = .int .i64 k ∧ wr.ownsRow w.heap.size 3 1 v k (intVals ((List.range k).map fun x => cpT p x n))) (fun i _ _ _ _ _ _ => n - (intOf i).toNat)
  case atStart => exact ⟨Below.refl _ _, 0, Nat.zero_le _, rfl, World.ownsRow_nil _ _ _ _⟩
  case round =>
    obtain ⟨hbr, k, hk, rfl, hown⟩ := hrel
    have HOWN := hide hown
    clear hown
    by_cases hlt : k < n
    · go_wp2_with fail
      (try rw [show decide ((k : Int) < (n : Int)) = true by simp; omega])
      rename World => wq
      go_loopw [8, 7, 9, 10] (fun i s _ _ wr => wr = wq ∧ ∃ t : Nat, t ≤ n ∧ i = .int .i64 t ∧ s = .int .i64 (cpT p k t)) (fun i _ _ _ _ => n - (intOf i).toNat)
      case atStart => exact ⟨rfl, 0, Nat.zero_le _, rfl, rfl⟩
      case round =>
        obtain ⟨hwr, t, ht, rfl, rfl⟩ := hrel
        subst hwr
        by_cases hlt2 : t < n
        · have C := unhide CP wr k t hbr
          have C' := unhide CP wr t k hbr
          have hbt := cpT_le p k t
          have HS : Hid (cpT p k (t + 1) = cpT p k t + (if p t k < p k t then 1 else 0) - (if p k t < p t k then 1 else 0)) := rfl
          obtain ⟨b1, hb1⟩ : ∃ b, decide (p t k < p k t) = b := ⟨_, rfl⟩
          obtain ⟨b2, hb2⟩ : ∃ b, decide (p k t < p t k) = b := ⟨_, rfl⟩
          rw [hb1] at C
          rw [hb2] at C'
          have E1 : Hid ((if p t k < p k t then (1 : Int) else 0) = if b1 = true then 1 else 0) := by show _ = _; rw [← hb1]; simp
          have E2 : Hid ((if p k t < p t k then (1 : Int) else 0) = if b2 = true then 1 else 0) := by show _ = _; rw [← hb2]; simp
          have C := hide C
          have C' := hide C'
          clear hb1 hb2
          rw [unhide E1, unhide E2] at HS
          clear E1 E2
          generalize cpT p k t = bt at *
          have z1 : IntKind.i64.wrap (bt + 1) = bt + 1 := by rw [IntKind.wrap_i64]; omega
          have z2 : IntKind.i64.wrap (bt - 1) = bt - 1 := by rw [IntKind.wrap_i64]; omega
          have z3 : IntKind.i64.wrap (bt + 1 - 1) = bt + 1 - 1 := by rw [IntKind.wrap_i64]; omega
          cases b1 with
          | false =>
            cases b2 with
            | false =>
              go_wp2_with fail
              refine (unhide C).mono ?_
              rintro e w1 ⟨rfl, hw1⟩
              subst w1
              go_wp2_with fail
              refine (unhide C').mono ?_
              rintro e w1 ⟨rfl, hw1⟩
              subst w1
              go_wp2_with fail
              go_roundw
              case rel => exact ⟨trivial, t + 1, by omega, by go_num, by rw [unhide HS]; simp⟩
              case measure => simp [intOf]; omega
            | true =>
              go_wp2_with fail
              refine (unhide C).mono ?_
              rintro e w1 ⟨rfl, hw1⟩
              subst w1
              go_wp2_with fail
              refine (unhide C').mono ?_
              rintro e w1 ⟨rfl, hw1⟩
              subst w1
              go_wp2_with fail
              go_roundw
              case rel => exact ⟨trivial, t + 1, by omega, by go_num, by rw [unhide HS]; simp⟩
              case measure => simp [intOf]; omega
          | true =>
            cases b2 with
            | false =>
              go_wp2_with fail
              refine (unhide C).mono ?_
              rintro e w1 ⟨rfl, hw1⟩
              subst w1
              go_wp2_with fail
              refine (unhide C').mono ?_
              rintro e w1 ⟨rfl, hw1⟩
              subst w1
              go_wp2_with fail
              go_roundw
              case rel => exact ⟨trivial, t + 1, by omega, by go_num, by rw [unhide HS]; simp⟩
              case measure => simp [intOf]; omega
            | true =>
              go_wp2_with fail
              refine (unhide C).mono ?_
              rintro e w1 ⟨rfl, hw1⟩
              subst w1
              go_wp2_with fail
              refine (unhide C').mono ?_
              rintro e w1 ⟨rfl, hw1⟩
              subst w1
              go_wp2_with fail
              go_roundw
              case rel => exact ⟨trivial, t + 1, by omega, by go_num, by rw [unhide HS]; first | (simp; done) | (simp; omega)⟩
              case measure => simp [intOf]; omega
        · obtain rfl : n = t := by omega
          have HBV : Hid ((List.range (k + 1)).map (fun x => cpT p x n) = (List.range k).map (fun x => cpT p x n) ++ [cpT p k n]) := by show _ = _; rw [List.range_succ, List.map_append]; rfl
          generalize cpT p k n = bv at *
          go_wp2_with (at_builtin; refine wpList_append_int _ rfl _ _ rfl w.heap.size _ _ _ rfl ((unhide HOWN).alloc _) wr.heap.size bv rfl (by simp) (by omega) (by have := hbr.size; simp; omega) ?_; intro v2 w2 ho2 hg2)
          go_roundw
          case rel =>
            have hb5 := (((Below.refl w.heap.size wr).alloc hbr.size (.cells #[.int .i64 bv] 3)).grown hg2 (by have := hbr.size; simp; omega) (fun q hq => ((unhide HOWN).lt q hq).1))
            refine ⟨hbr.trans hb5, k + 1, by omega, by go_num, ?_⟩
            rw [unhide HBV, intVals_append]
            exact ho2
          case measure => simp [intOf]; omega
    · obtain rfl : n = k := by omega
      obtain ⟨a2, c2, hv2, hI2, _⟩ := Ints.of_owns (unhide HOWN) (by omega)
      subst hv2
      go_wp2_with fail
      go_ret
      exact ⟨a2, c2, rfl, hI2, hbr⟩
end Go.Proofs.Ytloandcndnmkhaa
