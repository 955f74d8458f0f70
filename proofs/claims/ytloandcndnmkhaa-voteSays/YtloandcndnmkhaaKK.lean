import Derived.Test.YtloandcndnmkhaaJJ
import Derived.Test.YtloandcndnmkhaaEE
namespace Go.Proofs.Ytloandcndnmkhaa
open Go.RowKit
/-- What stands below x, all ballots together, up to the k-th thing. -/
def boT (p : Nat → Nat → Int) (x : Nat) : Nat → Int
  | 0 => 0
  | y + 1 => boT p x y + if x = y then 0 else p x y
theorem boT_le {p : Nat → Nat → Int} (hp : ∀ x y, 0 ≤ p x y ∧ p x y ≤ 30000) (x : Nat) : ∀ k, 0 ≤ boT p x k ∧ boT p x k ≤ k * 30000 := by
  intro k
  induction k with
  | zero => exact ⟨by simp [boT], by simp [boT]⟩
  | succ k ih =>
    have := hp x k
    unfold boT
    split <;> omega
def IntsPost (n : Nat) (m : List Int) (w : World) (e : Ending) (w' : World) : Prop := ∃ a c, e = .returned (.slice a n c) ∧ Ints w' a n c m ∧ Below w.heap.size w w'
set_option maxRecDepth 100000 in
set_option maxHeartbeats 4000000 in
theorem bordaR_any (n : Nat) (a : Option Addr) (m c : Nat) (l : List Bal) (w : World) (h : Bals w a m c l) (hg : Good n l) :
    Calls Try.prog 33 #[.int .i64 n, .slice a m c] w fun e w' => IntsPost n ((List.range n).map fun x => boT (prf l l.length) x n) w e w' := by
  have hn6 := hg.2.1
  have CP := hide (fun W x y (hb : Below w.heap.size w W) => prefer_any n a m c l x y W (h.later hb) hg)
  have HP : Hid (∀ x y, 0 ≤ prf l l.length x y ∧ prf l l.length x y ≤ 30000) := prf_bound hg
  clear h hg
  generalize prf l l.length = p at *
  go_enter Try.func33, Try.ntmps33
  go_wp2_with fail
  go_loopw [6, 5, 7, 8, 9] (fun i v _ _ _ wr => Below w.heap.size w wr ∧ ∃ k : Nat, k ≤ n ∧ i = .int .i64 k ∧ wr.ownsRow w.heap.size 3 1 v k (intVals ((List.range k).map fun x => boT p x n))) (fun i _ _ _ _ _ => n - (intOf i).toNat)
  case atStart => exact ⟨Below.refl _ _, 0, Nat.zero_le _, rfl, World.ownsRow_nil _ _ _ _⟩
  case round =>
    obtain ⟨hbr, k, hk, rfl, hown⟩ := hrel
    have HOWN := hide hown
    clear hown
    by_cases hlt : k < n
    · go_wp2_with fail
      (try rw [show decide ((k : Int) < (n : Int)) = true by simp; omega])
      rename World => wq
      go_loopw [8, 7, 9] (fun i s _ wr => wr = wq ∧ ∃ t : Nat, t ≤ n ∧ i = .int .i64 t ∧ s = .int .i64 (boT p k t)) (fun i _ _ _ => n - (intOf i).toNat)
      case atStart => exact ⟨rfl, 0, Nat.zero_le _, rfl, rfl⟩
      case round =>
        obtain ⟨hwr, t, ht, rfl, rfl⟩ := hrel
        subst hwr
        by_cases hlt2 : t < n
        · have C := hide (unhide CP wr k t hbr)
          have hbt := boT_le (unhide HP) k t
          have hpt := unhide HP k t
          have HS : Hid (boT p k (t + 1) = boT p k t + if k = t then 0 else p k t) := rfl
          generalize p k t = pv at *
          generalize boT p k t = bt at *
          by_cases hkt : k = t
          · subst hkt
            go_wp2_with (go_at_call 59; refine (unhide C).mono ?_; rintro e w1 ⟨rfl, hw1⟩; subst w1)
            go_roundw
            case rel => exact ⟨trivial, k + 1, by omega, by go_num, by rw [unhide HS]; simp⟩
            case measure => simp [intOf]; omega
          · have hne : ((k : Int) == (t : Int)) = false := by simp; omega
            have hz : IntKind.i64.wrap (bt + pv) = bt + pv := by rw [IntKind.wrap_i64]; omega
            go_wp2_with (go_at_call 59; refine (unhide C).mono ?_; rintro e w1 ⟨rfl, hw1⟩; subst w1)
            go_roundw
            case rel => exact ⟨trivial, t + 1, by omega, by go_num, by rw [unhide HS, if_neg hkt]⟩
            case measure => simp [intOf]; omega
        · obtain rfl : n = t := by omega
          have HBV : Hid ((List.range (k + 1)).map (fun x => boT p x n) = (List.range k).map (fun x => boT p x n) ++ [boT p k n]) := by show _ = _; rw [List.range_succ, List.map_append]; rfl
          generalize boT p k n = bv at *
          go_wp2_with (at_builtin; refine wpList_append_int _ rfl _ _ rfl w.heap.size _ _ _ rfl ((unhide HOWN).alloc _) wr.heap.size bv rfl (by simp) (by omega) (by have := hbr.size; simp; omega) ?_; intro v2 w2 ho2 hg2)
          go_roundw
          case rel =>
            have hb5 := (((Below.refl w.heap.size wr).alloc hbr.size (.cells #[.int .i64 bv] 3)).grown hg2 (by have := hbr.size; simp; omega) (fun q hq => ((unhide HOWN).lt q hq).1))
            refine ⟨hbr.trans hb5, k + 1, by omega, by go_num, ?_⟩
            rw [unhide HBV, intVals_append]
            exact ho2
          case measure => simp [intOf]; omega
    · obtain rfl : n = k := by omega
      obtain ⟨a2, c2, hv2, hI2, _⟩ := Ints.of_owns (unhide HOWN) (by omega)
      subst hv2
      go_wp2_with fail
      go_ret
      exact ⟨a2, c2, rfl, hI2, hbr⟩
end Go.Proofs.Ytloandcndnmkhaa
