import Derived.Test.YtloandcndnmkhaaRR
import Derived.Test.YtloandcndnmkhaaK
import Derived.Test.YtloandcndnmkhaaFF
namespace Go.Proofs.Ytloandcndnmkhaa
open Go.RowKit
/-- The things of a list beat all that are not in it. -/
def Rul (p : Nat → Nat → Int) (n : Nat) (s : Nat → Nat) (k : Nat) (inn : Nat → Bool) : Prop := ∀ i, i < k → ∀ y, y < n → inn y = false → p y (s i) < p (s i) y
set_option maxRecDepth 100000 in
set_option maxHeartbeats 4000000 in
theorem rules_any (n : Nat) (a : Option Addr) (m c : Nat) (l : List Bal) (sa : Option Addr) (sn sc : Nat) (s : Nat → Nat) (w : World) (h : Bals w a m c l) (hg : Good n l) (hs : Ints w sa sn sc ((List.range sn).map fun i => (s i : Int))) (b : Bool)
    (hb : b = true ↔ Rul (prf l l.length) n s sn (fun y => decide (0 ≤ idxFrom ((List.range sn).map fun i => (s i : Int)) (y : Int) 0))) :
    Calls Try.prog 62 #[.int .i64 n, .slice a m c, .slice sa sn sc] w fun e w' => e = .returned (.bool b) ∧ w' = w := by
  have hn6 := hg.2.1
  have CB := hide (fun x y => beatsR_any n a m c l x y w h hg)
  have CI := hide (fun y : Nat => in_any sa sn sc _ (y : Int) w hs)
  have hm1 := hs.2.1
  have hm2 := hs.2.2.1
  unfold maxLen at hm2
  have HS := hide hs
  clear h hg hs
  generalize prf l l.length = p at *
  generalize hinn : (fun y : Nat => decide (0 ≤ idxFrom ((List.range sn).map fun i => (s i : Int)) (y : Int) 0)) = inn at *
  have CI2 : Hid (∀ y : Nat, Calls Try.prog 25 #[.int .i64 y, .slice sa sn sc] w fun e w' => e = .returned (.bool (inn y)) ∧ w' = w) := fun y => by
    subst hinn
    exact unhide CI y
  clear CI hinn
  have HB := hide hb
  clear hb
  go_enter Try.func62, Try.ntmps62
  go_wp2_with fail
  go_loop [7, 8, 9, 10] (fun i _ _ _ => ∃ k : Nat, k ≤ sn ∧ i = .int .i64 k ∧ Rul p n s k inn) (fun i _ _ _ => sn - (intOf i).toNat)
  case atStart => exact ⟨0, Nat.zero_le _, rfl, fun j hj => by omega⟩
  case round =>
    obtain ⟨k, hk, rfl, hno⟩ := hrel
    have HNO := hide hno
    clear hno
    by_cases hlt : k < sn
    · obtain ⟨b1, o1, e1, hb1, hc1⟩ := (unhide HS).cellAt (by omega)
      subst e1
      have q1 := hc1 k hlt
      rw [show (((List.range sn).map fun i => (s i : Int))[k]?.getD 0) = (s k : Int) by simp [hlt]] at q1
      clear hc1
      go_wp2_with fail
      go_loop [8, 9, 10] (fun i _ _ => ∃ (t : Nat), t ≤ n ∧ i = .int .i64 t ∧ ∀ y, y < t → inn y = false → p y (s k) < p (s k) y) (fun i _ _ => n - (intOf i).toNat)
      case atStart => exact ⟨0, Nat.zero_le _, rfl, fun y hy => by omega⟩
      case round =>
        obtain ⟨t, ht, rfl, hiff⟩ := hrel
        have HIF := hide hiff
        clear hiff
        by_cases hlt2 : t < n
        · have C := hide (unhide CB (s k) t)
          have CN := hide (unhide CI2 t)
          cases hin : inn t with
          | true =>
            rw [hin] at CN
            have HY : Hid (∀ y, y < t + 1 → inn y = false → p y (s k) < p (s k) y) := fun y hy hne => by
              by_cases e : y = t
              · rw [e, hin] at hne; cases hne
              · exact (unhide HIF) y (by omega) hne
            clear hin
            go_wp2_with fail
            refine (unhide CN).mono ?_
            rintro e w1 ⟨rfl, hw1⟩
            subst w1
            go_wp2_with fail
            refine (unhide C).mono ?_
            rintro e w1 ⟨rfl, hw1⟩
            subst w1
            go_wp2_with fail
            exact ⟨⟨t + 1, by omega, by go_num, unhide HY⟩, by simp [intOf]; omega⟩
          | false =>
            rw [hin] at CN
            by_cases hc : p t (s k) < p (s k) t
            · rw [decide_eq_true hc] at C
              have HY : Hid (∀ y, y < t + 1 → inn y = false → p y (s k) < p (s k) y) := fun y hy hne => by
                by_cases e : y = t
                · rw [e]; exact hc
                · exact (unhide HIF) y (by omega) hne
              clear hin hc
              go_wp2_with fail
              refine (unhide CN).mono ?_
              rintro e w1 ⟨rfl, hw1⟩
              subst w1
              go_wp2_with fail
              refine (unhide C).mono ?_
              rintro e w1 ⟨rfl, hw1⟩
              subst w1
              go_wp2_with fail
              exact ⟨⟨t + 1, by omega, by go_num, unhide HY⟩, by simp [intOf]; omega⟩
            · rw [decide_eq_false hc] at C
              have HN : b = false := by
                cases hbb : b with
                | false => rfl
                | true => exact absurd ((unhide HB).1 hbb k hlt t hlt2 hin) hc
              subst HN
              clear hin hc
              go_wp2_with fail
              refine (unhide CN).mono ?_
              rintro e w1 ⟨rfl, hw1⟩
              subst w1
              go_wp2_with fail
              refine (unhide C).mono ?_
              rintro e w1 ⟨rfl, hw1⟩
              subst w1
              go_wp2_with fail
              go_ret
              exact ⟨rfl, rfl⟩
        · obtain rfl : n = t := by omega
          go_wp2_with fail
          refine ⟨⟨k + 1, by omega, by go_num, fun j hj => ?_⟩, by simp [intOf]; omega⟩
          by_cases e : j = k
          · rw [e]; exact unhide HIF
          · exact unhide HNO j (by omega)
    · obtain rfl : sn = k := by omega
      have HN : b = true := (unhide HB).2 (unhide HNO)
      subst HN
      go_wp2_with fail
      go_ret
      exact ⟨rfl, rfl⟩
end Go.Proofs.Ytloandcndnmkhaa
