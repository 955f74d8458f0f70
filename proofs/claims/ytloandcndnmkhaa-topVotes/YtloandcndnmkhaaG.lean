import Derived.Test.YtloandcndnmkhaaF
namespace Go.Proofs.Ytloandcndnmkhaa
open Go.RowKit
/-- No way to k is stronger than its way back, of the first t. -/
def stB (d : Nat → Nat → Int) (k : Nat) : Nat → Bool
  | 0 => true
  | t + 1 => stB d k t && decide (d t k ≤ d k t)
def schL (d : Nat → Nat → Int) (n : Nat) : Nat → List Int
  | 0 => []
  | k + 1 => if stB d k n = true then schL d n k ++ [(k : Int)] else schL d n k
theorem stB_iff {d : Nat → Nat → Int} {k : Nat} : ∀ t, stB d k t = true ↔ ∀ j, j < t → d j k ≤ d k j := by
  intro t
  induction t with
  | zero => exact ⟨fun _ j hj => by omega, fun _ => rfl⟩
  | succ t ih =>
    unfold stB
    rw [Bool.and_eq_true, ih, decide_eq_true_iff]
    refine ⟨fun h j hj => ?_, fun h => ⟨fun j hj => h j (by omega), h t (by omega)⟩⟩
    by_cases c : j = t
    · rw [c]; exact h.2
    · exact h.1 j (by omega)
theorem schL_mem {d : Nat → Nat → Int} {n : Nat} {x : Int} : ∀ k, x ∈ schL d n k ↔ ∃ i : Nat, i < k ∧ x = i ∧ ∀ j, j < n → d j i ≤ d i j := by
  intro k
  induction k with
  | zero => exact ⟨fun h => (by cases h), fun ⟨i, h, _⟩ => (by omega)⟩
  | succ k ih =>
    unfold schL
    by_cases c : stB d k n = true
    · rw [if_pos c, List.mem_append, ih, List.mem_singleton]
      refine ⟨fun h => ?_, fun ⟨i, h1, h2, h3⟩ => ?_⟩
      · rcases h with ⟨i, h1, h2⟩ | h
        · exact ⟨i, by omega, h2⟩
        · exact ⟨k, by omega, h, (stB_iff n).1 c⟩
      · by_cases e : i = k
        · exact .inr (by rw [h2, e])
        · exact .inl ⟨i, by omega, h2, h3⟩
    · rw [if_neg c, ih]
      refine ⟨fun ⟨i, h1, h2⟩ => ⟨i, by omega, h2⟩, fun ⟨i, h1, h2, h3⟩ => ?_⟩
      by_cases e : i = k
      · subst e; exact absurd ((stB_iff n).2 h3) c
      · exact ⟨i, by omega, h2, h3⟩
theorem schL_len (d : Nat → Nat → Int) (n : Nat) : ∀ k, (schL d n k).length ≤ k := by
  intro k
  induction k with
  | zero => simp [schL]
  | succ k ih =>
    unfold schL
    by_cases c : stB d k n = true
    · rw [if_pos c, List.length_append]; simp; omega
    · rw [if_neg c]; omega
def SchPost (L : List Int) (w : World) (e : Ending) (w' : World) : Prop :=
  ∃ a c, e = .returned (two (.slice a L.length c) 0) ∧ Ints w' a L.length c L ∧ Below w.heap.size w w'
set_option maxRecDepth 100000 in
set_option maxHeartbeats 8000000 in
theorem schulze_any (n : Nat) (a : Option Addr) (m c : Nat) (l : List Bal) (w : World) (h : Bals w a m c l) (hg : Good n l) :
    Calls Try.prog 16 #[.int .i64 n, .slice a m c] w fun e w' => SchPost (schL (fw (prf l l.length) n) n n) w e w' := by
  have CP := hide (paths_any n a m c l w h hg)
  have hn1 := hg.1
  have hn6 := hg.2.1
  clear h hg
  generalize fw (prf l l.length) n = d at *
  go_enter Try.func16, Try.ntmps16
  go_wp2_with fail
  refine (unhide CP).mono ?_
  rintro e w1 ⟨GP, BP, rfl, hTP, hb1⟩
  unfold two
  have HTP := hide hTP
  clear hTP CP
  go_wp2_with fail
  go_loopw [22, 8, 9, 10, 11] (fun i v _ _ _ wr => Below w1.heap.size w1 wr ∧ ∃ k : Nat, k ≤ n ∧ i = .int .i64 k ∧ wr.ownsRow w1.heap.size 3 1 v (schL d n k).length (intVals (schL d n k))) (fun i _ _ _ _ _ => n - (intOf i).toNat)
  case atStart => exact ⟨Below.refl _ _, 0, Nat.zero_le _, rfl, World.ownsRow_nil _ _ _ _⟩
  case round =>
    obtain ⟨hbr, k, hk, rfl, hown⟩ := hrel
    by_cases hlt : k < n
    · have HO := hide hown
      clear hown
      go_wp2_with fail
      rename World => wq
      go_loopw [26, 10, 11] (fun i b _ wr => Below wq.heap.size wq wr ∧ ∃ t : Nat, t ≤ n ∧ i = .int .i64 t ∧ b = .bool (stB d k t)) (fun i _ _ _ => n - (intOf i).toNat)
      case atStart => exact ⟨Below.refl _ _, 0, Nat.zero_le _, rfl, rfl⟩
      case round =>
        obtain ⟨hbr2, t, ht, rfl, rfl⟩ := hrel
        by_cases hlt2 : t < n
        · have hP := (unhide HTP).later (hbr.trans (hbr2.mono hbr.size))
          have y1 := hP.2.2.1 t hlt2
          have y2 := hP.2.2.1 k hlt
          have y3 := hP.2.2.2.2.2.1 t k hlt2 hlt
          have y4 := hP.2.2.2.2.2.1 k t hlt hlt2
          have HS : Hid (stB d k (t + 1) = (stB d k t && decide (d t k ≤ d k t))) := rfl
          clear hP
          cases hs : stB d k t
          · rw [hs] at HS
            go_wp2_with fail
            go_quiet (fail)
            go_wp2_with fail
            go_roundw
            case rel => exact ⟨hbr2.trans ((below_drewN _ _ _).mono hbr2.size), t + 1, by omega, by go_num, by rw [unhide HS]; rfl⟩
            case measure => simp [intOf]; omega
          · rw [hs] at HS
            go_wp2_with fail
            go_quiet (fail)
            go_wp2_with fail
            go_roundw
            case rel => exact ⟨hbr2.trans ((below_drewN _ _ _).mono hbr2.size), t + 1, by omega, by go_num, by rw [unhide HS]; rfl⟩
            case measure => simp [intOf]; omega
        · obtain rfl : n = t := by omega
          have HS : Hid (schL d n (k + 1) = if stB d k n = true then schL d n k ++ [(k : Int)] else schL d n k) := rfl
          have hll := schL_len d n k
          cases hs : stB d k n
          · rw [hs, if_neg (by simp)] at HS
            go_wp2_with fail
            go_roundw
            case rel => exact ⟨hbr.trans (hbr2.mono hbr.size), k + 1, by omega, by go_num, by rw [unhide HS]; exact owns_later (unhide HO) hbr2⟩
            case measure => simp [intOf]; omega
          · rw [hs, if_pos rfl] at HS
            have HO2 := hide (owns_later (unhide HO) hbr2)
            have hbb := hbr.trans (hbr2.mono hbr.size)
            go_wp2_with (at_builtin; refine wpList_append_int _ rfl _ _ rfl w1.heap.size _ _ _ rfl ((unhide HO2).alloc _) wr.heap.size (k : Int) rfl (by simp) (by omega) (by have := hbb.size; simp; omega) ?_; intro v2 w2 ho2 hg2)
            go_roundw
            case rel =>
              have hb5 := (((Below.refl w1.heap.size wr).alloc hbb.size (.cells #[.int .i64 (k : Int)] 3)).grown hg2 (by have := hbb.size; simp; omega) (fun q hq => ((unhide HO2).lt q hq).1))
              refine ⟨hbb.trans hb5, k+1, by omega, by go_num, ?_⟩
              rw [unhide HS, intVals_append, List.length_append]
              exact ho2
            case measure => simp [intOf]; omega
    · obtain rfl : n = k := by omega
      have hll := schL_len d n n
      obtain ⟨aa, cc, hv, hI, _⟩ := Ints.of_owns hown (by omega)
      subst hv
      clear hown
      go_wp2_with fail
      go_ret2
      exact ⟨aa, cc, rfl, hI, hb1.trans (hbr.mono hb1.size)⟩
end Go.Proofs.Ytloandcndnmkhaa
