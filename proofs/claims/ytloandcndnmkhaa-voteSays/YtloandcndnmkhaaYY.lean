import Derived.Test.YtloandcndnmkhaaFF
import Derived.Test.YtloandcndnmkhaaG
namespace Go.Proofs.Ytloandcndnmkhaa
open Go.RowKit
/-- What a table of lists holds, row by row. -/
theorem rows_at {W : World} {a : Option Addr} {n c : Nat} {L : List Sl} {d : Nat → Nat → Int} (h : Lsts W a n c L) (hl : lists L = rowsL d n n) (hn : 0 < n) :
    ∃ G O, a = some ⟨G, O, none⟩ ∧ ∀ i, i < n → ∃ b off c', W.cell? ⟨G, O + i, none⟩ = some (.slice (some ⟨b, off, none⟩) n c') ∧ ∀ j, j < n → W.cell? ⟨b, off + j, none⟩ = some (.int .i64 (d i j)) := by
  obtain ⟨G, O, rfl, _, hc⟩ := h.cellAt hn
  refine ⟨G, O, rfl, fun i hi => ?_⟩
  have I := h.mem hi
  have e1 : i < L.length := by have := h.1; omega
  have hi2 : (slAt L i).ints = (List.range n).map (d i) := by
    have : (lists L)[i]? = (rowsL d n n)[i]? := by rw [hl]
    unfold lists rowsL at this
    rw [List.getElem?_map, List.getElem?_map, List.getElem?_eq_getElem e1, List.getElem?_range hi] at this
    unfold slAt
    rw [List.getElem?_eq_getElem e1]
    simpa using this
  have hln : (slAt L i).ln = n := by
    have := I.1
    rw [hi2] at this
    simpa using this
  obtain ⟨b, off, e2, _, hcc⟩ := I.cellAt (by omega)
  have := hc i hi
  rw [e2, hln] at this
  refine ⟨b, off, _, this, fun j hj => ?_⟩
  rw [hcc j (by omega), hi2]
  simp [hj]
set_option maxRecDepth 100000 in
set_option maxHeartbeats 8000000 in
/-- The document's Schulze, over what its Paths give. -/
theorem schulzeR_of (n : Nat) (a : Option Addr) (m c : Nat) (d : Nat → Nat → Int) (w : World) (hn1 : 1 ≤ n) (hn6 : n ≤ 6)
    (hp : Calls Try.prog 41 #[.int .i64 n, .slice a m c] w fun e w' => ListsPost n (rowsL d n n) w e w') :
    Calls Try.prog 36 #[.int .i64 n, .slice a m c] w fun e w' => ∃ a c, e = .returned (.slice a (schL d n n).length c) ∧ Ints w' a (schL d n n).length c (schL d n n) ∧ Below w.heap.size w w' := by
  have CP := hide hp
  clear hp
  go_enter Try.func36, Try.ntmps36
  go_wp2_with fail
  refine (unhide CP).mono ?_
  rintro e w1 ⟨TA, TC, L, rfl, hL, hLL, hb1⟩
  have hTC1 := hL.2.1
  have hTC2 := hL.2.2.1
  unfold maxLen at hTC2
  obtain ⟨G, O, rfl, _⟩ := rows_at hL hLL hn1
  have HR : Hid (∀ wr, Below w1.heap.size w1 wr → ∀ i, i < n → ∃ b off c', wr.cell? ⟨G, O + i, none⟩ = some (.slice (some ⟨b, off, none⟩) n c') ∧ ∀ j, j < n → wr.cell? ⟨b, off + j, none⟩ = some (.int .i64 (d i j))) := fun wr hb i hi => by
    obtain ⟨G', O', e, hh⟩ := rows_at (hL.later hb) hLL hn1
    cases e
    exact hh i hi
  clear hL hLL CP
  go_wp2_with fail
  go_loopw [7, 6, 8, 9] (fun i v _ _ wr => Below w1.heap.size w1 wr ∧ ∃ k : Nat, k ≤ n ∧ i = .int .i64 k ∧ wr.ownsRow w1.heap.size 3 1 v (schL d n k).length (intVals (schL d n k))) (fun i _ _ _ _ => n - (intOf i).toNat)
  case atStart => exact ⟨Below.refl _ _, 0, Nat.zero_le _, rfl, World.ownsRow_nil _ _ _ _⟩
  case round =>
    obtain ⟨hbr, k, hk, rfl, hown⟩ := hrel
    by_cases hlt : k < n
    · have HO := hide hown
      clear hown
      go_wp2_with fail
      rename World => wq
      go_loopw [9, 8] (fun i b wr => Below wq.heap.size wq wr ∧ ∃ t : Nat, t ≤ n ∧ i = .int .i64 t ∧ b = .bool (stB d k t)) (fun i _ _ => n - (intOf i).toNat)
      case atStart => exact ⟨Below.refl _ _, 0, Nat.zero_le _, rfl, rfl⟩
      case round =>
        obtain ⟨hbr2, t, ht, rfl, rfl⟩ := hrel
        by_cases hlt2 : t < n
        · have hP := unhide HR wr (hbr.trans (hbr2.mono hbr.size))
          obtain ⟨b1, o1, c1, y1, y1'⟩ := hP t hlt2
          obtain ⟨b2, o2, c2, y2, y2'⟩ := hP k hlt
          have y3 := y1' k hlt
          have y4 := y2' t hlt2
          have HS : Hid (stB d k (t + 1) = (stB d k t && decide (d t k ≤ d k t))) := rfl
          clear hP y1' y2'
          cases hs : stB d k t
          · rw [hs] at HS
            go_wp2_with fail
            go_quiet (fail)
            go_wp2_with fail
            go_roundw
            case rel => exact ⟨hbr2.trans ((below_drewN _ _ _).mono hbr2.size), t + 1, by omega, by go_num, by rw [unhide HS]; rfl⟩
            case measure => simp [intOf]; omega
          · rw [hs] at HS
            go_wp2_with fail
            go_quiet (fail)
            go_wp2_with fail
            go_roundw
            case rel => exact ⟨hbr2.trans ((below_drewN _ _ _).mono hbr2.size), t + 1, by omega, by go_num, by rw [unhide HS]; rfl⟩
            case measure => simp [intOf]; omega
        · obtain rfl : n = t := by omega
          have HS : Hid (schL d n (k + 1) = if stB d k n = true then schL d n k ++ [(k : Int)] else schL d n k) := rfl
          have hll := schL_len d n k
          cases hs : stB d k n
          · rw [hs, if_neg (by simp)] at HS
            go_wp2_with fail
            go_roundw
            case rel => exact ⟨hbr.trans (hbr2.mono hbr.size), k + 1, by omega, by go_num, by rw [unhide HS]; exact owns_later (unhide HO) hbr2⟩
            case measure => simp [intOf]; omega
          · rw [hs, if_pos rfl] at HS
            have HO2 := hide (owns_later (unhide HO) hbr2)
            have hbb := hbr.trans (hbr2.mono hbr.size)
            go_wp2_with (at_builtin; refine wpList_append_int _ rfl _ _ rfl w1.heap.size _ _ _ rfl ((unhide HO2).alloc _) wr.heap.size (k : Int) rfl (by simp) (by omega) (by have := hbb.size; simp; omega) ?_; intro v2 w2 ho2 hg2)
            go_roundw
            case rel =>
              have hb5 := (((Below.refl w1.heap.size wr).alloc hbb.size (.cells #[.int .i64 (k : Int)] 3)).grown hg2 (by have := hbb.size; simp; omega) (fun q hq => ((unhide HO2).lt q hq).1))
              refine ⟨hbb.trans hb5, k+1, by omega, by go_num, ?_⟩
              rw [unhide HS, intVals_append, List.length_append]
              exact ho2
            case measure => simp [intOf]; omega
    · obtain rfl : n = k := by omega
      have hll := schL_len d n n
      obtain ⟨aa, cc, hv, hI, _⟩ := Ints.of_owns hown (by omega)
      subst hv
      clear hown
      go_wp2_with fail
      go_ret
      exact ⟨aa, cc, rfl, hI, hb1.trans (hbr.mono hb1.size)⟩
end Go.Proofs.Ytloandcndnmkhaa
