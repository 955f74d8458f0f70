import Derived.Test.YtbbbjpkomnhofaaA
namespace Go.Proofs.Ytbbbjpkomnhofaa
open Go.RowKit
/-- What is said of a rule whose numbers are to be below m. -/
def okF (l : List Int) (m : Int) : Prop := ∀ j, j < l.length → 0 ≤ l[j]?.getD 0 ∧ l[j]?.getD 0 < m
open Classical in
noncomputable def ruE (l : List Int) (m : Int) : Int := if l.length = 36 then (if okF l m then 0 else 9) else 7
set_option maxRecDepth 100000 in
set_option maxHeartbeats 1000000 in
theorem may_any (a : Option Addr) (n c : Nat) (l : List Int) (m : Int) (w : World) (h : Ints w a n c l) :
    Calls Try.prog 30 #[.slice a n c, .int .i64 m] w fun e w' => e = .returned (.int .i64 (ruE l m)) ∧ w' = w := by
  have hn := h.1
  by_cases h36 : n = 36
  · subst h36
    obtain ⟨b, off, rfl, hb, hcell⟩ := h.cellAt (by omega)
    have HC := hide hcell
    have HN := hide hn
    clear hcell h hn
    go_enter Try.func30, Try.ntmps30
    go_wp2_with fail
    go_loop [12] (fun i => ∃ k : Nat, k ≤ 36 ∧ i = .int .i64 k ∧ ∀ j, j < k → 0 ≤ l[j]?.getD 0 ∧ l[j]?.getD 0 < m) (fun i => 36 - (intOf i).toNat)
    case atStart => exact ⟨0, by omega, rfl, fun j hj => by omega⟩
    case round =>
      obtain ⟨k, hk, rfl, hok⟩ := hrel
      by_cases hlt : k < 36
      · have q := unhide HC k hlt
        have HOK := hide hok
        clear hok
        by_cases b1 : l[k]?.getD 0 < 0
        · go_wp2_with fail
          go_ret
          exact ⟨ret_int (by rw [ruE, if_pos (unhide HN).symm, if_neg (fun h => by have := (h k (by have := unhide HN; omega)).1; omega)]), rfl⟩
        · by_cases b2 : m ≤ l[k]?.getD 0
          · go_wp2_with fail
            go_ret
            exact ⟨ret_int (by rw [ruE, if_pos (unhide HN).symm, if_neg (fun h => by have := (h k (by have := unhide HN; omega)).2; omega)]), rfl⟩
          · go_wp2_with fail
            go_round
            case rel => exact ⟨k + 1, by omega, by go_num, fun j hj => by
              by_cases e : j = k
              · subst e; omega
              · exact unhide HOK j (by omega)⟩
            case measure => simp [intOf]; omega
      · obtain rfl : k = 36 := by omega
        go_wp2_with fail
        go_ret
        exact ⟨ret_int (by rw [ruE, if_pos (unhide HN).symm, if_pos (show okF l m from fun j hj => hok j (by have := unhide HN; omega))]), rfl⟩
  · have HN := hide hn
    have h1 := h.2.1
    have h2 := h.2.2.1
    unfold maxLen at h2
    clear h hn
    have hne : ((n : Int) == 36) = false := by simp; omega
    go_enter Try.func30, Try.ntmps30
    go_wp2_with fail
    go_ret
    exact ⟨ret_int (by rw [ruE, if_neg (by have := unhide HN; omega)]), rfl⟩
set_option maxRecDepth 100000 in
set_option maxHeartbeats 1000000 in
theorem place_any (x y : Int) (w : World) (hx : 0 ≤ x ∧ x < 6) (hy : 0 ≤ y ∧ y < 6) :
    Calls Try.prog 33 #[.agg #[.int .i64 x, .int .i64 y]] w fun e w' => e = .returned (.int .i64 (6 * x + y)) ∧ Below w.heap.size w w' := by
  go_enter Try.func33, Try.ntmps33
  go_wp2
  go_ret
  exact ⟨ret_int (by go_num), by go_grown⟩
end Go.Proofs.Ytbbbjpkomnhofaa
