import Derived.Test.YtbbbjpkomnhofaaRE
namespace Go.Proofs.Ytbbbjpkomnhofaa
open Go.RowKit Go.Shelf
set_option maxRecDepth 100000 in
set_option maxHeartbeats 1000000 in
theorem ruleMay_any (a : Option Addr) (n c : Nat) (l : List Int) (m : Int) (w : World) (h : Ints w a n c l) :
    Calls Try.prog 10 #[.slice a n c, .int .i64 m] w fun e w' => e = .returned (.int .i64 (ruE l m)) ∧ w' = w := by
  have hn := h.1
  by_cases h36 : n = 36
  · subst h36
    obtain ⟨b, off, rfl, hb, hcell⟩ := h.cellAt (by omega)
    have hcc := h.2.1
    have hcm := h.2.2.1
    unfold maxLen at hcm
    have HC := hide hcell
    have HN := hide hn
    clear hcell h hn
    go_enter Try.func10, Try.ntmps10
    go_wp2_with fail
    go_loop [5] (fun i => ∃ k : Nat, k ≤ 36 ∧ i = .int .i64 k ∧ ∀ j, j < k → 0 ≤ l[j]?.getD 0 ∧ l[j]?.getD 0 < m) (fun i => 36 - (intOf i).toNat)
    case atStart => exact ⟨0, by omega, rfl, fun j hj => by omega⟩
    case round =>
      obtain ⟨k, hk, rfl, hok⟩ := hrel
      by_cases hlt : k < 36
      · have q := unhide HC k hlt
        have HOK := hide hok
        clear hok
        by_cases b1 : l[k]?.getD 0 < 0
        · go_wp2_with fail
          go_ret
          exact ⟨ret_int (by rw [ruE, if_pos (unhide HN).symm, if_neg (fun h => by have := (h k (by have := unhide HN; omega)).1; omega)]), rfl⟩
        · by_cases b2 : m ≤ l[k]?.getD 0
          · go_wp2_with fail
            go_ret
            exact ⟨ret_int (by rw [ruE, if_pos (unhide HN).symm, if_neg (fun h => by have := (h k (by have := unhide HN; omega)).2; omega)]), rfl⟩
          · go_wp2_with fail
            go_round
            case rel => exact ⟨k + 1, by omega, by go_num, fun j hj => by
              by_cases e : j = k
              · subst e; omega
              · exact unhide HOK j (by omega)⟩
            case measure => simp [intOf]; omega
      · obtain rfl : k = 36 := by omega
        go_wp2_with fail
        go_ret
        exact ⟨ret_int (by rw [ruE, if_pos (unhide HN).symm, if_pos (show okF l m from fun j hj => hok j (by have := unhide HN; omega))]), rfl⟩
  · have HN := hide hn
    have h1 := h.2.1
    have h2 := h.2.2.1
    unfold maxLen at h2
    clear h hn
    have hne : ((n : Int) == 36) = false := by simp; omega
    go_enter Try.func10, Try.ntmps10
    go_wp2_with fail
    go_ret
    exact ⟨ret_int (by rw [ruE, if_neg (by have := unhide HN; omega)]), rfl⟩
def OrPost (k : Int) (w : World) (e : Ending) (w' : World) : Prop :=
  (∃ o0 o1 o2 r : Int, e = .returned (.tuple #[.agg #[.int .i64 o0, .int .i64 o1, .int .i64 o2], .int .i64 r]) ∧ (∀ m : Nat, m < 6 → k = (m : Int) → r = 0 ∧ o0 = o6 m 0 ∧ o1 = o6 m 1 ∧ o2 = o6 m 2) ∧ ((k < 0 ∨ 6 ≤ k) → r = 9 ∧ o0 = 0 ∧ o1 = 0 ∧ o2 = 0)) ∧ Below w.heap.size w w'
set_option maxRecDepth 100000 in
set_option maxHeartbeats 1000000 in
theorem order_any (k : Int) (w : World) : Calls Try.prog 6 #[.int .i64 k] w fun e w' => OrPost k w e w' := by
  have hb0 : Below w.heap.size w (w.alloc (.cells #[.int .i64 0, .int .i64 0, .int .i64 0] 23)) := (Below.refl _ w).alloc (Nat.le_refl _) _
  have hn := World.alloc_heap_new w (.cells #[.int .i64 0, .int .i64 0, .int .i64 0] 23)
  have hsz : Hid (∀ x y z : Int, (Try.prog.info? 23).map (·.size) = some (#[Value.int .i64 x, Value.int .i64 y, Value.int .i64 z] : Array Value).size) := fun x y z => by
    show _ = some 3
    kernel_rfl
  by_cases h1 : k < 0
  · go_enter Try.func6, Try.ntmps6
    go_wp2_with fail
    (try simp only [Exit.inBlock, Exit.then])
    refine bodyPost_ret (results_row_tmp (p := 2) (ty := 23) (u := 3) rfl _ _ _ w.heap.size _ rfl (run_loadVar_row _ _ 23 23 _ (0, 0) _ hn Try.underlying23 rfl (unhide hsz _ _ _))) rfl ?_
    exact ⟨⟨0, 0, 0, 9, rfl, fun m hm e => by omega, fun _ => ⟨rfl, rfl, rfl, rfl⟩⟩, hb0⟩
  · by_cases h2 : 6 ≤ k
    · go_enter Try.func6, Try.ntmps6
      go_wp2_with fail
      (try simp only [Exit.inBlock, Exit.then])
      refine bodyPost_ret (results_row_tmp (p := 2) (ty := 23) (u := 3) rfl _ _ _ w.heap.size _ rfl (run_loadVar_row _ _ 23 23 _ (0, 0) _ hn Try.underlying23 rfl (unhide hsz _ _ _))) rfl ?_
      exact ⟨⟨0, 0, 0, 9, rfl, fun m hm e => by omega, fun _ => ⟨rfl, rfl, rfl, rfl⟩⟩, hb0⟩
    · obtain ⟨m, rfl⟩ : ∃ m : Nat, k = (m : Int) := ⟨k.toNat, by omega⟩
      have hm : m < 6 := by omega
      have hix := index6 m hm
      have C1 := hide orders_any
      generalize ordC 6 = CO at *
      have hall : Hid (∀ x y z : Int, (#[Value.int .i64 x, Value.int .i64 y, Value.int .i64 z] : Array Value).all (·.oneCell') = true) := fun x y z => by
        show _ = true
        simp [Value.oneCell']
      have HN := hide hn
      clear hn
      go_enter Try.func6, Try.ntmps6
      go_wp2_with fail
      refine (unhide C1 _).mono ?_
      rintro e w2 ⟨rfl, hb2⟩
      have q2 := (hb2.block _ (by simp)).trans (unhide HN)
      have HQ := hide q2
      have hr := setRow_heap w2 w.heap.size _ #[.int .i64 (o6 m 0), .int .i64 (o6 m 1), .int .i64 (o6 m 2)] _ _ q2
      have HR := hide hr
      have HB := hide (below_setRow (hb0.trans (hb2.mono (by simp))) (Nat.le_refl _) #[.int .i64 (o6 m 0), .int .i64 (o6 m 1), .int .i64 (o6 m 2)])
      clear q2 hr hb2
      go_wp2_with (refine wpList_store_row rfl 23 (.tmp 2) (.tmp 13) rfl w.heap.size #[.int .i64 (o6 m 0), .int .i64 (o6 m 1), .int .i64 (o6 m 2)] rfl rfl 23 _ (unhide HQ) (unhide hsz _ _ _) rfl (unhide hall _ _ _) ?_)
      (try simp only [Exit.inBlock, Exit.then])
      refine bodyPost_ret (results_row_tmp (p := 2) (ty := 23) (u := 3) rfl _ _ _ w.heap.size _ rfl (run_loadVar_row _ _ 23 23 _ (0, 0) _ (unhide HR) Try.underlying23 rfl (unhide hsz _ _ _))) rfl ?_
      exact ⟨⟨_, _, _, 0, rfl, fun m' hm' e => by
        obtain rfl : m = m' := by omega
        exact ⟨rfl, rfl, rfl, rfl⟩, fun e => by omega⟩, unhide HB⟩
end Go.Proofs.Ytbbbjpkomnhofaa
