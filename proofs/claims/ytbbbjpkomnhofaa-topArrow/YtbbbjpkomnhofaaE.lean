import Derived.Test.YtbbbjpkomnhofaaC
namespace Go.Proofs.Ytbbbjpkomnhofaa
open Go.RowKit Go.Shelf
def tri (x y z : Int) : Value := .agg #[.int .i64 x, .int .i64 y, .int .i64 z]
/-- Does an order rank a above b? -/
def abv (l : List Int) (a b : Int) : Bool := decide (idxFrom l a 0 < idxFrom l b 0)
set_option maxRecDepth 100000 in
set_option maxHeartbeats 2000000 in
theorem above_any (x y z a b : Int) (w : World) :
    Calls Try.prog 29 #[tri x y z, .int .i64 a, .int .i64 b] w fun e w' => e = .returned (.bool (abv [x, y, z] a b)) ∧ Below w.heap.size w w' := by
  unfold tri
  have hb0 : Below w.heap.size w (w.alloc (.cells #[.int .i64 x, .int .i64 y, .int .i64 z] 23)) := (Below.refl _ w).alloc (Nat.le_refl _) _
  have hI : Ints (w.alloc (.cells #[.int .i64 x, .int .i64 y, .int .i64 z] 23)) (some ⟨w.heap.size, 0, none⟩) 3 3 [x, y, z] := by
    refine ⟨rfl, Nat.le_refl _, by unfold maxLen; omega, .inr ⟨w.heap.size, 0, rfl, by simp, fun j hj => ?_⟩⟩
    have hn := World.alloc_heap_new w (.cells #[.int .i64 x, .int .i64 y, .int .i64 z] 23)
    rcases (by omega : j = 0 ∨ j = 1 ∨ j = 2) with rfl | rfl | rfl <;> exact (cell_in hn rfl).1
  have C1 := hide (fun (v : Int) d os => Calls.regrown_of ((index_any _ _ _ _ v (Sort.grow (redrawn (w.alloc (.cells #[.int .i64 x, .int .i64 y, .int .i64 z] 23)) d) os) (hI.later (below_regrown _ d os))).mono fun _ _ ⟨he, hw⟩ => (⟨he, by rw [hw]; exact Below.refl _ _⟩ : _ ∧ Below (Sort.grow (redrawn (w.alloc (.cells #[.int .i64 x, .int .i64 y, .int .i64 z] 23)) d) os).heap.size (Sort.grow (redrawn (w.alloc (.cells #[.int .i64 x, .int .i64 y, .int .i64 z] 23)) d) os) _)))
  clear hI
  go_enter Try.func29, Try.ntmps29
  go_wp2_with fail
  refine wp_region_quiet_below (by kernel_rfl) (by kernel_rfl) ?_
  iterate 8 (quiet_step (first | with_reducible exact unhide C1 a _ _ | with_reducible exact unhide C1 b _ _))
  refine wpQuiet_nil ?_
  intro _ hw'
  obtain ⟨⟨dq, osq⟩, hw''⟩ := hw'
  subst hw''
  have hbq := below_regrown (w.alloc (.cells #[.int .i64 x, .int .i64 y, .int .i64 z] 23)) dq osq
  go_wp2_with fail
  go_ret
  exact ⟨rfl, hb0.trans (hbq.mono (by simp))⟩
def OntoPost (l : List Int) (r : Int) (w : World) (e : Ending) (w' : World) : Prop := (∃ t : Bool, (t = true → ∀ x : Nat, x < 3 → (x : Int) ∈ l) ∧ e = .returned (.tuple #[.bool t, .int .i64 r])) ∧ w' = w
set_option maxRecDepth 100000 in
set_option maxHeartbeats 1000000 in
theorem onto_any (a : Option Addr) (n c : Nat) (l : List Int) (w : World) (h : Ints w a n c l) :
    Calls Try.prog 16 #[.slice a n c] w fun e w' => OntoPost l (ruE l 3) w e w' := by
  have C1 := hide (may_any a n c l 3 w h)
  have C2 := hide (fun x => contains_any a n c l x w h)
  clear h
  generalize ruE l 3 = r at *
  by_cases h0 : r = 0
  · subst h0
    go_enter Try.func16, Try.ntmps16
    go_wp2_with fail
    refine (unhide C1).mono ?_
    rintro e w1 ⟨rfl, hw1⟩
    subst w1
    go_wp2_with fail
    go_loop [11] (fun i => ∃ k : Nat, k ≤ 3 ∧ i = .int .i64 k ∧ ∀ x : Nat, x < k → (x : Int) ∈ l) (fun i => 3 - (intOf i).toNat)
    case atStart => exact ⟨0, by omega, rfl, fun x hx => by omega⟩
    case round =>
      obtain ⟨k, hk, rfl, hok⟩ := hrel
      have HOK := hide hok
      clear hok
      by_cases hlt : k < 3
      · by_cases hin : (k : Int) ∈ l
        · have C3 := unhide C2 k
          rw [idx_mem, decide_eq_true hin] at C3
          have HIN := hide hin
          have C3 := hide C3
          clear hin
          go_wp2_with fail
          refine (unhide C3).mono ?_
          rintro e w1 ⟨rfl, hw1⟩
          subst w1
          go_wp2_with fail
          go_round
          case rel => exact ⟨k + 1, by omega, by go_num, fun x hx => by
            by_cases e : x = k
            · rw [e]; exact unhide HIN
            · exact unhide HOK x (by omega)⟩
          case measure => simp [intOf]; omega
        · have C3 := unhide C2 k
          rw [idx_mem, decide_eq_false hin] at C3
          have C3 := hide C3
          clear hin
          go_wp2_with fail
          refine (unhide C3).mono ?_
          rintro e w1 ⟨rfl, hw1⟩
          subst w1
          go_wp2_with fail
          go_ret2
          exact ⟨⟨false, (fun h => by cases h), rfl⟩, rfl⟩
      · obtain rfl : k = 3 := by omega
        go_wp2_with fail
        go_ret2
        exact ⟨⟨true, fun _ x hx => unhide HOK x hx, rfl⟩, rfl⟩
  · have hne : (r == 0) = false := by simp [h0]
    go_enter Try.func16, Try.ntmps16
    go_wp2_with fail
    refine (unhide C1).mono ?_
    rintro e w1 ⟨rfl, hw1⟩
    subst w1
    go_wp2_with fail
    go_ret2
    exact ⟨⟨false, (fun h => by cases h), rfl⟩, rfl⟩
open Classical in
set_option maxRecDepth 100000 in
set_option maxHeartbeats 1000000 in
theorem ruleOf_any (a : Option Addr) (n c : Nat) (l : List Int) (m : Int) (w : World) (h : Ints w a n c l) :
    Calls Try.prog 15 #[.slice a n c, .int .i64 m] w fun e w' => e = .returned (.bool (decide (l.length = 36 ∧ okF l m))) ∧ w' = w := by
  have hn := h.1
  have h1 := h.2.1
  have h2 := h.2.2.1
  unfold maxLen at h2
  have HN := hide hn
  have HH := hide h
  clear h hn
  go_enter Try.func15, Try.ntmps15
  go_wp2_with fail
  go_loop [6, 5] (fun i t => ∃ k : Nat, k ≤ n ∧ i = .int .i64 k ∧ ∃ tt : Bool, t = .bool tt ∧ (tt = true ↔ n = 36 ∧ ∀ j, j < k → 0 ≤ l[j]?.getD 0 ∧ l[j]?.getD 0 < m)) (fun i _ => n - (intOf i).toNat)
  case atStart => exact ⟨0, Nat.zero_le _, rfl, _, rfl, by simp; omega⟩
  case round =>
    obtain ⟨k, hk, rfl, tt, rfl, htt⟩ := hrel
    have HTT := hide htt
    clear htt
    by_cases hlt : k < n
    · obtain ⟨b, off, rfl, hb, hcell⟩ := (unhide HH).cellAt (by omega)
      have q := hcell k hlt
      clear hcell
      generalize hv : l[k]?.getD 0 = v at q
      have HV := hide hv
      clear hv
      cases tt with
      | false =>
        go_wp2_with fail
        go_round
        case rel => exact ⟨k + 1, by omega, by go_num, false, rfl, by
          constructor
          · intro h; cases h
          · intro ⟨e1, e2⟩; exact (unhide HTT).2 ⟨e1, fun j hj => e2 j (by omega)⟩⟩
        case measure => simp [intOf]; omega
      | true =>
        by_cases g1 : 0 ≤ v
        · by_cases g2 : v < m
          · go_wp2_with fail
            go_round
            case rel => exact ⟨k + 1, by omega, by go_num, true, rfl, by
              refine ⟨fun _ => ⟨((unhide HTT).1 rfl).1, fun j hj => ?_⟩, fun _ => rfl⟩
              by_cases e : j = k
              · rw [e, unhide HV]; exact ⟨g1, g2⟩
              · exact ((unhide HTT).1 rfl).2 j (by omega)⟩
            case measure => simp [intOf]; omega
          · go_wp2_with fail
            go_round
            case rel => exact ⟨k + 1, by omega, by go_num, false, rfl, by
              constructor
              · intro h; cases h
              · intro ⟨e1, e2⟩; have := e2 k (by omega); rw [unhide HV] at this; omega⟩
            case measure => simp [intOf]; omega
        · go_wp2_with fail
          go_round
          case rel => exact ⟨k + 1, by omega, by go_num, false, rfl, by
            constructor
            · intro h; cases h
            · intro ⟨e1, e2⟩; have := e2 k (by omega); rw [unhide HV] at this; omega⟩
          case measure => simp [intOf]; omega
    · obtain rfl : n = k := by omega
      go_wp2_with fail
      go_ret
      refine ⟨ret_bool ?_, rfl⟩
      have hn := unhide HN
      refine Bool.eq_iff_iff.2 ⟨fun ht => ?_, fun hq => ?_⟩
      · have := (unhide HTT).1 ht
        simp only [Bool.and_eq_true, decide_eq_true_eq]
        exact ⟨by omega, fun j hj => this.2 j (by omega)⟩
      · simp only [Bool.and_eq_true, decide_eq_true_eq] at hq
        exact (unhide HTT).2 ⟨by omega, fun j hj => hq.2 j (by omega)⟩
end Go.Proofs.Ytbbbjpkomnhofaa
