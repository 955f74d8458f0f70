import Derived.Test.YtbbbjpkomnhofaaAG
namespace Go.Proofs.Ytbbbjpkomnhofaa
open Go.RowKit Go.Shelf
theorem eqO : ∀ k : Nat, k < 6 → ∀ m : Nat, m < 6 → ∀ X : World, (Op.equalIn 10000 23 (.agg #[.int .i64 (o6 k 0), .int .i64 (o6 k 1), .int .i64 (o6 k 2)]) (.agg #[.int .i64 (o6 m 0), .int .i64 (o6 m 1), .int .i64 (o6 m 2)])).run Try.prog X = .ok (decide (k = m)) X := by
  intro k hk m hm X
  rcases (by omega : k = 0 ∨ k = 1 ∨ k = 2 ∨ k = 3 ∨ k = 4 ∨ k = 5) with rfl | rfl | rfl | rfl | rfl | rfl <;> rcases (by omega : m = 0 ∨ m = 1 ∨ m = 2 ∨ m = 3 ∨ m = 4 ∨ m = 5) with rfl | rfl | rfl | rfl | rfl | rfl <;> kernel_rfl
/-- What is said of the two rulers. -/
def RuPost (l : List Int) (r : Int) (w : World) (e : Ending) (w' : World) : Prop :=
  (∃ t0 t1 : Bool, e = .returned (.tuple #[.agg #[.bool t0, .bool t1], .int .i64 r]) ∧ (r = 0 → (t0 = true ↔ ∀ i, i < 36 → rl l i = i / 6) ∧ (t1 = true ↔ ∀ i, i < 36 → rl l i = i % 6)) ∧ (r ≠ 0 → t0 = false ∧ t1 = false)) ∧ Below w.heap.size w w'
def upTo0 (l : List Int) (k : Nat) : Prop := ∀ i, i < k → rl l i = i / 6
def upTo1 (l : List Int) (k : Nat) : Prop := ∀ i, i < k → rl l i = i % 6
theorem upTo0_succ (l : List Int) (k : Nat) : upTo0 l (k + 1) ↔ upTo0 l k ∧ rl l k = k / 6 :=
  ⟨fun h => ⟨fun i hi => h i (by omega), h k (by omega)⟩, fun h i hi => by
    by_cases e : i = k
    · rw [e]; exact h.2
    · exact h.1 i (by omega)⟩
theorem upTo1_succ (l : List Int) (k : Nat) : upTo1 l (k + 1) ↔ upTo1 l k ∧ rl l k = k % 6 :=
  ⟨fun h => ⟨fun i hi => h i (by omega), h k (by omega)⟩, fun h i hi => by
    by_cases e : i = k
    · rw [e]; exact h.2
    · exact h.1 i (by omega)⟩
set_option maxRecDepth 100000 in
set_option maxHeartbeats 4000000 in
theorem rulers_any (a : Option Addr) (n c : Nat) (l : List Int) (w : World) (h : Ints w a n c l) :
    Calls Try.prog 14 #[.slice a n c] w fun e w' => RuPost l (ruE l 6) w e w' := by
  have mx : Try.prog.follows .mixedOrders = true := by kernel_rfl
  have hb0 : Below w.heap.size w (w.alloc (.cells #[.bool false, .bool false] 34)) := (Below.refl _ w).alloc (Nat.le_refl _) _
  have CC := hide (made_any a n c l _ (h.later hb0))
  have HR0 : Hid (ruE l 6 = 0 → ∀ i, i < 36 → rl l i < 6) := fun h0 => by
    unfold ruE at h0
    split at h0
    · split at h0
      · rename_i h1 h2
        intro i hi
        have := h2 i (by omega)
        unfold rl
        omega
      · cases h0
    · cases h0
  clear h
  obtain ⟨P0, hP0⟩ : ∃ P0, P0 = arr (List.replicate 108 0) := ⟨_, rfl⟩
  have hz : ∀ X : World, (zeroValue 47).run Try.prog X = .ok (.agg P0) X := fun X => by rw [hP0]; kernel_rfl
  have HP0 := hide hP0
  clear hP0
  have HSZ : Hid (∀ cs : List Int, cs.length = 108 → (Try.prog.info? 47).map (·.size) = some (arr cs).size) := fun cs hc => by
    rw [show (arr cs).size = 108 by simp [arr, hc]]
    kernel_rfl
  have HAL : Hid (∀ cs : List Int, (arr cs).all (·.oneCell') = true) := fun cs => by simp [arr, iv, Value.oneCell']
  have HS0 : Hid (∀ cs : List Int, cs.length = 108 → P0.size = (arr cs).size) := fun cs hc => by
    rw [unhide HP0]
    simp [arr, hc]
  have hsz : Hid (∀ t0 t1 : Bool, (Try.prog.info? 34).map (·.size) = some (#[Value.bool t0, Value.bool t1] : Array Value).size) := fun t0 t1 => by
    show _ = some 2
    kernel_rfl
  have hall : Hid (∀ t0 t1 : Bool, (#[Value.bool t0, Value.bool t1] : Array Value).all (·.oneCell') = true) := fun t0 t1 => by
    show _ = true
    simp [Value.oneCell']
  generalize ruE l 6 = r at *
  by_cases h0 : r = 0
  · subst h0
    have HR6 := hide (unhide HR0 rfl)
    clear HR0
    go_enter Try.func14, Try.ntmps14
    go_wp2_with fail
    refine (unhide CC).mono ?_
    rintro e w1 ⟨⟨cs, rfl, hl, hm⟩, hb1⟩
    have HM := hide (hm rfl)
    have H1 := hide (unhide HSZ cs hl)
    have H2 := hide (unhide HS0 cs hl)
    have H3 := hide (unhide HAL cs)
    have HCS : Hid (∀ i, i < 108 → (arr cs)[i]? = some (.int .i64 (cs[i]?.getD 0))) := fun i hi => arr_at (getD_some (by omega))
    generalize arr cs = CS at *
    have HB1 : Hid (Below w.heap.size w w1 ∧ w.heap.size + 1 ≤ w1.heap.size ∧ w1.heap[w.heap.size]? = some (.cells #[.bool false, .bool false] 34 (0, 0))) := by
      have hz1 := hb1.size
      simp only [World.size_alloc] at hz1
      exact ⟨hb0.trans (hb1.mono (by simp)), hz1, (hb1.block _ (by simp)).trans (World.alloc_heap_new _ _)⟩
    clear hm hb1
    go_wp2_with (refine wpList_store_row rfl 47 (.tmp 4) (.tmp 13) rfl w1.heap.size CS rfl rfl 47 P0 (World.alloc_heap_new _ _) (unhide H1) (unhide H2) (unhide H3) ?_)
    obtain ⟨W2, hW2⟩ : ∃ y, y = (w1.alloc (.cells P0 47)).setRow w1.heap.size CS := ⟨_, rfl⟩
    obtain ⟨B4, hB4⟩ : ∃ y, y = w1.heap.size := ⟨_, rfl⟩
    rw [← hW2, ← hB4]
    have HW2 : Hid (Below w.heap.size w W2 ∧ w.heap.size + 1 ≤ B4 ∧ W2.heap.size = B4 + 1 ∧ W2.heap[w.heap.size]? = some (.cells #[.bool false, .bool false] 34 (0, 0)) ∧ W2.heap[B4]? = some (.cells CS 47 (0, 0))) := by
      obtain ⟨q1, q2, q3⟩ := unhide HB1
      have hr := setRow_heap (w1.alloc (.cells P0 47)) w1.heap.size _ CS _ _ (World.alloc_heap_new _ _)
      have hb : Below w1.heap.size w1 ((w1.alloc (.cells P0 47)).setRow w1.heap.size CS) := below_setRow ((Below.refl _ w1).alloc (Nat.le_refl _) _) (Nat.le_refl _) _
      rw [hB4, hW2]
      exact ⟨q1.trans (hb.mono (by omega)), q2, by simp, (hb.block _ (by omega)).trans q3, hr⟩
    clear hW2 hB4 HB1
    refine (profiles_any _).mono ?_
    rintro e w3 ⟨rfl, hb3⟩
    have HIX : Hid (∀ k : Nat, k < 36 → ∀ X : World, (Instr.index 52 (.agg (arr (pfI 36))) (.int .i64 k)).run Try.prog X = .ok (.agg #[.int .i64 (o6 (k / 6) 0), .int .i64 (o6 (k / 6) 1), .int .i64 (o6 (k / 6) 2), .int .i64 (o6 (k % 6) 0), .int .i64 (o6 (k % 6) 1), .int .i64 (o6 (k % 6) 2)]) X) := index36
    generalize arr (pfI 36) = PF at *
    have HW3 : Hid (Below w.heap.size w w3 ∧ w.heap.size + 1 ≤ B4 ∧ B4 + 2 ≤ w3.heap.size ∧ w3.heap[w.heap.size]? = some (.cells #[.bool false, .bool false] 34 (0, 0)) ∧ w3.heap[B4]? = some (.cells CS 47 (0, 0)) ∧ w3.heap[B4 + 1]? = some (.cells #[.bool true, .bool true] 34 (0, 0))) := by
      obtain ⟨q1, q2, q3, q4, q5⟩ := unhide HW2
      have hs : (W2.alloc (.cells #[.bool true, .bool true] 34)).heap.size = B4 + 2 := by simp; omega
      have hz3 := hb3.size
      rw [hs] at hb3 hz3
      have ha := (Below.refl W2.heap.size W2).alloc (Nat.le_refl _) (.cells #[.bool true, .bool true] 34)
      refine ⟨q1.trans ((ha.mono (by omega)).trans (hb3.mono (by omega))), q2, hz3, ?_, ?_, ?_⟩
      · rw [hb3.block _ (by omega), ha.block _ (by omega)]; exact q4
      · rw [hb3.block _ (by omega), ha.block _ (by omega)]; exact q5
      · rw [hb3.block _ (by omega)]; exact alloc_at _ (by omega)
    clear hb3 hb0
    go_wp2_with fail
    go_loopw [21] (fun i wi => ∃ k : Nat, k ≤ 36 ∧ i = .int .i64 k ∧ Below w.heap.size w wi ∧ w.heap.size + 1 ≤ B4 ∧ B4 + 2 ≤ wi.heap.size ∧ wi.heap[w.heap.size]? = some (.cells #[.bool false, .bool false] 34 (0, 0)) ∧ wi.heap[B4]? = some (.cells CS 47 (0, 0)) ∧ ∃ t0 t1 : Bool, wi.heap[B4 + 1]? = some (.cells #[.bool t0, .bool t1] 34 (0, 0)) ∧ (t0 = true ↔ upTo0 l k) ∧ (t1 = true ↔ upTo1 l k)) (fun i _ => 36 - (intOf i).toNat)
    case atStart =>
      obtain ⟨q1, q2, q3, q4, q5, q6⟩ := unhide HW3
      exact ⟨0, by omega, rfl, q1, q2, q3, q4, q5, true, true, q6, ⟨fun _ i hi => by omega, fun _ => rfl⟩, ⟨fun _ i hi => by omega, fun _ => rfl⟩⟩
    case round =>
      obtain ⟨k, hk, rfl, r1, r2, r3, r4, r5, t0, t1, r6, r7, r8⟩ := hrel
      by_cases hlt : k < 36
      · have hix := unhide HIX k hlt
        have HR := hide (And.intro r1 (And.intro r2 (And.intro r3 (And.intro r4 (And.intro r5 (And.intro r6 (And.intro r7 r8)))))))
        clear r1 r2 r3 r4 r5 r6 r7 r8
        go_wp2_with fail
        obtain ⟨B8, hB8⟩ : ∃ y, y = wr.heap.size := ⟨_, rfl⟩
        obtain ⟨X0, hX0⟩ : ∃ y, y = wr.alloc (.cells #[.int .i64 (o6 (k / 6) 0), .int .i64 (o6 (k / 6) 1), .int .i64 (o6 (k / 6) 2), .int .i64 (o6 (k % 6) 0), .int .i64 (o6 (k % 6) 1), .int .i64 (o6 (k % 6) 2)] 51) := ⟨_, rfl⟩
        rw [← hB8, ← hX0, show decide ((k : Int) < 36) = true by simp; omega]
        have HI0 : Hid (Below w.heap.size w X0 ∧ w.heap.size + 1 ≤ B4 ∧ B4 + 2 ≤ B8 ∧ B8 < X0.heap.size ∧ X0.heap[w.heap.size]? = some (.cells #[.bool false, .bool false] 34 (0, 0)) ∧ X0.heap[B4]? = some (.cells CS 47 (0, 0)) ∧ X0.heap[B8]? = some (.cells #[.int .i64 (o6 (k / 6) 0), .int .i64 (o6 (k / 6) 1), .int .i64 (o6 (k / 6) 2), .int .i64 (o6 (k % 6) 0), .int .i64 (o6 (k % 6) 1), .int .i64 (o6 (k % 6) 2)] 51 (0, 0)) ∧ ∃ t0 t1 : Bool, X0.heap[B4 + 1]? = some (.cells #[.bool t0, .bool t1] 34 (0, 0)) ∧ (t0 = true ↔ upTo0 l k) ∧ (t1 = true ↔ upTo1 l k)) := by
          obtain ⟨r1, r2, r3, r4, r5, r6, r7, r8⟩ := unhide HR
          have ha := (Below.refl wr.heap.size wr).alloc (Nat.le_refl _) (.cells #[.int .i64 (o6 (k / 6) 0), .int .i64 (o6 (k / 6) 1), .int .i64 (o6 (k / 6) 2), .int .i64 (o6 (k % 6) 0), .int .i64 (o6 (k % 6) 1), .int .i64 (o6 (k % 6) 2)] 51)
          rw [← hX0] at ha
          refine ⟨r1.trans (ha.mono (by omega)), r2, by omega, by rw [hX0, hB8]; simp, ?_, ?_, ?_, t0, t1, ?_, r7, r8⟩
          · rw [ha.block _ (by omega)]; exact r4
          · rw [ha.block _ (by omega)]; exact r5
          · rw [hX0, hB8]; exact World.alloc_heap_new _ _
          · rw [ha.block _ (by omega)]; exact r6
        clear HR hix hB8 hX0 t0 t1
        go_loopw [25] (fun i wi => ∃ q : Nat, q ≤ 2 ∧ i = .int .i64 q ∧ Below w.heap.size w wi ∧ w.heap.size + 1 ≤ B4 ∧ B4 + 2 ≤ B8 ∧ B8 < wi.heap.size ∧ wi.heap[w.heap.size]? = some (.cells #[.bool false, .bool false] 34 (0, 0)) ∧ wi.heap[B4]? = some (.cells CS 47 (0, 0)) ∧ wi.heap[B8]? = some (.cells #[.int .i64 (o6 (k / 6) 0), .int .i64 (o6 (k / 6) 1), .int .i64 (o6 (k / 6) 2), .int .i64 (o6 (k % 6) 0), .int .i64 (o6 (k % 6) 1), .int .i64 (o6 (k % 6) 2)] 51 (0, 0)) ∧ ∃ t0 t1 : Bool, wi.heap[B4 + 1]? = some (.cells #[.bool t0, .bool t1] 34 (0, 0)) ∧ (t0 = true ↔ upTo0 l (if 0 < q then k + 1 else k)) ∧ (t1 = true ↔ upTo1 l (if 1 < q then k + 1 else k))) (fun i _ => 2 - (intOf i).toNat)
        case atStart => exact ⟨0, by omega, rfl, unhide HI0⟩
        case round =>
          obtain ⟨q, hq, rfl, r1, r2, r3, r3', r4, r5, r5', t0, t1, r6, r7, r8⟩ := hrel
          by_cases hltq : q < 2
          · have hmk := (unhide HM).2 k hlt
            have u0 := (cell_in r5 (unhide HCS (k * 3 + 0) (by omega))).1
            have u1 := (cell_in r5 (unhide HCS (k * 3 + 1) (by omega))).1
            have u2 := (cell_in r5 (unhide HCS (k * 3 + 2) (by omega))).1
            rw [hmk 0 (by omega)] at u0
            rw [hmk 1 (by omega)] at u1
            rw [hmk 2 (by omega)] at u2
            simp only [Nat.add_zero] at u0
            have HST : Hid (∀ (o : Nat) (u : Bool) (cs : Array Value), #[Value.bool t0, .bool t1].setIfInBounds o (.bool u) = cs → Below w.heap.size w (wr.setCell ⟨B4 + 1, o, none⟩ (.bool u)).drew ∧ w.heap.size + 1 ≤ B4 ∧ B4 + 2 ≤ B8 ∧ B8 < (wr.setCell ⟨B4 + 1, o, none⟩ (.bool u)).drew.heap.size ∧ (wr.setCell ⟨B4 + 1, o, none⟩ (.bool u)).drew.heap[w.heap.size]? = some (.cells #[.bool false, .bool false] 34 (0, 0)) ∧ (wr.setCell ⟨B4 + 1, o, none⟩ (.bool u)).drew.heap[B4]? = some (.cells CS 47 (0, 0)) ∧ (wr.setCell ⟨B4 + 1, o, none⟩ (.bool u)).drew.heap[B8]? = some (.cells #[.int .i64 (o6 (k / 6) 0), .int .i64 (o6 (k / 6) 1), .int .i64 (o6 (k / 6) 2), .int .i64 (o6 (k % 6) 0), .int .i64 (o6 (k % 6) 1), .int .i64 (o6 (k % 6) 2)] 51 (0, 0)) ∧ (wr.setCell ⟨B4 + 1, o, none⟩ (.bool u)).drew.heap[B4 + 1]? = some (.cells cs 34 (0, 0))) := fun o u cs hcs => by
              refine ⟨(r1.setCell (by show _ ≤ B4 + 1; omega) _).drew, r2, r3, ?_, ?_, ?_, ?_, ?_⟩
              · show _ < (wr.setCell _ _).heap.size; simpa using r3'
              · show (wr.setCell _ _).heap[_]? = _; rw [Below.heap_setCell _ _ _ _ (by show _ ≠ B4 + 1; omega)]; exact r4
              · show (wr.setCell _ _).heap[_]? = _; rw [Below.heap_setCell _ _ _ _ (by show _ ≠ B4 + 1; omega)]; exact r5
              · show (wr.setCell _ _).heap[_]? = _; rw [Below.heap_setCell _ _ _ _ (by show _ ≠ B4 + 1; omega)]; exact r5'
              · show (wr.setCell _ _).heap[_]? = _; rw [heap_setCell_same _ _ _ _ _ _ r6, hcs]
            obtain ⟨c0, f0⟩ := cell_in r6 (j := 0) rfl
            obtain ⟨c1, f1⟩ := cell_in r6 (j := 1) rfl
            have p0 := (cell_in r5' (j := 0) rfl).1
            have p1' := (cell_in r5' (j := 1) rfl).1
            have p2' := (cell_in r5' (j := 2) rfl).1
            have p3 := (cell_in r5' (j := 3) rfl).1
            have p4 := (cell_in r5' (j := 4) rfl).1
            have p5 := (cell_in r5' (j := 5) rfl).1
            have HG := hide (And.intro r7 r8)
            have hrk := unhide HR6 k hlt
            have hki : (k : Int) < 36 := by omega
            clear r1 r2 r3 r3' r4 r5 r5' r6 r7 r8 hmk
            rcases (by omega : q = 0 ∨ q = 1) with rfl | rfl
            · have heq := eqO (rl l k) hrk (k / 6) (by omega)
              obtain ⟨eb, E⟩ : ∃ eb : Bool, Hid (decide (rl l k = k / 6) = eb) := ⟨_, rfl⟩
              rw [unhide E] at heq
              cases t0 with
              | true =>
                go_wp2_with fail
                refine wp_region_still_tail 14 (by kernel_rfl) (by kernel_rfl) ?_
                simp only [List.take_succ_cons, List.take_zero, List.drop_succ_cons, List.drop_zero]
                show wpStill Try.prog _ wr.drew (fun a' => wpList Try.prog _ _ _ a' wr.drew) _ _
                repeat (first | still_step)
                refine wpStill_nil ?_
                go_wp2_with fail
                go_roundw
                case rel =>
                  obtain ⟨y1, y2, y3, y4, y5, y6, y7, y8⟩ := unhide HST 0 _ _ rfl
                  obtain ⟨g0, g1⟩ := unhide HG
                  exact ⟨1, by omega, by go_num, y1, y2, y3, y4, y5, y6, y7, _, t1, y8, by rw [if_pos (by omega), upTo0_succ, ← unhide E]; simp only [decide_eq_true_eq]; exact ⟨fun h => ⟨by simpa using g0, h⟩, fun h => h.2⟩, by simpa using g1⟩
                case measure => simp [intOf]
              | false =>
                go_wp2_with fail
                refine wp_region_still_tail 14 (by kernel_rfl) (by kernel_rfl) ?_
                simp only [List.take_succ_cons, List.take_zero, List.drop_succ_cons, List.drop_zero]
                show wpStill Try.prog _ wr.drew (fun a' => wpList Try.prog _ _ _ a' wr.drew) _ _
                iterate 5 still_step
                iterate 7 (with_reducible refine still_skip (by kernel_rfl) ?_; simp only [Act.put, List.setIfInBounds_toArray, List.set_cons_succ, List.set_cons_zero])
                iterate 2 still_step
                refine wpStill_nil ?_
                go_wp2_with fail
                go_roundw
                case rel =>
                  obtain ⟨y1, y2, y3, y4, y5, y6, y7, y8⟩ := unhide HST 0 _ _ rfl
                  obtain ⟨g0, g1⟩ := unhide HG
                  exact ⟨1, by omega, by go_num, y1, y2, y3, y4, y5, y6, y7, _, t1, y8, by rw [if_pos (by omega), upTo0_succ]; exact ⟨(fun h => by cases h), fun h => absurd h.1 (by simpa using g0)⟩, by simpa using g1⟩
                case measure => simp [intOf]
            · have heq := eqO (rl l k) hrk (k % 6) (by omega)
              obtain ⟨eb, E⟩ : ∃ eb : Bool, Hid (decide (rl l k = k % 6) = eb) := ⟨_, rfl⟩
              rw [unhide E] at heq
              cases t1 with
              | true =>
                go_wp2_with fail
                refine wp_region_still_tail 14 (by kernel_rfl) (by kernel_rfl) ?_
                simp only [List.take_succ_cons, List.take_zero, List.drop_succ_cons, List.drop_zero]
                show wpStill Try.prog _ wr.drew (fun a' => wpList Try.prog _ _ _ a' wr.drew) _ _
                repeat (first | still_step)
                refine wpStill_nil ?_
                go_wp2_with fail
                go_roundw
                case rel =>
                  obtain ⟨y1, y2, y3, y4, y5, y6, y7, y8⟩ := unhide HST 1 _ _ rfl
                  obtain ⟨g0, g1⟩ := unhide HG
                  exact ⟨2, by omega, by go_num, y1, y2, y3, y4, y5, y6, y7, t0, _, y8, by simpa using g0, by rw [if_pos (by omega), upTo1_succ, ← unhide E]; simp only [decide_eq_true_eq]; exact ⟨fun h => ⟨by simpa using g1, h⟩, fun h => h.2⟩⟩
                case measure => simp [intOf]
              | false =>
                go_wp2_with fail
                refine wp_region_still_tail 14 (by kernel_rfl) (by kernel_rfl) ?_
                simp only [List.take_succ_cons, List.take_zero, List.drop_succ_cons, List.drop_zero]
                show wpStill Try.prog _ wr.drew (fun a' => wpList Try.prog _ _ _ a' wr.drew) _ _
                iterate 5 still_step
                iterate 7 (with_reducible refine still_skip (by kernel_rfl) ?_; simp only [Act.put, List.setIfInBounds_toArray, List.set_cons_succ, List.set_cons_zero])
                iterate 2 still_step
                refine wpStill_nil ?_
                go_wp2_with fail
                go_roundw
                case rel =>
                  obtain ⟨y1, y2, y3, y4, y5, y6, y7, y8⟩ := unhide HST 1 _ _ rfl
                  obtain ⟨g0, g1⟩ := unhide HG
                  exact ⟨2, by omega, by go_num, y1, y2, y3, y4, y5, y6, y7, t0, _, y8, by simpa using g0, by rw [if_pos (by omega), upTo1_succ]; exact ⟨(fun h => by cases h), fun h => absurd h.1 (by simpa using g1)⟩⟩
                case measure => simp [intOf]
          · obtain rfl : q = 2 := by omega
            go_wp2_with fail
            go_roundw
            case rel => exact ⟨k + 1, by omega, by go_num, r1, r2, by omega, r4, r5, t0, t1, r6, by simpa using r7, by simpa using r8⟩
            case measure => simp [intOf]; omega
      · obtain rfl : k = 36 := by omega
        have R6 := hide r6
        have R7 := hide (And.intro r7 r8)
        have R3 := hide r4
        have hr := setRow_heap wr w.heap.size _ #[.bool t0, .bool t1] _ _ r4
        have HR2 := hide hr
        have HB := hide (below_setRow r1 (Nat.le_refl _) #[.bool t0, .bool t1])
        clear r4 r5 r6 r7 r8 hr
        go_wp2_with (first | (refine wpList_load_row rfl 34 (.tmp 6) rfl (B4 + 1) rfl 34 #[.bool t0, .bool t1] (0, 0) _ (unhide R6) Try.underlying34 rfl (unhide hsz _ _) ?_) | (refine wpList_store_row rfl 34 (.tmp 2) (.tmp 44) rfl w.heap.size #[.bool t0, .bool t1] rfl rfl 34 _ (unhide R3) (unhide hsz _ _) rfl (unhide hall t0 t1) ?_))
        (try simp only [Exit.inBlock, Exit.then])
        refine bodyPost_ret (results_row_tmp (p := 2) (ty := 34) (u := 3) rfl _ _ _ w.heap.size _ (by rfl) (run_loadVar_row _ _ 34 34 _ (0, 0) _ (unhide HR2) Try.underlying34 rfl (unhide hsz _ _))) (by rfl) ?_
        exact ⟨⟨t0, t1, rfl, fun _ => unhide R7, fun e => absurd rfl e⟩, unhide HB⟩
  · have hne : (r == 0) = false := by simp [h0]
    have HNE := hide h0
    clear h0
    go_enter Try.func14, Try.ntmps14
    go_wp2_with fail
    refine (unhide CC).mono ?_
    rintro e w1 ⟨⟨cs, rfl, hl, hm⟩, hb1⟩
    have H1 := hide (unhide HSZ cs hl)
    have H2 := hide (unhide HS0 cs hl)
    have H3 := hide (unhide HAL cs)
    generalize arr cs = CS at *
    have HB1 : Hid (Below w.heap.size w ((w1.alloc (.cells P0 47)).setRow w1.heap.size CS) ∧ ((w1.alloc (.cells P0 47)).setRow w1.heap.size CS).heap[w.heap.size]? = some (.cells #[.bool false, .bool false] 34 (0, 0))) := by
      have hz1 := hb1.size
      simp only [World.size_alloc] at hz1
      have hb : Below w1.heap.size w1 ((w1.alloc (.cells P0 47)).setRow w1.heap.size CS) := below_setRow ((Below.refl _ w1).alloc (Nat.le_refl _) _) (Nat.le_refl _) _
      exact ⟨(hb0.trans (hb1.mono (by simp))).trans (hb.mono (by omega)), (hb.block _ (by omega)).trans ((hb1.block _ (by simp)).trans (World.alloc_heap_new _ _))⟩
    clear hm hb1
    have hr := setRow_heap _ w.heap.size _ #[.bool false, .bool false] _ _ (unhide HB1).2
    have HR2 := hide hr
    have HB := hide (below_setRow (unhide HB1).1 (Nat.le_refl _) #[.bool false, .bool false])
    clear hr
    go_wp2_with (first | (refine wpList_store_row rfl 47 (.tmp 4) (.tmp 13) rfl w1.heap.size CS rfl rfl 47 P0 (World.alloc_heap_new _ _) (unhide H1) (unhide H2) (unhide H3) ?_) | (refine wpList_store_row rfl 34 (.tmp 2) (.tmp 17) rfl w.heap.size #[.bool false, .bool false] rfl rfl 34 _ (unhide HB1).2 (unhide hsz _ _) rfl (unhide hall false false) ?_))
    (try simp only [Exit.inBlock, Exit.then])
    refine bodyPost_ret (results_row_tmp (p := 2) (ty := 34) (u := 3) rfl _ _ _ w.heap.size _ rfl (run_loadVar_row _ _ 34 34 _ (0, 0) _ (unhide HR2) Try.underlying34 rfl (unhide hsz _ _))) rfl ?_
    exact ⟨⟨false, false, rfl, fun e => absurd e (unhide HNE), fun _ => ⟨rfl, rfl⟩⟩, unhide HB⟩
end Go.Proofs.Ytbbbjpkomnhofaa
