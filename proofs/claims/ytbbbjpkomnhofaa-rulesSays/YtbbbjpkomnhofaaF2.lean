import Derived.Test.YtbbbjpkomnhofaaF
namespace Go.Proofs.Ytbbbjpkomnhofaa
open Go.RowKit Go.Shelf
def cUp0 (l : List Int) (k : Nat) : Prop := ∀ i, i < k → l[i]?.getD 0 = o6 (i / 6) 0
def cUp1 (l : List Int) (k : Nat) : Prop := ∀ i, i < k → l[i]?.getD 0 = o6 (i % 6) 0
theorem cUp0_succ (l : List Int) (k : Nat) : cUp0 l (k + 1) ↔ cUp0 l k ∧ l[k]?.getD 0 = o6 (k / 6) 0 :=
  ⟨fun h => ⟨fun i hi => h i (by omega), h k (by omega)⟩, fun h i hi => by
    by_cases e : i = k
    · rw [e]; exact h.2
    · exact h.1 i (by omega)⟩
theorem cUp1_succ (l : List Int) (k : Nat) : cUp1 l (k + 1) ↔ cUp1 l k ∧ l[k]?.getD 0 = o6 (k % 6) 0 :=
  ⟨fun h => ⟨fun i hi => h i (by omega), h k (by omega)⟩, fun h i hi => by
    by_cases e : i = k
    · rw [e]; exact h.2
    · exact h.1 i (by omega)⟩
def ChPost2 (l : List Int) (r : Int) (w : World) (e : Ending) (w' : World) : Prop :=
  (∃ t0 t1 : Bool, e = .returned (.tuple #[.agg #[.bool t0, .bool t1], .int .i64 r]) ∧ (r = 0 → (t0 = true ↔ cUp0 l 36) ∧ (t1 = true ↔ cUp1 l 36)) ∧ (r ≠ 0 → t0 = false ∧ t1 = false)) ∧ Below w.heap.size w w'
def OntoPost2 (l : List Int) (r : Int) (w : World) (e : Ending) (w' : World) : Prop := (∃ t : Bool, e = .returned (.tuple #[.bool t, .int .i64 r]) ∧ (r = 0 → (t = true ↔ ∀ x : Nat, x < 3 → (x : Int) ∈ l)) ∧ (r ≠ 0 → t = false)) ∧ w' = w
set_option maxRecDepth 100000 in
set_option maxHeartbeats 1000000 in
theorem onto2_any (a : Option Addr) (n c : Nat) (l : List Int) (w : World) (h : Ints w a n c l) :
    Calls Try.prog 16 #[.slice a n c] w fun e w' => OntoPost2 l (ruE l 3) w e w' := by
  have C1 := hide (may_any a n c l 3 w h)
  have C2 := hide (fun x => contains_any a n c l x w h)
  clear h
  generalize ruE l 3 = r at *
  by_cases h0 : r = 0
  · subst h0
    go_enter Try.func16, Try.ntmps16
    go_wp2_with fail
    refine (unhide C1).mono ?_
    rintro e w1 ⟨rfl, hw1⟩
    subst w1
    go_wp2_with fail
    go_loop [11] (fun i => ∃ k : Nat, k ≤ 3 ∧ i = .int .i64 k ∧ ∀ x : Nat, x < k → (x : Int) ∈ l) (fun i => 3 - (intOf i).toNat)
    case atStart => exact ⟨0, by omega, rfl, fun x hx => by omega⟩
    case round =>
      obtain ⟨k, hk, rfl, hok⟩ := hrel
      have HOK := hide hok
      clear hok
      by_cases hlt : k < 3
      · by_cases hin : (k : Int) ∈ l
        · have C3 := unhide C2 k
          rw [idx_mem, decide_eq_true hin] at C3
          have HIN := hide hin
          have C3 := hide C3
          clear hin
          go_wp2_with fail
          refine (unhide C3).mono ?_
          rintro e w1 ⟨rfl, hw1⟩
          subst w1
          go_wp2_with fail
          go_round
          case rel => exact ⟨k + 1, by omega, by go_num, fun x hx => by
            by_cases e : x = k
            · rw [e]; exact unhide HIN
            · exact unhide HOK x (by omega)⟩
          case measure => simp [intOf]; omega
        · have C3 := unhide C2 k
          rw [idx_mem, decide_eq_false hin] at C3
          have C3 := hide C3
          have HNI := hide hin
          clear hin
          go_wp2_with fail
          refine (unhide C3).mono ?_
          rintro e w1 ⟨rfl, hw1⟩
          subst w1
          go_wp2_with fail
          go_ret2
          exact ⟨⟨false, rfl, fun _ => ⟨(fun h => by cases h), fun h => absurd (h k hlt) (unhide HNI)⟩, fun e => absurd rfl e⟩, rfl⟩
      · obtain rfl : k = 3 := by omega
        go_wp2_with fail
        go_ret2
        exact ⟨⟨true, rfl, fun _ => ⟨fun _ => unhide HOK, fun _ => rfl⟩, fun e => absurd rfl e⟩, rfl⟩
  · have hne : (r == 0) = false := by simp [h0]
    have HNE := hide h0
    go_enter Try.func16, Try.ntmps16
    go_wp2_with fail
    refine (unhide C1).mono ?_
    rintro e w1 ⟨rfl, hw1⟩
    subst w1
    go_wp2_with fail
    go_ret2
    exact ⟨⟨false, rfl, fun e => absurd e (unhide HNE), fun _ => rfl⟩, rfl⟩
set_option maxRecDepth 100000 in
set_option maxHeartbeats 4000000 in
theorem choosers2_any (a : Option Addr) (n c : Nat) (l : List Int) (w : World) (h : Ints w a n c l) :
    Calls Try.prog 18 #[.slice a n c] w fun e w' => ChPost2 l (ruE l 3) w e w' := by
  have mx : Try.prog.follows .mixedOrders = true := by kernel_rfl
  have C1 := hide (fun X (hX : Below w.heap.size w X) => may_any a n c l 3 X (h.later hX))
  have C2 := hide profiles_any
  have HR0 : Hid (ruE l 3 = 0 → n = 36) := fun h0 => by
    unfold ruE at h0
    split at h0
    · have := h.1; omega
    · cases h0
  have HH := hide h
  clear h
  have hsz : Hid (∀ t0 t1 : Bool, (Try.prog.info? 34).map (·.size) = some (#[Value.bool t0, Value.bool t1] : Array Value).size) := fun t0 t1 => by
    show _ = some 2
    kernel_rfl
  have hall : Hid (∀ t0 t1 : Bool, (#[Value.bool t0, Value.bool t1] : Array Value).all (·.oneCell') = true) := fun t0 t1 => by
    show _ = true
    simp [Value.oneCell']
  have hb0 : Below w.heap.size w (w.alloc (.cells #[.bool false, .bool false] 34)) := (Below.refl _ w).alloc (Nat.le_refl _) _
  generalize ruE l 3 = r at *
  by_cases h0 : r = 0
  · subst h0
    obtain rfl := unhide HR0 rfl
    obtain ⟨b, off, rfl, hb, hcell⟩ := (unhide HH).cellAt (by omega)
    have HCE := hide hcell
    clear hcell HR0
    have CC := hide (unhide C1 _ hb0)
    have HIX : Hid (∀ k : Nat, k < 36 → ∀ X : World, (Instr.index 52 (.agg (arr (pfI 36))) (.int .i64 k)).run Try.prog X = .ok (.agg #[.int .i64 (o6 (k / 6) 0), .int .i64 (o6 (k / 6) 1), .int .i64 (o6 (k / 6) 2), .int .i64 (o6 (k % 6) 0), .int .i64 (o6 (k % 6) 1), .int .i64 (o6 (k % 6) 2)]) X) := index36
    generalize arr (pfI 36) = PF at *
    go_enter Try.func18, Try.ntmps18
    go_wp2_with fail
    refine (unhide CC).mono ?_
    rintro e w1 ⟨rfl, hw1⟩
    subst w1
    go_wp2_with fail
    refine (unhide C2 _).mono ?_
    rintro e w2 ⟨rfl, hb2⟩
    go_wp2_with fail
    have HW0 : Hid (Below w.heap.size w w2 ∧ w.heap.size + 2 ≤ w2.heap.size ∧ w2.heap[w.heap.size]? = some (.cells #[.bool false, .bool false] 34 (0, 0)) ∧ w2.heap[w.heap.size + 1]? = some (.cells #[.bool true, .bool true] 34 (0, 0))) := by
      have s1 : (w.alloc (.cells #[.bool false, .bool false] 34)).heap.size = w.heap.size + 1 := by simp
      have s2 : ((w.alloc (.cells #[.bool false, .bool false] 34)).alloc (.cells #[.bool true, .bool true] 34)).heap.size = w.heap.size + 2 := by simp
      have n1 := World.alloc_heap_new (w.alloc (.cells #[.bool false, .bool false] 34)) (.cells #[.bool true, .bool true] 34)
      rw [s1] at n1
      have hz := hb2.size
      refine ⟨(hb0.alloc (by rw [s1]; omega) _).trans (hb2.mono (by rw [s2]; omega)), by omega, ?_, ?_⟩
      · rw [hb2.block _ (by rw [s2]; omega), Below.heap_alloc _ _ _ (by rw [s1]; omega)]; exact World.alloc_heap_new _ _
      · rw [hb2.block _ (by rw [s2]; omega)]; exact n1
    clear hb2 hb0
    go_loopw [17] (fun i wr => ∃ k : Nat, k ≤ 36 ∧ i = .int .i64 k ∧ Below w.heap.size w wr ∧ w.heap.size + 2 ≤ wr.heap.size ∧ wr.heap[w.heap.size]? = some (.cells #[.bool false, .bool false] 34 (0, 0)) ∧ ∃ t0 t1 : Bool, wr.heap[w.heap.size + 1]? = some (.cells #[.bool t0, .bool t1] 34 (0, 0)) ∧ (t0 = true ↔ cUp0 l k) ∧ (t1 = true ↔ cUp1 l k)) (fun i _ => 36 - (intOf i).toNat)
    case atStart =>
      obtain ⟨q1, q2, q3, q4⟩ := unhide HW0
      exact ⟨0, by omega, rfl, q1, q2, q3, true, true, q4, ⟨fun _ i hi => by omega, fun _ => rfl⟩, ⟨fun _ i hi => by omega, fun _ => rfl⟩⟩
    case round =>
      obtain ⟨k, hk, rfl, r1, r2, r3, t0, t1, r4, r5, r6⟩ := hrel
      by_cases hlt : k < 36
      · have hix := unhide HIX k hlt
        have HR := hide (And.intro r1 (And.intro r2 (And.intro r3 (And.intro r4 (And.intro r5 r6)))))
        clear r1 r3 r4 r5 r6
        go_wp2_with fail
        obtain ⟨B7, hB7⟩ : ∃ y, y = wr.heap.size := ⟨_, rfl⟩
        obtain ⟨X0, hX0⟩ : ∃ y, y = wr.alloc (.cells #[.int .i64 (o6 (k / 6) 0), .int .i64 (o6 (k / 6) 1), .int .i64 (o6 (k / 6) 2), .int .i64 (o6 (k % 6) 0), .int .i64 (o6 (k % 6) 1), .int .i64 (o6 (k % 6) 2)] 51) := ⟨_, rfl⟩
        rw [← hB7, ← hX0, show decide ((k : Int) < 36) = true by simp; omega]
        have HI0 : Hid (Below w.heap.size w X0 ∧ w.heap.size + 2 ≤ B7 ∧ B7 < X0.heap.size ∧ X0.heap[w.heap.size]? = some (.cells #[.bool false, .bool false] 34 (0, 0)) ∧ X0.heap[B7]? = some (.cells #[.int .i64 (o6 (k / 6) 0), .int .i64 (o6 (k / 6) 1), .int .i64 (o6 (k / 6) 2), .int .i64 (o6 (k % 6) 0), .int .i64 (o6 (k % 6) 1), .int .i64 (o6 (k % 6) 2)] 51 (0, 0)) ∧ ∃ t0 t1 : Bool, X0.heap[w.heap.size + 1]? = some (.cells #[.bool t0, .bool t1] 34 (0, 0)) ∧ (t0 = true ↔ cUp0 l k) ∧ (t1 = true ↔ cUp1 l k)) := by
          obtain ⟨r1, r2, r3, r4, r5, r6⟩ := unhide HR
          refine ⟨by rw [hX0]; exact r1.trans ((Below.refl _ wr).alloc (Nat.le_refl _) _ |>.mono (by omega)), by omega, by rw [hX0, hB7]; simp, ?_, ?_, t0, t1, ?_, r5, r6⟩
          · rw [hX0, Below.heap_alloc _ _ _ (by omega)]; exact r3
          · rw [hX0, hB7]; exact World.alloc_heap_new _ _
          · rw [hX0, Below.heap_alloc _ _ _ (by omega)]; exact r4
        clear HR hix hB7 hX0 r2 t0 t1
        go_loopw [21] (fun i wi => ∃ q : Nat, q ≤ 2 ∧ i = .int .i64 q ∧ Below w.heap.size w wi ∧ w.heap.size + 2 ≤ B7 ∧ B7 < wi.heap.size ∧ wi.heap[w.heap.size]? = some (.cells #[.bool false, .bool false] 34 (0, 0)) ∧ wi.heap[B7]? = some (.cells #[.int .i64 (o6 (k / 6) 0), .int .i64 (o6 (k / 6) 1), .int .i64 (o6 (k / 6) 2), .int .i64 (o6 (k % 6) 0), .int .i64 (o6 (k % 6) 1), .int .i64 (o6 (k % 6) 2)] 51 (0, 0)) ∧ ∃ t0 t1 : Bool, wi.heap[w.heap.size + 1]? = some (.cells #[.bool t0, .bool t1] 34 (0, 0)) ∧ (t0 = true ↔ cUp0 l (if 0 < q then k + 1 else k)) ∧ (t1 = true ↔ cUp1 l (if 1 < q then k + 1 else k))) (fun i _ => 2 - (intOf i).toNat)
        case atStart => exact ⟨0, by omega, rfl, unhide HI0⟩
        case round =>
          obtain ⟨q, hq, rfl, r1, r2, r3, r4, r5, t0, t1, r6, r7, r8⟩ := hrel
          by_cases hltq : q < 2
          · have q0 := (unhide HCE) k hlt
            have hbw : wr.cell? ⟨b, off + k, none⟩ = some (.int .i64 (l[k]?.getD 0)) := (r1.cell (p := ⟨b, off + k, none⟩) hb).trans q0
            clear q0
            have HST : Hid (∀ (o : Nat) (u : Bool) (cs : Array Value), #[Value.bool t0, .bool t1].setIfInBounds o (.bool u) = cs → Below w.heap.size w (wr.setCell ⟨w.heap.size + 1, o, none⟩ (.bool u)).drew ∧ B7 < (wr.setCell ⟨w.heap.size + 1, o, none⟩ (.bool u)).drew.heap.size ∧ (wr.setCell ⟨w.heap.size + 1, o, none⟩ (.bool u)).drew.heap[w.heap.size]? = some (.cells #[.bool false, .bool false] 34 (0, 0)) ∧ (wr.setCell ⟨w.heap.size + 1, o, none⟩ (.bool u)).drew.heap[B7]? = some (.cells #[.int .i64 (o6 (k / 6) 0), .int .i64 (o6 (k / 6) 1), .int .i64 (o6 (k / 6) 2), .int .i64 (o6 (k % 6) 0), .int .i64 (o6 (k % 6) 1), .int .i64 (o6 (k % 6) 2)] 51 (0, 0)) ∧ (wr.setCell ⟨w.heap.size + 1, o, none⟩ (.bool u)).drew.heap[w.heap.size + 1]? = some (.cells cs 34 (0, 0))) := fun o u cs hcs => by
              refine ⟨(r1.setCell (by show _ ≤ w.heap.size + 1; omega) _).drew, ?_, ?_, ?_, ?_⟩
              · show _ < (wr.setCell _ _).heap.size; simpa using r3
              · show (wr.setCell _ _).heap[_]? = _; rw [Below.heap_setCell _ _ _ _ (by show _ ≠ w.heap.size + 1; omega)]; exact r4
              · show (wr.setCell _ _).heap[_]? = _; rw [Below.heap_setCell _ _ _ _ (by show _ ≠ w.heap.size + 1; omega)]; exact r5
              · show (wr.setCell _ _).heap[_]? = _; rw [heap_setCell_same _ _ _ _ _ _ r6, hcs]
            obtain ⟨c0, f0⟩ := cell_in r6 (j := 0) rfl
            obtain ⟨c1, f1⟩ := cell_in r6 (j := 1) rfl
            obtain ⟨p0, _⟩ := cell_in r5 (j := 0) rfl
            obtain ⟨p3, _⟩ := cell_in r5 (j := 3) rfl
            have HG := hide (And.intro r7 r8)
            have HV0 : Hid (cUp0 l (k + 1) ↔ cUp0 l k ∧ l[k]?.getD 0 = o6 (k / 6) 0) := cUp0_succ l k
            have HV1 : Hid (cUp1 l (k + 1) ↔ cUp1 l k ∧ l[k]?.getD 0 = o6 (k % 6) 0) := cUp1_succ l k
            clear r1 r4 r5 r6 r7 r8
            generalize l[k]?.getD 0 = v at *
            rcases (by omega : q = 0 ∨ q = 1) with rfl | rfl
            · cases t0 with
              | true =>
                go_wp2_with fail
                refine wp_region_still_tail 16 (by kernel_rfl) (by kernel_rfl) ?_
                simp only [List.take_succ_cons, List.take_zero, List.drop_succ_cons, List.drop_zero]
                show wpStill Try.prog _ wr.drew (fun a' => wpList Try.prog _ _ _ a' wr.drew) _ _
                repeat (first | still_step)
                refine wpStill_nil ?_
                go_wp2_with fail
                go_roundw
                case rel =>
                  obtain ⟨z1, z2, z3, z4, z5⟩ := unhide HST 0 _ _ rfl
                  exact ⟨1, by omega, by go_num, z1, r2, z2, z3, z4, _, t1, z5, by rw [if_pos (by omega), unhide HV0, beq_iff_eq]; exact ⟨fun h => ⟨by simpa using (unhide HG).1, h⟩, fun h => h.2⟩, by simpa using (unhide HG).2⟩
                case measure => simp [intOf]
              | false =>
                go_wp2_with fail
                refine wp_region_still_tail 16 (by kernel_rfl) (by kernel_rfl) ?_
                simp only [List.take_succ_cons, List.take_zero, List.drop_succ_cons, List.drop_zero]
                show wpStill Try.prog _ wr.drew (fun a' => wpList Try.prog _ _ _ a' wr.drew) _ _
                iterate 5 still_step
                iterate 9 (with_reducible refine still_skip (by kernel_rfl) ?_; simp only [Act.put, List.setIfInBounds_toArray, List.set_cons_succ, List.set_cons_zero])
                iterate 2 still_step
                refine wpStill_nil ?_
                go_wp2_with fail
                go_roundw
                case rel =>
                  obtain ⟨z1, z2, z3, z4, z5⟩ := unhide HST 0 _ _ rfl
                  exact ⟨1, by omega, by go_num, z1, r2, z2, z3, z4, _, t1, z5, by rw [if_pos (by omega), unhide HV0]; exact ⟨(fun h => by cases h), fun h => absurd h.1 (by simpa using (unhide HG).1)⟩, by simpa using (unhide HG).2⟩
                case measure => simp [intOf]
            · cases t1 with
              | true =>
                go_wp2_with fail
                refine wp_region_still_tail 16 (by kernel_rfl) (by kernel_rfl) ?_
                simp only [List.take_succ_cons, List.take_zero, List.drop_succ_cons, List.drop_zero]
                show wpStill Try.prog _ wr.drew (fun a' => wpList Try.prog _ _ _ a' wr.drew) _ _
                repeat (first | still_step)
                refine wpStill_nil ?_
                go_wp2_with fail
                go_roundw
                case rel =>
                  obtain ⟨z1, z2, z3, z4, z5⟩ := unhide HST 1 _ _ rfl
                  exact ⟨2, by omega, by go_num, z1, r2, z2, z3, z4, t0, _, z5, by simpa using (unhide HG).1, by rw [if_pos (by omega), unhide HV1, beq_iff_eq]; exact ⟨fun h => ⟨by simpa using (unhide HG).2, h⟩, fun h => h.2⟩⟩
                case measure => simp [intOf]
              | false =>
                go_wp2_with fail
                refine wp_region_still_tail 16 (by kernel_rfl) (by kernel_rfl) ?_
                simp only [List.take_succ_cons, List.take_zero, List.drop_succ_cons, List.drop_zero]
                show wpStill Try.prog _ wr.drew (fun a' => wpList Try.prog _ _ _ a' wr.drew) _ _
                iterate 5 still_step
                iterate 9 (with_reducible refine still_skip (by kernel_rfl) ?_; simp only [Act.put, List.setIfInBounds_toArray, List.set_cons_succ, List.set_cons_zero])
                iterate 2 still_step
                refine wpStill_nil ?_
                go_wp2_with fail
                go_roundw
                case rel =>
                  obtain ⟨z1, z2, z3, z4, z5⟩ := unhide HST 1 _ _ rfl
                  exact ⟨2, by omega, by go_num, z1, r2, z2, z3, z4, t0, _, z5, by simpa using (unhide HG).1, by rw [if_pos (by omega), unhide HV1]; exact ⟨(fun h => by cases h), fun h => absurd h.1 (by simpa using (unhide HG).2)⟩⟩
                case measure => simp [intOf]
          · obtain rfl : q = 2 := by omega
            go_wp2_with fail
            go_roundw
            case rel => exact ⟨k + 1, by omega, by go_num, r1, by omega, r4, t0, t1, r6, by simpa using r7, by simpa using r8⟩
            case measure => simp [intOf]; omega
      · obtain rfl : k = 36 := by omega
        have R6 := hide r4
        have R5 := hide (And.intro r5 r6)
        have R3 := hide r3
        have hr := setRow_heap wr w.heap.size _ #[.bool t0, .bool t1] _ _ r3
        have HR2 := hide hr
        have HB := hide (below_setRow r1 (Nat.le_refl _) #[.bool t0, .bool t1])
        clear r4 r5 r6 r3 hr
        go_wp2_with (first | (refine wpList_load_row rfl 34 (.tmp 5) rfl (w.heap.size + 1) rfl 34 #[.bool t0, .bool t1] (0, 0) _ (unhide R6) Try.underlying34 rfl (unhide hsz _ _) ?_) | (refine wpList_store_row rfl 34 (.tmp 2) (.tmp 42) rfl w.heap.size #[.bool t0, .bool t1] rfl rfl 34 _ (unhide R3) (unhide hsz _ _) rfl (unhide hall t0 t1) ?_))
        (try simp only [Exit.inBlock, Exit.then])
        refine bodyPost_ret (results_row_tmp (p := 2) (ty := 34) (u := 3) rfl _ _ _ w.heap.size _ (by rfl) (run_loadVar_row _ _ 34 34 _ (0, 0) _ (unhide HR2) Try.underlying34 rfl (unhide hsz _ _))) (by rfl) ?_
        exact ⟨⟨t0, t1, rfl, fun _ => unhide R5, fun e => absurd rfl e⟩, unhide HB⟩
  · have hne : (r == 0) = false := by simp [h0]
    have HNE := hide h0
    clear h0
    have CC := hide (unhide C1 _ hb0)
    go_enter Try.func18, Try.ntmps18
    go_wp2_with fail
    refine (unhide CC).mono ?_
    rintro e w1 ⟨rfl, hw1⟩
    subst w1
    go_wp2_with fail
    (try simp only [Exit.inBlock, Exit.then])
    refine bodyPost_ret (results_row_tmp (p := 2) (ty := 34) (u := 3) rfl _ _ _ w.heap.size _ rfl (run_loadVar_row _ _ 34 34 _ (0, 0) _ (World.alloc_heap_new _ _) Try.underlying34 rfl (unhide hsz _ _))) rfl ?_
    exact ⟨⟨false, false, rfl, fun e => absurd e (unhide HNE), fun _ => ⟨rfl, rfl⟩⟩, hb0⟩
end Go.Proofs.Ytbbbjpkomnhofaa
