import Derived.Test.YtbbbjpkomnhofaaAG
import Derived.Test.YtbbbjpkomnhofaaGE
namespace Go.Proofs.Ytbbbjpkomnhofaa
open Go.RowKit Go.Shelf
attribute [local go_sem] Oper.semAt_some
/-- If both rank these two alike at i and at k, the rule does. -/
def apB (l : List Int) (p : Pr) (i k : Nat) : Prop := av (i / 6) (p1 p) (p2 p) = av (k / 6) (p1 p) (p2 p) → av (i % 6) (p1 p) (p2 p) = av (k % 6) (p1 p) (p2 p) → av (rl l i) (p1 p) (p2 p) = av (rl l k) (p1 p) (p2 p)
def BadP (l : List Int) : Prop := ∃ p : Pr, ¬ ∀ i, i < 36 → ∀ k, k < i → apB l p i k
theorem pf_get (k : Nat) (hk : k < 36) : ∀ j, j < 6 → (arr (pfI 36))[k * 6 + j]? = some (.int .i64 (if j < 3 then o6 (k / 6) j else o6 (k % 6) (j - 3))) := by
  have h : ∀ k, k < 36 → ∀ j, j < 6 → (pfI 36)[k * 6 + j]? = some (if j < 3 then o6 (k / 6) j else o6 (k % 6) (j - 3)) := by decide +kernel
  intro j hj
  exact arr_at (h k hk j hj)
theorem slice52 (k : Nat) (hk : k ≤ 36) (B : Nat) (X : World) : (Instr.sliceAt 52 (.pointer (some ⟨B, 0, none⟩)) none (some (.int .i64 (k : Int))) none).run Try.prog X = .ok (.slice (some ⟨B, 0, none⟩) k 36) X := by
  have h1 : (k : Int) ≤ 36 := by omega
  simp [Instr.sliceAt, go_sem, h1]
set_option maxRecDepth 100000 in
set_option maxHeartbeats 4000000 in
theorem apart_any (a : Option Addr) (n c : Nat) (l : List Int) (w : World) (h : Ints w a n c l) :
    Calls Try.prog 13 #[.slice a n c] w fun e w' => AgPost (ruE l 6) (∀ p : Pr, ∀ i, i < 36 → ∀ k, k < i → apB l p i k) w e w' := by
  have mx : Try.prog.follows .mixedOrders = true := by kernel_rfl
  obtain ⟨W0, hW0⟩ : ∃ y, y = (w.alloc (.cells #[.bool false] 4)).alloc (.cells #[.int .i64 0] 24) := ⟨_, rfl⟩
  have HQ0 : Hid (Ld w W0 false 0) := by rw [hW0]; exact ld_new w
  have CC := hide (made_any a n c l W0 (h.later (unhide HQ0).below))
  clear h
  obtain ⟨P0, hP0⟩ : ∃ P0, P0 = arr (List.replicate 108 0) := ⟨_, rfl⟩
  have hz : ∀ X : World, (zeroValue 47).run Try.prog X = .ok (.agg P0) X := fun X => by rw [hP0]; kernel_rfl
  have HP0 := hide hP0
  clear hP0
  have HSZ : Hid (∀ cs : List Int, cs.length = 108 → (Try.prog.info? 47).map (·.size) = some (arr cs).size) := fun cs hc => by
    rw [show (arr cs).size = 108 by simp [arr, hc]]
    kernel_rfl
  have HAL : Hid (∀ cs : List Int, (arr cs).all (·.oneCell') = true) := fun cs => by simp [arr, iv, Value.oneCell']
  have HS0 : Hid (∀ cs : List Int, cs.length = 108 → P0.size = (arr cs).size) := fun cs hc => by
    rw [unhide HP0]
    simp [arr, hc]
  generalize ruE l 6 = r at *
  by_cases h0 : r = 0
  · subst h0
    refine (callsIn_wide (n := 9)).1 ?_
    refine callsIn_of_wp_marks Try.func13 rfl trivial ?_
    simp only [Try.ntmps13, List.size_toArray, List.length_cons, List.length_nil, Nat.reduceAdd, Nat.reduceSub, Array.replicate_succ, Array.replicate_zero, List.push_toArray, List.append_toArray, List.nil_append, List.cons_append]
    refine wpIn_wide.2 ?_
    go_wp2_with fail
    rw [← hW0]
    have HW0 := hide hW0
    clear hW0
    refine (unhide CC).mono ?_
    rintro e w1 ⟨⟨cs, rfl, hl, hm⟩, hb1⟩
    have HM := hide (hm rfl)
    have HL1 := hide ((unhide HQ0).later hb1 (unhide HQ0).size)
    clear hm hb1
    have H1 := hide (unhide HSZ cs hl)
    have H2 := hide (unhide HS0 cs hl)
    have H3 := hide (unhide HAL cs)
    have HCS : Hid (∀ i, i < 108 → (arr cs)[i]? = some (.int .i64 (cs[i]?.getD 0))) := fun i hi => arr_at (getD_some (by omega))
    generalize arr cs = CS at *
    go_wp2_with (refine wpList_store_row rfl 47 (.tmp 4) (.tmp 16) rfl w1.heap.size CS rfl rfl 47 P0 (World.alloc_heap_new _ _) (unhide H1) (unhide H2) (unhide H3) ?_)
    obtain ⟨W2, hW2⟩ : ∃ y, y = (w1.alloc (.cells P0 47)).setRow w1.heap.size CS := ⟨_, rfl⟩
    obtain ⟨B4, hB4⟩ : ∃ y, y = w1.heap.size := ⟨_, rfl⟩
    rw [← hW2, ← hB4]
    have HW2 : Hid (Ld w W2 false 0 ∧ w.heap.size + 2 ≤ B4 ∧ W2.heap.size = B4 + 1 ∧ W2.heap[B4]? = some (.cells CS 47 (0, 0))) := by
      have hr := setRow_heap (w1.alloc (.cells P0 47)) w1.heap.size _ CS _ _ (World.alloc_heap_new _ _)
      rw [hB4]
      rw [hW2]
      exact ⟨(unhide HL1).later (below_setRow ((Below.refl _ w1).alloc (Nat.le_refl _) _) (Nat.le_refl _) _) (unhide HL1).size, (unhide HL1).size, by simp [World.setRow], hr⟩
    clear hW2 hB4
    have hz52 : ∀ X : World, (zeroValue 52).run Try.prog X = .ok (.agg (arr (pfI 0))) X := fun X => by kernel_rfl
    refine (profiles_any _).mono ?_
    rintro e w3 ⟨rfl, hb3⟩
    have HIX : Hid (∀ k : Nat, k < 36 → ∀ X : World, (Instr.index 52 (.agg (arr (pfI 36))) (.int .i64 k)).run Try.prog X = .ok (.agg #[.int .i64 (o6 (k / 6) 0), .int .i64 (o6 (k / 6) 1), .int .i64 (o6 (k / 6) 2), .int .i64 (o6 (k % 6) 0), .int .i64 (o6 (k % 6) 1), .int .i64 (o6 (k % 6) 2)]) X) := index36
    have HPG := hide pf_get
    have HA1 : Hid ((Try.prog.info? 52).map (·.size) = some (arr (pfI 36)).size) := by
      show _ = _
      rw [show (arr (pfI 36)).size = 216 by simp [arr, pfI_len]]
      kernel_rfl
    have HA2 : Hid ((arr (pfI 0)).size = (arr (pfI 36)).size) := by show _ = _; simp [arr, pfI_len]
    have HA3 : Hid ((arr (pfI 36)).all (·.oneCell') = true) := by show _ = _; simp [arr, iv, Value.oneCell']
    generalize arr (pfI 0) = PZ at *
    generalize arr (pfI 36) = PF at *
    have HW3 : Hid (Ld w w3 false 0 ∧ w.heap.size + 2 ≤ B4 ∧ B4 + 1 ≤ w3.heap.size ∧ w3.heap[B4]? = some (.cells CS 47 (0, 0))) := by
      obtain ⟨q1, q2, q3, q4⟩ := unhide HW2
      have hz := hb3.size
      refine ⟨q1.later hb3 (by omega), q2, by omega, ?_⟩
      rw [hb3.block _ (by omega)]; exact q4
    clear hb3
    go_wp2_with (refine wpList_store_row rfl 52 (.tmp 6) (.tmp 21) rfl w3.heap.size PF rfl rfl 52 PZ (World.alloc_heap_new _ _) (unhide HA1) (unhide HA2) (unhide HA3) ?_)
    refine (pairs_any _).mono ?_
    rintro e w4 ⟨rfl, hw4⟩
    obtain ⟨B6, hB6⟩ : ∃ y, y = w3.heap.size := ⟨_, rfl⟩
    have HW4 : Hid (Ld w w4 false 0 ∧ w.heap.size + 2 ≤ B4 ∧ B4 < B6 ∧ w4.heap.size = B6 + 1 ∧ w4.heap[B4]? = some (.cells CS 47 (0, 0)) ∧ w4.heap[B6]? = some (.cells PF 52 (0, 0))) := by
      obtain ⟨q1, q2, q3, q4⟩ := unhide HW3
      have hr := setRow_heap (w3.alloc (.cells PZ 52)) w3.heap.size _ PF _ _ (World.alloc_heap_new _ _)
      have hb : Below w3.heap.size w3 ((w3.alloc (.cells PZ 52)).setRow w3.heap.size PF) := below_setRow ((Below.refl _ w3).alloc (Nat.le_refl _) _) (Nat.le_refl _) _
      rw [hw4, hB6]
      exact ⟨q1.later hb q1.size, q2, by omega, by simp, (hb.block _ (by omega)).trans q4, hr⟩
    rw [← hB6]
    clear hw4 hB6 HW3
    go_wp2_with fail
    refine (wpIn_wide (n := 9)).1 ?_
    refine wpIn_rangeFunc_ownG rfl (by omega) (gf := 38) (lb := #[]) rfl trivial (enters_of Try.func38 (by kernel_rfl) rfl) (pairs_stops 8 (by omega) w4) walksK_t walksK_b (Below.refl _ _) (fun _ => rfl)
      (fun pre W => (∀ p ∈ pre, ∀ i, i < 36 → ∀ k, k < i → apB l p i k) ∧ Below w4.heap.size w4 W)
      (fun c' _ W => c' = .ret ∧ BadP l ∧ Ld w W false 0)
      (OwnFrom.and (ownFrom_pure _ _) (ownFrom_below (Nat.le_refl _) (Nat.le_refl _)))
      (fun c' s A B row hs hg hr => ⟨hs.1, hs.2.1, hs.2.2.later ((Below.refl (w.heap.size + 2) A).grown hg hs.2.2.size (fun k e => by have := (hr k e).1; have := (unhide HW4).2.1; have := (unhide HW4).2.2.1; have := (unhide HW4).2.2.2.1; omega)) (Nat.le_refl _)⟩)
      ⟨(fun x hx => by cases hx), Below.refl _ _⟩
      (fun x => { tmps := #[.slice a n c, undef, .pointer (some ⟨w.heap.size, 0, none⟩), .pointer (some ⟨w.heap.size + 1, 0, none⟩), .pointer (some ⟨B4, 0, none⟩), .int .i64 0, .pointer (some ⟨B6, 0, none⟩), .int .i64 (p1 x), .int .i64 (p2 x), undef, undef, undef, undef, .tuple #[.agg CS, .int .i64 0], .slice a n c, .tuple #[.agg CS, .int .i64 0], .agg CS, .int .i64 0, .int .i64 0, .bool false, undef, .agg PF, .func (.func 38) #[] #[], .int .i64 (p1 x), .int .i64 (p2 x), undef, undef, undef, undef, undef, undef, undef, undef, undef, undef, undef, undef, undef, undef, undef, undef, undef, undef, undef, undef, undef, undef, undef, undef, undef, undef, undef, undef, undef, undef, undef, undef, undef, undef, undef, undef, undef, undef, undef], defers := [] }) ?assign ?body ?done ?stop
    case assign =>
      intro lp x W K hK
      rw [show prEnc x = #[.int .i64 (p1 x), .int .i64 (p2 x)] from rfl]
      gi_wp2
      exact hK
    case body =>
      rintro lp pre x W ⟨hp, hB⟩ hlen
      obtain ⟨z1, z2, z3, z4, z5, z6⟩ := unhide HW4
      have HZ := hide (And.intro z1 (And.intro z2 (And.intro z3 (And.intro z4 (And.intro z5 z6)))))
      have y6 := (hB.block _ (by omega)).trans z6
      have Y6 := hide y6
      clear z1 z2 z3 z4 z5 z6 y6
      gi_wp2_with (refine round_load_row rfl 52 (.tmp 6) rfl B6 rfl 52 PF (0, 0) _ (unhide Y6) Try.underlying52 rfl (unhide HA1) ?_)
      gi_loopw [26] (fun i wr => ∃ k : Nat, k ≤ 36 ∧ i = .int .i64 (k : Int) ∧ Below W.heap.size W wr ∧ ∀ i', i' < k → ∀ k', k' < i' → apB l x i' k') (fun i _ => 36 - (intOf i).toNat)
      case atStart => exact ⟨0, by omega, rfl, Below.refl _ _, fun i hi => by omega⟩
      case round =>
        obtain ⟨k, hk, rfl, r1, r2⟩ := hrel
        by_cases hlt : k < 36
        · have hix := unhide HIX k hlt
          have hsl := slice52 k hk B6
          have HR := hide (And.intro r1 r2)
          clear r1 r2
          gi_wp2
          obtain ⟨X0, hX0⟩ : ∃ y, y = wr.alloc (.cells #[.int .i64 (o6 (k / 6) 0), .int .i64 (o6 (k / 6) 1), .int .i64 (o6 (k / 6) 2), .int .i64 (o6 (k % 6) 0), .int .i64 (o6 (k % 6) 1), .int .i64 (o6 (k % 6) 2)] 51) := ⟨_, rfl⟩
          obtain ⟨B10, hB10⟩ : ∃ y, y = wr.heap.size := ⟨_, rfl⟩
          rw [← hX0, ← hB10]
          have HX0 : Hid (Below W.heap.size W X0 ∧ B10 < X0.heap.size ∧ W.heap.size ≤ B10 ∧ X0.heap[B10]? = some (.cells #[.int .i64 (o6 (k / 6) 0), .int .i64 (o6 (k / 6) 1), .int .i64 (o6 (k / 6) 2), .int .i64 (o6 (k % 6) 0), .int .i64 (o6 (k % 6) 1), .int .i64 (o6 (k % 6) 2)] 51 (0, 0)) ∧ ∀ i', i' < k → ∀ k', k' < i' → apB l x i' k') := by
            rw [hX0, hB10]
            exact ⟨(unhide HR).1.alloc (unhide HR).1.size _, by simp, (unhide HR).1.size, World.alloc_heap_new _ _, (unhide HR).2⟩
          clear hX0 hB10 HR hix hsl
          rw [show decide ((k : Int) < 36) = true by simp; omega]
          gi_loopw [33] (fun i wi => ∃ q : Nat, q ≤ k ∧ i = .int .i64 (q : Int) ∧ Below X0.heap.size X0 wi ∧ ∀ k', k' < q → apB l x k k') (fun i _ => k - (intOf i).toNat)
          case atStart => exact ⟨0, by omega, rfl, Below.refl _ _, fun i hi => by omega⟩
          case round =>
            obtain ⟨q, hq, rfl, r1, r2⟩ := hrel
            by_cases hltq : q < k
            · obtain ⟨x1, x2, x3, x4, x5⟩ := unhide HX0
              obtain ⟨z1, z2, z3, z4, z5, z6⟩ := unhide HZ
              have hw6 := (r1.block _ (by have := x1.size; have := hB.size; omega)).trans ((x1.block _ (by have := hB.size; omega)).trans (unhide Y6))
              have m0 := (cell_in hw6 (unhide HPG q (by omega) 0 (by omega))).1
              have m1 := (cell_in hw6 (unhide HPG q (by omega) 1 (by omega))).1
              have m2 := (cell_in hw6 (unhide HPG q (by omega) 2 (by omega))).1
              have m3 := (cell_in hw6 (unhide HPG q (by omega) 3 (by omega))).1
              have m4 := (cell_in hw6 (unhide HPG q (by omega) 4 (by omega))).1
              have m5 := (cell_in hw6 (unhide HPG q (by omega) 5 (by omega))).1
              simp at m0 m1 m2 m3 m4 m5
              have HR := hide (And.intro r1 r2)
              have hqk : (q : Int) < k := by omega
              clear r1 r2 x1 x4 x5 z1 z4 z5 z6 hw6
              gi_wp2
              obtain ⟨X1, hX1⟩ : ∃ y, y = wr.alloc (.cells #[.int .i64 (o6 (q / 6) 0), .int .i64 (o6 (q / 6) 1), .int .i64 (o6 (q / 6) 2), .int .i64 (o6 (q % 6) 0), .int .i64 (o6 (q % 6) 1), .int .i64 (o6 (q % 6) 2)] 51) := ⟨_, rfl⟩
              obtain ⟨B12, hB12⟩ : ∃ y, y = wr.heap.size := ⟨_, rfl⟩
              rw [← hX1, ← hB12]
              have HX1 : Hid (Below X0.heap.size X0 X1 ∧ X1.heap[B12]? = some (.cells #[.int .i64 (o6 (q / 6) 0), .int .i64 (o6 (q / 6) 1), .int .i64 (o6 (q / 6) 2), .int .i64 (o6 (q % 6) 0), .int .i64 (o6 (q % 6) 1), .int .i64 (o6 (q % 6) 2)] 51 (0, 0))) := by
                rw [hX1, hB12]
                exact ⟨(unhide HR).1.alloc (unhide HR).1.size _, World.alloc_heap_new _ _⟩
              obtain ⟨x1, x2, x3, x4, x5⟩ := unhide HX0
              obtain ⟨z1, z2, z3, z4, z5, z6⟩ := unhide HZ
              obtain ⟨n1, n2⟩ := unhide HX1
              have hz0 := hB.size
              have hz1 := x1.size
              have hzn := n1.size
              have hall : Below w4.heap.size w4 X1 := hB.trans ((x1.trans (n1.mono hz1)).mono hz0)
              have HLX : Hid (Ld w X1 false 0) := z1.later hall (by omega)
              have HWX : Hid (Below W.heap.size W X1) := x1.trans (n1.mono hz1)
              have y10 := (n1.block _ (by omega)).trans x4
              have y4 := (hall.block _ (by omega)).trans z5
              have hmk := (unhide HM).2 k hlt
              have hmq := (unhide HM).2 q (by omega)
              have g0 := cell_regrown (cell_in y10 (j := 0) rfl).1
              have g1 := cell_regrown (cell_in y10 (j := 1) rfl).1
              have g2 := cell_regrown (cell_in y10 (j := 2) rfl).1
              have g3 := cell_regrown (cell_in y10 (j := 3) rfl).1
              have g4 := cell_regrown (cell_in y10 (j := 4) rfl).1
              have g5 := cell_regrown (cell_in y10 (j := 5) rfl).1
              have j0 := cell_regrown (cell_in n2 (j := 0) rfl).1
              have j1 := cell_regrown (cell_in n2 (j := 1) rfl).1
              have j2 := cell_regrown (cell_in n2 (j := 2) rfl).1
              have j3 := cell_regrown (cell_in n2 (j := 3) rfl).1
              have j4 := cell_regrown (cell_in n2 (j := 4) rfl).1
              have j5 := cell_regrown (cell_in n2 (j := 5) rfl).1
              have h0 := cell_regrown (cell_in y4 (unhide HCS (k * 3 + 0) (by omega))).1
              rw [hmk 0 (by omega)] at h0
              have h1 := cell_regrown (cell_in y4 (unhide HCS (k * 3 + 1) (by omega))).1
              rw [hmk 1 (by omega)] at h1
              have h2 := cell_regrown (cell_in y4 (unhide HCS (k * 3 + 2) (by omega))).1
              rw [hmk 2 (by omega)] at h2
              simp only [Nat.add_zero] at h0
              have e0 := cell_regrown (cell_in y4 (unhide HCS (q * 3 + 0) (by omega))).1
              rw [hmq 0 (by omega)] at e0
              have e1 := cell_regrown (cell_in y4 (unhide HCS (q * 3 + 1) (by omega))).1
              rw [hmq 1 (by omega)] at e1
              have e2 := cell_regrown (cell_in y4 (unhide HCS (q * 3 + 2) (by omega))).1
              rw [hmq 2 (by omega)] at e2
              simp only [Nat.add_zero] at e0
              have PA : Hid (∀ d os, Calls Try.prog 28 #[.agg #[.int .i64 (o6 (k / 6) 0), .int .i64 (o6 (k / 6) 1), .int .i64 (o6 (k / 6) 2), .int .i64 (o6 (k % 6) 0), .int .i64 (o6 (k % 6) 1), .int .i64 (o6 (k % 6) 2)], .int .i64 (p1 x), .int .i64 (p2 x)] (Sort.grow (redrawn X1 d) os) fun e w'' => e = .returned (.agg #[.bool (av (k / 6) (p1 x) (p2 x)), .bool (av (k % 6) (p1 x) (p2 x))]) ∧ ∃ p : Regrown, w'' = Sort.grow (redrawn X1 p.d) p.os) := fun d os => Calls.regrown_of (answers_any _ _ _ _ _ _ _ _ _)
              have PB : Hid (∀ d os, Calls Try.prog 28 #[.agg #[.int .i64 (o6 (q / 6) 0), .int .i64 (o6 (q / 6) 1), .int .i64 (o6 (q / 6) 2), .int .i64 (o6 (q % 6) 0), .int .i64 (o6 (q % 6) 1), .int .i64 (o6 (q % 6) 2)], .int .i64 (p1 x), .int .i64 (p2 x)] (Sort.grow (redrawn X1 d) os) fun e w'' => e = .returned (.agg #[.bool (av (q / 6) (p1 x) (p2 x)), .bool (av (q % 6) (p1 x) (p2 x))]) ∧ ∃ p : Regrown, w'' = Sort.grow (redrawn X1 p.d) p.os) := fun d os => Calls.regrown_of (answers_any _ _ _ _ _ _ _ _ _)
              have A1 : Hid (∀ d os, Calls Try.prog 29 #[.agg #[.int .i64 (o6 (rl l k) 0), .int .i64 (o6 (rl l k) 1), .int .i64 (o6 (rl l k) 2)], .int .i64 (p1 x), .int .i64 (p2 x)] (Sort.grow (redrawn X1 d) os) fun e w'' => e = .returned (.bool (av (rl l k) (p1 x) (p2 x))) ∧ ∃ p : Regrown, w'' = Sort.grow (redrawn X1 p.d) p.os) := fun d os => Calls.regrown_of (above_any _ _ _ _ _ _)
              have A2 : Hid (∀ d os, Calls Try.prog 29 #[.agg #[.int .i64 (o6 (rl l q) 0), .int .i64 (o6 (rl l q) 1), .int .i64 (o6 (rl l q) 2)], .int .i64 (p1 x), .int .i64 (p2 x)] (Sort.grow (redrawn X1 d) os) fun e w'' => e = .returned (.bool (av (rl l q) (p1 x) (p2 x))) ∧ ∃ p : Regrown, w'' = Sort.grow (redrawn X1 p.d) p.os) := fun d os => Calls.regrown_of (above_any _ _ _ _ _ _)
              have HAP : Hid (apB l x k q ↔ ((av (k / 6) (p1 x) (p2 x) == av (q / 6) (p1 x) (p2 x) && av (k % 6) (p1 x) (p2 x) == av (q % 6) (p1 x) (p2 x)) = true → av (rl l k) (p1 x) (p2 x) = av (rl l q) (p1 x) (p2 x))) := by
                show _ ↔ _
                unfold apB
                simp only [Bool.and_eq_true, beq_iff_eq, and_imp]
              have heq := fun X => eq34 (av (k / 6) (p1 x) (p2 x)) (av (k % 6) (p1 x) (p2 x)) (av (q / 6) (p1 x) (p2 x)) (av (q % 6) (p1 x) (p2 x)) X
              generalize av (k / 6) (p1 x) (p2 x) = t1 at *
              generalize av (k % 6) (p1 x) (p2 x) = t2 at *
              generalize av (q / 6) (p1 x) (p2 x) = s1 at *
              generalize av (q % 6) (p1 x) (p2 x) = s2 at *
              generalize av (rl l k) (p1 x) (p2 x) = v1 at *
              generalize av (rl l q) (p1 x) (p2 x) = v2 at *
              generalize (t1 == s1 && t2 == s2) = eb at *
              have hki : (k : Int) < 36 := by omega
              have hqi : (q : Int) < 36 := by omega
              clear x1 x4 x5 z1 z4 z5 z6 n1 n2 hall y10 y4 hmk hmq hX1 hB12 hz0 hz1 hzn
              refine round_quiet (by kernel_rfl) (by kernel_rfl) (by kernel_rfl) ?_
              cases eb with
              | false =>
                iterate 10 (quiet_step (first | with_reducible exact unhide PA _ _ | with_reducible exact unhide PB _ _ | with_reducible exact unhide A1 _ _ | with_reducible exact unhide A2 _ _))
                iterate 13 (with_reducible refine quiet_skip (by kernel_rfl) ?_; simp only [Act.put, List.setIfInBounds_toArray, List.set_cons_succ, List.set_cons_zero])
                (quiet_step (first | with_reducible exact unhide PA _ _ | with_reducible exact unhide PB _ _ | with_reducible exact unhide A1 _ _ | with_reducible exact unhide A2 _ _))
                refine wpQuiet_nil ?_
                intro _ hw'
                obtain ⟨⟨dq, osq⟩, hw''⟩ := hw'
                subst hw''
                obtain ⟨Y, hY⟩ : ∃ y, y = Sort.grow (redrawn X1 dq) osq := ⟨_, rfl⟩
                have hbq := below_regrown X1 dq osq
                show Exit.then _ _ _ _ (Sort.grow (redrawn X1 dq) osq)
                rw [← hY] at hbq ⊢
                clear hY g0 g1 g2 g3 g4 g5 j0 j1 j2 j3 j4 j5 h0 h1 h2 e0 e1 e2 heq
                have HYB := hide hbq
                clear hbq
                gi_wp2
                go_roundw
                case rel => exact ⟨q + 1, by omega, by go_num, (unhide HX1).1.trans ((unhide HYB).mono (unhide HX1).1.size), fun k' hk' => by
                  by_cases e : k' = q
                  · subst e
                    exact (unhide HAP).2 (fun h => by cases h)
                  · exact (unhide HR).2 k' (by omega)⟩
                case measure => simp [intOf]; omega
              | true =>
                cases v1 with
                | false =>
                  cases v2 with
                  | false =>
                    iterate 24 (quiet_step (first | with_reducible exact unhide PA _ _ | with_reducible exact unhide PB _ _ | with_reducible exact unhide A1 _ _ | with_reducible exact unhide A2 _ _))
                    refine wpQuiet_nil ?_
                    intro _ hw'
                    obtain ⟨⟨dq, osq⟩, hw''⟩ := hw'
                    subst hw''
                    obtain ⟨Y, hY⟩ : ∃ y, y = Sort.grow (redrawn X1 dq) osq := ⟨_, rfl⟩
                    have hbq := below_regrown X1 dq osq
                    show Exit.then _ _ _ _ (Sort.grow (redrawn X1 dq) osq)
                    rw [← hY] at hbq ⊢
                    clear hY g0 g1 g2 g3 g4 g5 j0 j1 j2 j3 j4 j5 h0 h1 h2 e0 e1 e2 heq
                    have HYB := hide hbq
                    clear hbq
                    gi_wp2
                    go_roundw
                    case rel => exact ⟨q + 1, by omega, by go_num, (unhide HX1).1.trans ((unhide HYB).mono (unhide HX1).1.size), fun k' hk' => by
                      by_cases e : k' = q
                      · subst e
                        exact (unhide HAP).2 (by simp)
                      · exact (unhide HR).2 k' (by omega)⟩
                    case measure => simp [intOf]; omega
                  | true =>
                    iterate 24 (quiet_step (first | with_reducible exact unhide PA _ _ | with_reducible exact unhide PB _ _ | with_reducible exact unhide A1 _ _ | with_reducible exact unhide A2 _ _))
                    refine wpQuiet_nil ?_
                    intro _ hw'
                    obtain ⟨⟨dq, osq⟩, hw''⟩ := hw'
                    subst hw''
                    obtain ⟨Y, hY⟩ : ∃ y, y = Sort.grow (redrawn X1 dq) osq := ⟨_, rfl⟩
                    have hbq := below_regrown X1 dq osq
                    show Exit.then _ _ _ _ (Sort.grow (redrawn X1 dq) osq)
                    rw [← hY] at hbq ⊢
                    clear hY g0 g1 g2 g3 g4 g5 j0 j1 j2 j3 j4 j5 h0 h1 h2 e0 e1 e2 heq
                    have HYB := hide hbq
                    clear hbq
                    have ly := (unhide HLX).later (unhide HYB) (unhide HLX).size
                    obtain ⟨e1, f1⟩ := cell_in ly.b0 (j := 0) rfl
                    obtain ⟨e2, f2⟩ := cell_in ly.b1 (j := 0) rfl
                    have HLY := hide ly
                    clear ly
                    gi_wp2
                    refine ⟨(((keeps_below ((unhide HWX).trans ((unhide HYB).mono (unhide HWX).size))).trans (KeepsOthers.setCell _ _ _)).trans (KeepsOthers.setCell _ _ _)).from _, rfl, ⟨x, fun h => ?_⟩, ((unhide HLY).set0 false).set1 0⟩
                    have := (unhide HAP).1 (h k hlt q hltq) (by simp)
                    cases this
                | true =>
                  cases v2 with
                  | false =>
                    iterate 24 (quiet_step (first | with_reducible exact unhide PA _ _ | with_reducible exact unhide PB _ _ | with_reducible exact unhide A1 _ _ | with_reducible exact unhide A2 _ _))
                    refine wpQuiet_nil ?_
                    intro _ hw'
                    obtain ⟨⟨dq, osq⟩, hw''⟩ := hw'
                    subst hw''
                    obtain ⟨Y, hY⟩ : ∃ y, y = Sort.grow (redrawn X1 dq) osq := ⟨_, rfl⟩
                    have hbq := below_regrown X1 dq osq
                    show Exit.then _ _ _ _ (Sort.grow (redrawn X1 dq) osq)
                    rw [← hY] at hbq ⊢
                    clear hY g0 g1 g2 g3 g4 g5 j0 j1 j2 j3 j4 j5 h0 h1 h2 e0 e1 e2 heq
                    have HYB := hide hbq
                    clear hbq
                    have ly := (unhide HLX).later (unhide HYB) (unhide HLX).size
                    obtain ⟨e1, f1⟩ := cell_in ly.b0 (j := 0) rfl
                    obtain ⟨e2, f2⟩ := cell_in ly.b1 (j := 0) rfl
                    have HLY := hide ly
                    clear ly
                    gi_wp2
                    refine ⟨(((keeps_below ((unhide HWX).trans ((unhide HYB).mono (unhide HWX).size))).trans (KeepsOthers.setCell _ _ _)).trans (KeepsOthers.setCell _ _ _)).from _, rfl, ⟨x, fun h => ?_⟩, ((unhide HLY).set0 false).set1 0⟩
                    have := (unhide HAP).1 (h k hlt q hltq) (by simp)
                    cases this
                  | true =>
                    iterate 24 (quiet_step (first | with_reducible exact unhide PA _ _ | with_reducible exact unhide PB _ _ | with_reducible exact unhide A1 _ _ | with_reducible exact unhide A2 _ _))
                    refine wpQuiet_nil ?_
                    intro _ hw'
                    obtain ⟨⟨dq, osq⟩, hw''⟩ := hw'
                    subst hw''
                    obtain ⟨Y, hY⟩ : ∃ y, y = Sort.grow (redrawn X1 dq) osq := ⟨_, rfl⟩
                    have hbq := below_regrown X1 dq osq
                    show Exit.then _ _ _ _ (Sort.grow (redrawn X1 dq) osq)
                    rw [← hY] at hbq ⊢
                    clear hY g0 g1 g2 g3 g4 g5 j0 j1 j2 j3 j4 j5 h0 h1 h2 e0 e1 e2 heq
                    have HYB := hide hbq
                    clear hbq
                    gi_wp2
                    go_roundw
                    case rel => exact ⟨q + 1, by omega, by go_num, (unhide HX1).1.trans ((unhide HYB).mono (unhide HX1).1.size), fun k' hk' => by
                      by_cases e : k' = q
                      · subst e
                        exact (unhide HAP).2 (by simp)
                      · exact (unhide HR).2 k' (by omega)⟩
                    case measure => simp [intOf]; omega
            · obtain rfl : q = k := by omega
              have HR := hide (And.intro r1 r2)
              clear r1 r2
              gi_wp2
              go_roundw
              case rel => exact ⟨q + 1, by omega, by go_num, (unhide HX0).1.trans ((unhide HR).1.mono (unhide HX0).1.size), fun i' hi' => by
                by_cases e : i' = q
                · subst e; exact (unhide HR).2
                · exact (unhide HX0).2.2.2.2 i' (by omega)⟩
              case measure => simp [intOf]; omega
        · obtain rfl : k = 36 := by omega
          have HR := hide (And.intro r1 r2)
          clear r1 r2
          gi_wp2
          have hk' := keeps_below (unhide HR).1
          refine ⟨hk'.from _, hk'.walks, fun x' hx' => ?_, hB.trans ((unhide HR).1.mono hB.size)⟩
          rcases List.mem_append.1 hx' with h' | h'
          · exact hp x' h'
          obtain rfl : x' = x := by simpa using h'
          exact (unhide HR).2
    case done =>
      rintro D xs W hD hS ⟨hp, hB⟩ hK
      obtain ⟨z1, z2, z3, z4, z5, z6⟩ := unhide HW4
      have ly := z1.later hB (by omega)
      obtain ⟨e1, f1⟩ := cell_in ly.b0 (j := 0) rfl
      obtain ⟨e2, f2⟩ := cell_in ly.b1 (j := 0) rfl
      have HLY := hide ly
      have HD7 : Hid (w.heap.size + 2 ≤ D) := by show _ ≤ _; omega
      clear z1 z2 z3 z4 z5 z6 ly
      go_wp2_with fail
      have ly2 := ((unhide HLY).set0 true).set1 0
      refine leaves_marks [D] _ (by simp) (fun D' hD' => ?_) (fun W' hk' => ?_)
      · obtain rfl : D' = D := by simpa using hD'
        have := unhide HD7
        rw [Below.heap_setCell _ _ _ _ (by show D' ≠ w.heap.size + 1; omega), Below.heap_setCell _ _ _ _ (by show D' ≠ w.heap.size; omega)]; exact hK
      · have hld' := ly2.keep hk' (fun b hb h => by have := unhide HD7; simp at h; omega)
        exact ⟨_, results_ld rfl hld' _ rfl rfl, ⟨true, rfl, fun _ => ⟨fun _ p => hp p (hS p), fun _ => rfl⟩, fun e => absurd rfl e⟩, hld'.below⟩
    case stop =>
      rintro D c' pre W hD _ ⟨rfl, ⟨p, hp⟩, hld⟩ hK
      have HD7 : Hid (w.heap.size + 2 ≤ D) := by
        obtain ⟨z1, z2, z3, z4, z5, z6⟩ := unhide HW4
        show _ ≤ _
        omega
      refine wpIn_wide.2 ?_
      go_wp2_with fail
      refine leaves_marks [D] _ (by simp) (fun D' hD' => ?_) (fun W' hk' => ?_)
      · obtain rfl : D' = D := by simpa using hD'
        exact hK
      · have hld' := hld.keep hk' (fun b hb h => by have := unhide HD7; simp at h; omega)
        exact ⟨_, results_ld rfl hld' _ rfl rfl, ⟨false, rfl, fun _ => ⟨(fun h => by cases h), fun h => absurd (h p) hp⟩, fun e => absurd rfl e⟩, hld'.below⟩
  · have hne : (r == 0) = false := by simp [h0]
    have HNE := hide h0
    clear h0
    go_enter Try.func13, Try.ntmps13
    go_wp2_with fail
    rw [← hW0]
    have HW0 := hide hW0
    clear hW0
    refine (unhide CC).mono ?_
    rintro e w1 ⟨⟨cs, rfl, hl, hm⟩, hb1⟩
    have HL1 := hide ((unhide HQ0).later hb1 (unhide HQ0).size)
    clear hm hb1
    have H1 := hide (unhide HSZ cs hl)
    have H2 := hide (unhide HS0 cs hl)
    have H3 := hide (unhide HAL cs)
    generalize arr cs = CS at *
    have ly := (unhide HL1).later (below_setRow ((Below.refl _ w1).alloc (Nat.le_refl _) (.cells P0 47)) (Nat.le_refl _) CS) (unhide HL1).size
    obtain ⟨e1, f1⟩ := cell_in ly.b0 (j := 0) rfl
    obtain ⟨e2, f2⟩ := cell_in ly.b1 (j := 0) rfl
    have HLY := hide ly
    clear ly
    go_wp2_with (refine wpList_store_row rfl 47 (.tmp 4) (.tmp 16) rfl w1.heap.size CS rfl rfl 47 P0 (World.alloc_heap_new _ _) (unhide H1) (unhide H2) (unhide H3) ?_)
    (try simp only [Exit.inBlock, Exit.then])
    have ly2 := ((unhide HLY).set0 false).set1 r
    exact bodyPost_ret (results_ld rfl ly2 _ rfl rfl) rfl ⟨⟨false, rfl, fun e => absurd e (unhide HNE), fun _ => rfl⟩, ly2.below⟩
end Go.Proofs.Ytbbbjpkomnhofaa
