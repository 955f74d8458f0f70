import Derived.Test.YtbbbjpkomnhofaaH
import Derived.Test.YtbbbjpkomnhofaaG2
import Derived.Test.YtbbbjpkomnhofaaGF
namespace Go.Proofs.Ytbbbjpkomnhofaa
open Go.RowKit Go.Shelf
attribute [local go_sem] Oper.semAt_some
def HoPost2 (l : List Int) (r : Int) (w : World) (e : Ending) (w' : World) : Prop :=
  (∃ (t : Bool) (a b c d : Int), e = .returned (.tuple #[.bool t, .int .i64 a, .int .i64 b, .int .i64 c, .int .i64 d, .int .i64 r]) ∧
    (r = 0 → (t = true ∧ a = 0 ∧ b = 0 ∧ c = 0 ∧ d = 0 ∧ ∀ x : Fin 432, pays l x.val = false) ∨ (t = false ∧ ∃ x : Fin 432, pays l x.val = true ∧ (∀ y : Fin 432, y.val < x.val → pays l y.val = false) ∧ a = cA x ∧ b = cB x ∧ c = cP x ∧ d = cQ x)) ∧
    (r ≠ 0 → t = false ∧ a = 0 ∧ b = 0 ∧ c = 0 ∧ d = 0)) ∧ Below w.heap.size w w'
set_option maxRecDepth 100000 in
set_option maxHeartbeats 4000000 in
theorem honest2_any (a : Option Addr) (n c : Nat) (l : List Int) (w : World) (h : Ints w a n c l) :
    Calls Try.prog 17 #[.slice a n c] w fun e w' => HoPost2 l (ruE l 3) w e w' := by
  have mx : Try.prog.follows .mixedOrders = true := by kernel_rfl
  have C1 := hide (fun X (hX : Below w.heap.size w X) => may_any a n c l 3 X (h.later hX))
  have HR0 : Hid (ruE l 3 = 0 → n = 36 ∧ okF l 3) := fun h0 => by
    unfold ruE at h0
    split at h0
    · split at h0
      · have := h.1; exact ⟨by omega, by assumption⟩
      · cases h0
    · cases h0
  have HH := hide h
  clear h
  obtain ⟨W0, hW0⟩ : ∃ y, y = ((((((w.alloc (.cells #[.slice a n c] 22)).alloc (.cells #[.bool false] 4)).alloc (.cells #[.int .i64 0] 3)).alloc (.cells #[.int .i64 0] 3)).alloc (.cells #[.int .i64 0] 3)).alloc (.cells #[.int .i64 0] 3)).alloc (.cells #[.int .i64 0] 24) := ⟨_, rfl⟩
  have HW : Hid (Lay a n c w W0 false 0 0 0 0 0) := by rw [hW0]; exact lay_new a n c w
  have CC := hide (unhide C1 W0 (unhide HW).below)
  generalize ruE l 3 = r at *
  by_cases h0 : r = 0
  · subst h0
    obtain ⟨rfl, hok⟩ := unhide HR0 rfl
    have HOK := hide hok
    clear hok HR0
    refine (callsIn_wide (n := 9)).1 ?_
    refine callsIn_of_wp_marks Try.func17 rfl trivial ?_
    simp only [Try.ntmps17, List.size_toArray, List.length_cons, List.length_nil, Nat.reduceAdd, Nat.reduceSub, Array.replicate_succ, Array.replicate_zero, List.push_toArray, List.append_toArray, List.nil_append, List.cons_append]
    refine wpIn_wide.2 ?_
    go_wp2_with fail
    rw [← hW0]
    have HW0 := hide hW0
    clear hW0
    refine (unhide CC).mono ?_
    rintro e w1 ⟨rfl, hw1⟩
    subst w1
    go_wp2_with fail
    refine (orders_any _).mono ?_
    rintro e w1 ⟨rfl, hb1⟩
    have HW1 : Hid (Lay a 36 c w w1 false 0 0 0 0 0) := (unhide HW).later hb1 (unhide HW).size
    clear hb1
    have hsz : Hid ((Try.prog.info? 40).map (·.size) = some (ordC 6).size) := by show _ = _; kernel_rfl
    have hall : Hid ((ordC 6).all (·.oneCell') = true) := by show _ = _; decide +kernel
    have hs0 : Hid ((ordC 0).size = (ordC 6).size) := by show _ = _; rfl
    have HCA : Hid (∀ k, k < 6 → ∀ j, j < 3 → (ordC 6)[k * 3 + j]? = some (.int .i64 (o6 k j))) := ordC_get
    generalize hC : ordC 6 = CO at *
    clear hC
    go_wp2_with (refine wpList_store_row rfl 40 (.tmp 9) (.tmp 17) rfl w1.heap.size CO rfl rfl 40 (ordC 0) (World.alloc_heap_new _ _) (unhide hsz) (unhide hs0) (unhide hall) ?_)
    refine (lies_any _).mono ?_
    rintro e w2 ⟨rfl, hw2⟩
    have HW2 : Hid (Lay a 36 c w w2 false 0 0 0 0 0 ∧ w.heap.size + 7 ≤ w1.heap.size ∧ w1.heap.size < w2.heap.size ∧ w2.heap[w1.heap.size]? = some (.cells CO 40 (0, 0))) := by
      have hn := World.alloc_heap_new w1 (.cells (ordC 0) 40)
      have hb : Below w1.heap.size w1 ((w1.alloc (.cells (ordC 0) 40)).setRow w1.heap.size CO) := below_setRow ((Below.refl _ w1).alloc (Nat.le_refl _) _) (Nat.le_refl _) _
      have hr := setRow_heap (w1.alloc (.cells (ordC 0) 40)) w1.heap.size _ CO _ _ hn
      rw [hw2]
      exact ⟨(unhide HW1).later hb (unhide HW1).size, (unhide HW1).size, (Array.getElem?_eq_some_iff.1 hr).1, hr⟩
    clear hw2 HW1
    generalize w1.heap.size = B9 at *
    go_wp2_with fail
    refine (wpIn_wide (n := 9)).1 ?_
    refine wpIn_rangeFunc_ownH rfl (by omega) (gf := 40) (lb := #[]) rfl trivial (enters_of Try.func40 (by kernel_rfl) rfl) (lies_stops2 8 (by omega) w2) walksK_t walksK_b (Below.refl _ _) (fun _ => rfl)
      (fun pre W => (∀ x ∈ pre, pays l x.val = false) ∧ Below w2.heap.size w2 W)
      (fun c' lst W => c' = .ret ∧ ∃ pre x, lst = pre ++ [x] ∧ (∀ y ∈ pre, pays l y.val = false) ∧ pays l x.val = true ∧ Lay a 36 c w W false (cA x) (cB x) (cP x) (cQ x) 0)
      (OwnFrom.and (ownFrom_pure _ _) (ownFrom_below (Nat.le_refl _) (Nat.le_refl _)))
      (fun c' s A B row hs hg hr => by
        obtain ⟨e, pre, x, h1, h2, h3, hl⟩ := hs
        exact ⟨e, pre, x, h1, h2, h3, lay_own (β := Unit) (unhide HW2).1.size () A B row hl hg hr⟩)
      ⟨(fun x hx => by cases hx), Below.refl _ _⟩
      (fun x a' W => ∃ Bx, w2.heap.size ≤ Bx ∧ W.heap[Bx]? = some (.cells #[.int .i64 (cA x), .int .i64 (cB x), .int .i64 (cP x), .int .i64 (cQ x)] 65 (0, 0)) ∧ a' = { tmps := #[.slice a 36 c, .pointer (some ⟨w.heap.size, 0, none⟩), .pointer (some ⟨w.heap.size + 1, 0, none⟩), .pointer (some ⟨w.heap.size + 1 + 1, 0, none⟩), .pointer (some ⟨w.heap.size + 1 + 1 + 1, 0, none⟩), .pointer (some ⟨w.heap.size + 1 + 1 + 1 + 1, 0, none⟩), .pointer (some ⟨w.heap.size + 1 + 1 + 1 + 1 + 1, 0, none⟩), .pointer (some ⟨w.heap.size + 1 + 1 + 1 + 1 + 1 + 1, 0, none⟩), .int .i64 0, .pointer (some ⟨B9, 0, none⟩), .pointer (some ⟨Bx, 0, none⟩), undef, .slice a 36 c, .int .i64 0, .int .i64 0, .bool false, undef, .agg CO, .func (.func 40) #[] #[], .agg #[.int .i64 (cA x), .int .i64 (cB x), .int .i64 (cP x), .int .i64 (cQ x)], undef, undef, undef, undef, undef, undef, undef, undef, undef, undef, undef, undef, undef, undef, undef, undef, undef, undef, undef, undef, undef, undef, undef, undef, undef, undef, undef, undef, undef, undef, undef, undef, undef, undef, undef, undef], defers := [] })
      (fun x a' s A B row hs hg hr => by
        obtain ⟨Bx, q1, q2, q3⟩ := hs
        refine ⟨Bx, q1, (hg.block Bx (Array.getElem?_eq_some_iff.1 q2).1 (fun e => ?_)).trans q2, q3⟩
        obtain ⟨_, o, ho, hc⟩ := hr Bx e.symm
        rw [q2] at ho
        cases ho
        cases hc) ?assign ?body ?done ?stop
    case assign =>
      rintro lp pre x W K hi hK
      rw [liEnc_eq]
      gi_wp2
      exact hK _ _ ((KeepsOthers.alloc _ _).from _) (KeepsOthers.alloc _ _).walks ⟨hi.1, hi.2.alloc hi.2.size _⟩ ⟨W.heap.size, hi.2.size, World.alloc_heap_new _ _, rfl⟩
    case body =>
      rintro lp pre x a' W hl hr ⟨hp, hB⟩ ⟨Bx, q1, q2, rfl⟩ hlt
      obtain ⟨A, hA⟩ : ∃ A : Nat, A = x.val / 72 := ⟨_, rfl⟩
      obtain ⟨Bb, hBb⟩ : ∃ A : Nat, A = x.val / 12 % 6 := ⟨_, rfl⟩
      obtain ⟨Q, hQ⟩ : ∃ A : Nat, A = x.val % 6 := ⟨_, rfl⟩
      have eA : cA x = (A : Int) := by rw [hA]; rfl
      have eB : cB x = (Bb : Int) := by rw [hBb]; rfl
      have eQ : cQ x = (Q : Int) := by rw [hQ]; rfl
      have hA6 : A < 6 := by have := x.2; omega
      have hB6 : Bb < 6 := by omega
      have hQ6 : Q < 6 := by omega
      obtain ⟨lw, l1, l2, l3⟩ := unhide HW2
      have z0 := (hB.block _ (Nat.lt_of_lt_of_le (by omega) lw.size)).trans lw.b0
      have z9 := (hB.block _ l2).trans l3
      obtain ⟨d0, f0⟩ := cell_in q2 (j := 0) rfl
      obtain ⟨d1, f1⟩ := cell_in q2 (j := 1) rfl
      obtain ⟨d2, f2⟩ := cell_in q2 (j := 2) rfl
      obtain ⟨d3, f3⟩ := cell_in q2 (j := 3) rfl
      have hBx : Bx < W.heap.size := (Array.getElem?_eq_some_iff.1 q2).1
      obtain ⟨b, off, rfl, hb, hcell⟩ := (unhide HH).cellAt (by omega)
      have hbw : b < w.heap.size := hb
      have HCE : Hid (∀ k, k < 36 → W.cell? ⟨b, off + k, none⟩ = some (.int .i64 (l[k]?.getD 0))) := fun k hk => ((lw.below.trans (hB.mono (by have := lw.size; omega))).cell (p := ⟨b, off + k, none⟩) hbw).trans (hcell k hk)
      clear hcell
      have hs0 : w.heap.size < W.heap.size := by have := lw.size; have := hB.size; omega
      have hs9 : B9 < W.heap.size := by have := hB.size; omega
      have hs7 : w.heap.size + 7 ≤ Bx := by have := lw.size; omega
      have HL := hide (And.intro lw (And.intro l1 (And.intro l2 (And.intro hB (And.intro hr hl)))))
      clear lw l1 l2 l3 hr hl hB
      rw [eA, eB, eQ]
      rw [eA, eB, eQ] at q2
      rw [eA] at d0
      rw [eB] at d1
      rw [eQ] at d3
      have HX := hide (And.intro hA (And.intro hBb hQ))
      have HE := hide (And.intro eA (And.intro eB eQ))
      clear hA hBb hQ eA eB eQ
      have PL : Hid (∀ (x y : Nat), x < 6 → y < 6 → ∀ (X : World) d os, Calls Try.prog 33 #[.agg #[.int .i64 (x : Int), .int .i64 (y : Int)]] (Sort.grow (redrawn X d) os) fun e w'' => e = .returned (.int .i64 ((6 * x + y : Nat) : Int)) ∧ ∃ p : Regrown, w'' = Sort.grow (redrawn X p.d) p.os) := fun x y hx hy X d os => by
        refine Calls.regrown_of ((place_any x y _ (by omega) (by omega)).mono ?_)
        rintro e w' ⟨rfl, h2⟩
        exact ⟨ret_int (by omega), h2⟩
      have AB : Hid (∀ (x y z u v : Int) (X : World) d os, Calls Try.prog 29 #[.agg #[.int .i64 x, .int .i64 y, .int .i64 z], .int .i64 u, .int .i64 v] (Sort.grow (redrawn X d) os) fun e w'' => e = .returned (.bool (abv [x, y, z] u v)) ∧ ∃ p : Regrown, w'' = Sort.grow (redrawn X p.d) p.os) := fun x y z u v X d os => Calls.regrown_of (above_any x y z u v _)
      rcases (by omega : x.val / 6 % 2 = 0 ∨ x.val / 6 % 2 = 1) with hP | hP
      · have eP : cP x = 0 := by unfold cP; rw [hP]; rfl
        rw [eP] at d2 q2 ⊢
        have HP := hide hP
        have HEP := hide eP
        clear hP eP
        gi_wp2
        obtain ⟨X, hX⟩ : ∃ y, y = W.alloc (Obj.cells #[Value.int IntKind.i64 Q, Value.int IntKind.i64 Bb] 63) := ⟨_, rfl⟩
        rw [← hX]
        have hXB : Below W.heap.size W X := by rw [hX]; exact (Below.refl _ W).alloc (Nat.le_refl _) _
        have hXn : X.heap[W.heap.size]? = some (.cells #[Value.int IntKind.i64 Q, Value.int IntKind.i64 Bb] 63 (0, 0)) := by rw [hX]; exact World.alloc_heap_new _ _
        have HX2 := hide (And.intro hXB hXn)
        have g0 := cell_regrown ((hXB.cell (p := ⟨Bx, 0, none⟩) hBx).trans d0)
        have g1 := cell_regrown ((hXB.cell (p := ⟨Bx, 1, none⟩) hBx).trans d1)
        have g2 := cell_regrown ((hXB.cell (p := ⟨Bx, 2, none⟩) hBx).trans d2)
        have g4 := cell_regrown (cell_in hXn (j := 0) rfl).1
        have g5 := cell_regrown (cell_in hXn (j := 1) rfl).1
        have g6 := cell_regrown ((hXB.cell (p := ⟨w.heap.size, 0, none⟩) hs0).trans (cell_in z0 (j := 0) rfl).1)
        have g7 := cell_regrown ((hXB.cell (p := ⟨B9, A * 3 + 0, none⟩) hs9).trans (cell_in z9 (unhide HCA A hA6 0 (by omega))).1)
        have g8 := cell_regrown ((hXB.cell (p := ⟨B9, A * 3 + 1, none⟩) hs9).trans (cell_in z9 (unhide HCA A hA6 1 (by omega))).1)
        have g9 := cell_regrown ((hXB.cell (p := ⟨B9, A * 3 + 2, none⟩) hs9).trans (cell_in z9 (unhide HCA A hA6 2 (by omega))).1)
        simp only [Nat.add_zero] at g7
        have hT1 : 6 * Q + Bb < 36 := by omega
        have hT2 : 6 * A + Bb < 36 := by omega
        have k1 := cell_regrown ((hXB.cell (p := ⟨b, off + (6 * Q + Bb), none⟩) (by show b < _; omega)).trans (unhide HCE _ hT1))
        have k2 := cell_regrown ((hXB.cell (p := ⟨b, off + (6 * A + Bb), none⟩) (by show b < _; omega)).trans (unhide HCE _ hT2))
        have P1 := hide (unhide PL Q Bb hQ6 hB6 X)
        have P2 := hide (unhide PL A Bb hA6 hB6 X)
        have A1 := hide (unhide AB (o6 A 0) (o6 A 1) (o6 A 2) (l[6 * Q + Bb]?.getD 0) (l[6 * A + Bb]?.getD 0) X)
        have HQ2 := hide q2
        clear hXB hXn hX d0 d1 d2 d3 f0 f1 f2 f3 z0 z9 q2 AB PL
        have HPAY : Hid (pays l x.val = abv [o6 A 0, o6 A 1, o6 A 2] (l[6 * Q + Bb]?.getD 0) (l[6 * A + Bb]?.getD 0)) := by
          show pays l x.val = _
          obtain ⟨u1, u2, u3⟩ := unhide HX
          unfold pays whoO told0 told1
          rw [if_pos (unhide HP), if_pos (unhide HP), if_pos (unhide HP), ← u1, ← u2, ← u3]
        generalize l[6 * Q + Bb]?.getD 0 = v1 at *
        generalize l[6 * A + Bb]?.getD 0 = v2 at *
        generalize hT1' : 6 * Q + Bb = T1 at *
        generalize hT2' : 6 * A + Bb = T2 at *
        have hAi : (A : Int) < 6 := by omega
        have hT1i : (T1 : Int) < 36 := by omega
        have hT2i : (T2 : Int) < 36 := by omega
        refine round_quiet (by kernel_rfl) (by kernel_rfl) (by kernel_rfl) ?_
        iterate 19 (quiet_step (first | with_reducible exact unhide P1 _ _ | with_reducible exact unhide P2 _ _ | with_reducible exact unhide A1 _ _))
        refine wpQuiet_nil ?_
        intro _ hw'
        obtain ⟨⟨dq, osq⟩, hw''⟩ := hw'
        subst hw''
        have hbq := below_regrown X dq osq
        obtain ⟨Y, hY⟩ : ∃ y, y = Sort.grow (redrawn X dq) osq := ⟨_, rfl⟩
        show Exit.then _ _ _ _ (Sort.grow (redrawn X dq) osq)
        rw [← hY] at hbq ⊢
        clear hY
        have HY : Hid (Below W.heap.size W Y) := (unhide HX2).1.trans (hbq.mono (unhide HX2).1.size)
        clear hbq g0 g1 g2 g4 g5 g6 g7 g8 g9 k1 k2
        generalize hV : abv [o6 A 0, o6 A 1, o6 A 2] v1 v2 = V
        have HV := hide hV
        clear hV
        cases V with
        | false =>
          gi_wp2
          have hk := keeps_below (unhide HY)
          refine ⟨hk.from _, hk.walks, fun x' hx' => ?_, (unhide HL).2.2.2.1.trans ((unhide HY).mono (unhide HL).2.2.2.1.size)⟩
          rcases List.mem_append.1 hx' with h' | h'
          · exact hp x' h'
          · obtain rfl : x' = x := by simpa using h'
            exact (unhide HPAY).trans (unhide HV)
        | true =>
          obtain ⟨lw, l1, l2, hB, hr, hl⟩ := unhide HL
          have hyb := unhide HY
          have ly : Lay (some ⟨b, off, none⟩) 36 c w Y false 0 0 0 0 0 := (lw.later hB lw.size).later hyb (Nat.le_trans lw.size hB.size)
          have q2' := (hyb.block _ hBx).trans (unhide HQ2)
          have HLY := hide ly
          have HQY := hide q2'
          clear lw l1 l2 hB hr hl hyb ly q2'
          gi_wp2
          obtain ⟨C, hC⟩ : ∃ C : Array Bool → World → Prop, C = fun listed Z => (∃ t x1 x2 x3 x4 x5, Lay (some ⟨b, off, none⟩) 36 c w Z t x1 x2 x3 x4 x5 ∧ (listed.getD 10 false = true → t = false) ∧ (listed.getD 11 false = true → x1 = (A : Int)) ∧ (listed.getD 12 false = true → x2 = (Bb : Int)) ∧ (listed.getD 13 false = true → x3 = 0) ∧ (listed.getD 14 false = true → x4 = (Q : Int)) ∧ (listed.getD 15 false = true → x5 = 0)) ∧ Z.heap[Bx]? = some (.cells #[.int .i64 (A : Int), .int .i64 (Bb : Int), .int .i64 0, .int .i64 (Q : Int)] 65 (0, 0)) ∧ KeepsOthers W Z := ⟨_, rfl⟩
          have hC0 : ∀ listed, (∀ j, listed.getD j false = true → False) → C listed Y.drew := fun listed hno => by
            rw [hC]
            exact ⟨⟨false, 0, 0, 0, 0, 0, ⟨(unhide HLY).below.drew, (unhide HLY).size, (unhide HLY).b0, (unhide HLY).b1, (unhide HLY).b2, (unhide HLY).b3, (unhide HLY).b4, (unhide HLY).b5, (unhide HLY).b6⟩, fun h => (hno _ h).elim, fun h => (hno _ h).elim, fun h => (hno _ h).elim, fun h => (hno _ h).elim, fun h => (hno _ h).elim, fun h => (hno _ h).elim⟩, unhide HQY, (keeps_below (unhide HY)).trans (KeepsOthers.drew _)⟩
          have hCc : ∀ listed Z, C listed Z → ∀ j v, (#[.int .i64 (A : Int), .int .i64 (Bb : Int), .int .i64 0, .int .i64 (Q : Int)] : Array Value)[j]? = some v → Z.cell? ⟨Bx, j, none⟩ = some v := fun listed Z hZ j v hv => by
            rw [hC] at hZ
            exact (cell_in hZ.2.1 hv).1
          have hCl : ∀ i, i < 10 → ∀ listed Z, C listed Z → C (listed.setIfInBounds i true) Z := fun i hi listed Z hZ => by
            rw [hC] at hZ ⊢
            obtain ⟨⟨t, x1, x2, x3, x4, x5, hz, g0, g1, g2, g3, g4, g5⟩, hz2, hz3⟩ := hZ
            exact ⟨⟨t, x1, x2, x3, x4, x5, hz, fun h => g0 (by rwa [getD_set_ne false (by omega)] at h), fun h => g1 (by rwa [getD_set_ne false (by omega)] at h), fun h => g2 (by rwa [getD_set_ne false (by omega)] at h), fun h => g3 (by rwa [getD_set_ne false (by omega)] at h), fun h => g4 (by rwa [getD_set_ne false (by omega)] at h), fun h => g5 (by rwa [getD_set_ne false (by omega)] at h)⟩, hz2, hz3⟩
          refine round_indexed C (by kernel_rfl) (by kernel_rfl) (by kernel_rfl) (hC0 _ (fun j h => by rw [getD_replicate_false] at h; cases h)) ?_
          refine ⟨.pointer (some ⟨Bx, 0, none⟩), ⟨by kernel_rfl, fun listed Z hz hZ => ?_⟩, ?_⟩
          · simp [upI, go_sem]
            exact hCl 0 (by omega) listed Z hZ
          simp only [Act.put, List.setIfInBounds_toArray, List.set_cons_succ, List.set_cons_zero]
          refine ⟨.pointer (some ⟨Bx, 0, none⟩), ⟨by kernel_rfl, fun listed Z hz hZ => ?_⟩, ?_⟩
          · simp [upI, go_sem]
            exact hCl 1 (by omega) listed Z hZ
          simp only [Act.put, List.setIfInBounds_toArray, List.set_cons_succ, List.set_cons_zero]
          refine ⟨.int .i64 (A : Int), ⟨by kernel_rfl, fun listed Z hz hZ => ?_⟩, ?_⟩
          · simp [upI, go_sem, hCc listed Z hZ 0 _ rfl]
            exact hCl 2 (by omega) listed Z hZ
          simp only [Act.put, List.setIfInBounds_toArray, List.set_cons_succ, List.set_cons_zero]
          refine ⟨.pointer (some ⟨Bx, 0, none⟩), ⟨by kernel_rfl, fun listed Z hz hZ => ?_⟩, ?_⟩
          · simp [upI, go_sem]
            exact hCl 3 (by omega) listed Z hZ
          simp only [Act.put, List.setIfInBounds_toArray, List.set_cons_succ, List.set_cons_zero]
          refine ⟨.pointer (some ⟨Bx, 1, none⟩), ⟨by kernel_rfl, fun listed Z hz hZ => ?_⟩, ?_⟩
          · simp [upI, go_sem]
            exact hCl 4 (by omega) listed Z hZ
          simp only [Act.put, List.setIfInBounds_toArray, List.set_cons_succ, List.set_cons_zero]
          refine ⟨.int .i64 (Bb : Int), ⟨by kernel_rfl, fun listed Z hz hZ => ?_⟩, ?_⟩
          · simp [upI, go_sem, hCc listed Z hZ 1 _ rfl]
            exact hCl 5 (by omega) listed Z hZ
          simp only [Act.put, List.setIfInBounds_toArray, List.set_cons_succ, List.set_cons_zero]
          refine ⟨.pointer (some ⟨Bx, 2, none⟩), ⟨by kernel_rfl, fun listed Z hz hZ => ?_⟩, ?_⟩
          · simp [upI, go_sem]
            exact hCl 6 (by omega) listed Z hZ
          simp only [Act.put, List.setIfInBounds_toArray, List.set_cons_succ, List.set_cons_zero]
          refine ⟨.int .i64 0, ⟨by kernel_rfl, fun listed Z hz hZ => ?_⟩, ?_⟩
          · simp [upI, go_sem, hCc listed Z hZ 2 _ rfl]
            exact hCl 7 (by omega) listed Z hZ
          simp only [Act.put, List.setIfInBounds_toArray, List.set_cons_succ, List.set_cons_zero]
          refine ⟨.pointer (some ⟨Bx, 3, none⟩), ⟨by kernel_rfl, fun listed Z hz hZ => ?_⟩, ?_⟩
          · simp [upI, go_sem]
            exact hCl 8 (by omega) listed Z hZ
          simp only [Act.put, List.setIfInBounds_toArray, List.set_cons_succ, List.set_cons_zero]
          refine ⟨.int .i64 (Q : Int), ⟨by kernel_rfl, fun listed Z hz hZ => ?_⟩, ?_⟩
          · simp [upI, go_sem, hCc listed Z hZ 3 _ rfl]
            exact hCl 9 (by omega) listed Z hZ
          simp only [Act.put, List.setIfInBounds_toArray, List.set_cons_succ, List.set_cons_zero]
          refine ⟨undef, ⟨by kernel_rfl, fun listed Z hsz hZ => ?_⟩, ?_⟩
          · rw [hC] at hZ
            obtain ⟨⟨t, x1, x2, x3, x4, x5, hz, g0, g1, g2, g3, g4, g5⟩, hz2, hz3⟩ := hZ
            obtain ⟨e1, f1⟩ := cell_in hz.b1 (j := 0) rfl
            simp [upI, go_sem, e1, f1]
            rw [hC]
            exact ⟨⟨_, _, _, _, _, _, hz.set1 _, fun _ => rfl, fun h => g1 (by rwa [getD_set_ne false (by omega)] at h), fun h => g2 (by rwa [getD_set_ne false (by omega)] at h), fun h => g3 (by rwa [getD_set_ne false (by omega)] at h), fun h => g4 (by rwa [getD_set_ne false (by omega)] at h), fun h => g5 (by rwa [getD_set_ne false (by omega)] at h)⟩, by rw [Below.heap_setCell _ _ _ _ (by show Bx ≠ w.heap.size + 1; have := hs7; omega)]; exact hz2, hz3.trans (KeepsOthers.setCell _ _ _)⟩
          simp only [Act.put]
          refine ⟨undef, ⟨by kernel_rfl, fun listed Z hsz hZ => ?_⟩, ?_⟩
          · rw [hC] at hZ
            obtain ⟨⟨t, x1, x2, x3, x4, x5, hz, g0, g1, g2, g3, g4, g5⟩, hz2, hz3⟩ := hZ
            obtain ⟨e1, f1⟩ := cell_in hz.b2 (j := 0) rfl
            simp [upI, go_sem, e1, f1]
            rw [hC]
            exact ⟨⟨_, _, _, _, _, _, hz.set2 _, fun h => g0 (by rwa [getD_set_ne false (by omega)] at h), fun _ => rfl, fun h => g2 (by rwa [getD_set_ne false (by omega)] at h), fun h => g3 (by rwa [getD_set_ne false (by omega)] at h), fun h => g4 (by rwa [getD_set_ne false (by omega)] at h), fun h => g5 (by rwa [getD_set_ne false (by omega)] at h)⟩, by rw [Below.heap_setCell _ _ _ _ (by show Bx ≠ w.heap.size + 1 + 1; have := hs7; omega)]; exact hz2, hz3.trans (KeepsOthers.setCell _ _ _)⟩
          simp only [Act.put]
          refine ⟨undef, ⟨by kernel_rfl, fun listed Z hsz hZ => ?_⟩, ?_⟩
          · rw [hC] at hZ
            obtain ⟨⟨t, x1, x2, x3, x4, x5, hz, g0, g1, g2, g3, g4, g5⟩, hz2, hz3⟩ := hZ
            obtain ⟨e1, f1⟩ := cell_in hz.b3 (j := 0) rfl
            simp [upI, go_sem, e1, f1]
            rw [hC]
            exact ⟨⟨_, _, _, _, _, _, hz.set3 _, fun h => g0 (by rwa [getD_set_ne false (by omega)] at h), fun h => g1 (by rwa [getD_set_ne false (by omega)] at h), fun _ => rfl, fun h => g3 (by rwa [getD_set_ne false (by omega)] at h), fun h => g4 (by rwa [getD_set_ne false (by omega)] at h), fun h => g5 (by rwa [getD_set_ne false (by omega)] at h)⟩, by rw [Below.heap_setCell _ _ _ _ (by show Bx ≠ w.heap.size + 1 + 1 + 1; have := hs7; omega)]; exact hz2, hz3.trans (KeepsOthers.setCell _ _ _)⟩
          simp only [Act.put]
          refine ⟨undef, ⟨by kernel_rfl, fun listed Z hsz hZ => ?_⟩, ?_⟩
          · rw [hC] at hZ
            obtain ⟨⟨t, x1, x2, x3, x4, x5, hz, g0, g1, g2, g3, g4, g5⟩, hz2, hz3⟩ := hZ
            obtain ⟨e1, f1⟩ := cell_in hz.b4 (j := 0) rfl
            simp [upI, go_sem, e1, f1]
            rw [hC]
            exact ⟨⟨_, _, _, _, _, _, hz.set4 _, fun h => g0 (by rwa [getD_set_ne false (by omega)] at h), fun h => g1 (by rwa [getD_set_ne false (by omega)] at h), fun h => g2 (by rwa [getD_set_ne false (by omega)] at h), fun _ => rfl, fun h => g4 (by rwa [getD_set_ne false (by omega)] at h), fun h => g5 (by rwa [getD_set_ne false (by omega)] at h)⟩, by rw [Below.heap_setCell _ _ _ _ (by show Bx ≠ w.heap.size + 1 + 1 + 1 + 1; have := hs7; omega)]; exact hz2, hz3.trans (KeepsOthers.setCell _ _ _)⟩
          simp only [Act.put]
          refine ⟨undef, ⟨by kernel_rfl, fun listed Z hsz hZ => ?_⟩, ?_⟩
          · rw [hC] at hZ
            obtain ⟨⟨t, x1, x2, x3, x4, x5, hz, g0, g1, g2, g3, g4, g5⟩, hz2, hz3⟩ := hZ
            obtain ⟨e1, f1⟩ := cell_in hz.b5 (j := 0) rfl
            simp [upI, go_sem, e1, f1]
            rw [hC]
            exact ⟨⟨_, _, _, _, _, _, hz.set5 _, fun h => g0 (by rwa [getD_set_ne false (by omega)] at h), fun h => g1 (by rwa [getD_set_ne false (by omega)] at h), fun h => g2 (by rwa [getD_set_ne false (by omega)] at h), fun h => g3 (by rwa [getD_set_ne false (by omega)] at h), fun _ => rfl, fun h => g5 (by rwa [getD_set_ne false (by omega)] at h)⟩, by rw [Below.heap_setCell _ _ _ _ (by show Bx ≠ w.heap.size + 1 + 1 + 1 + 1 + 1; have := hs7; omega)]; exact hz2, hz3.trans (KeepsOthers.setCell _ _ _)⟩
          simp only [Act.put]
          refine ⟨undef, ⟨by kernel_rfl, fun listed Z hsz hZ => ?_⟩, ?_⟩
          · rw [hC] at hZ
            obtain ⟨⟨t, x1, x2, x3, x4, x5, hz, g0, g1, g2, g3, g4, g5⟩, hz2, hz3⟩ := hZ
            obtain ⟨e1, f1⟩ := cell_in hz.b6 (j := 0) rfl
            simp [upI, go_sem, e1, f1]
            rw [hC]
            exact ⟨⟨_, _, _, _, _, _, hz.set6 _, fun h => g0 (by rwa [getD_set_ne false (by omega)] at h), fun h => g1 (by rwa [getD_set_ne false (by omega)] at h), fun h => g2 (by rwa [getD_set_ne false (by omega)] at h), fun h => g3 (by rwa [getD_set_ne false (by omega)] at h), fun h => g4 (by rwa [getD_set_ne false (by omega)] at h), fun _ => rfl⟩, by rw [Below.heap_setCell _ _ _ _ (by show Bx ≠ w.heap.size + 1 + 1 + 1 + 1 + 1 + 1; have := hs7; omega)]; exact hz2, hz3.trans (KeepsOthers.setCell _ _ _)⟩
          simp only [Act.put]
          intro listed Z hall hZ
          rw [hC] at hZ
          have HZ := hide hZ
          have HALL : Hid (∀ j, j < 16 → listed.getD j false = true) := hall
          clear hZ hall
          gi_wp2
          obtain ⟨⟨t, x1, x2, x3, x4, x5, hz, g0, g1, g2, g3, g4, g5⟩, hz2, hz3⟩ := unhide HZ
          have ha := unhide HALL
          have hlay := hz
          rw [g0 (ha 10 (by omega)), g1 (ha 11 (by omega)), g2 (ha 12 (by omega)), g3 (ha 13 (by omega)), g4 (ha 14 (by omega)), g5 (ha 15 (by omega))] at hlay
          refine ⟨hz3.from _, rfl, pre, x, rfl, hp, (unhide HPAY).trans (unhide HV), ?_⟩
          rw [(unhide HE).1, (unhide HE).2.1, (unhide HE).2.2, unhide HEP]
          exact hlay
      · have eP : cP x = 1 := by unfold cP; rw [hP]; rfl
        rw [eP] at d2 q2 ⊢
        have HP := hide hP
        have HEP := hide eP
        clear hP eP
        gi_wp2
        obtain ⟨X, hX⟩ : ∃ y, y = W.alloc (Obj.cells #[Value.int IntKind.i64 A, Value.int IntKind.i64 Q] 63) := ⟨_, rfl⟩
        rw [← hX]
        have hXB : Below W.heap.size W X := by rw [hX]; exact (Below.refl _ W).alloc (Nat.le_refl _) _
        have hXn : X.heap[W.heap.size]? = some (.cells #[Value.int IntKind.i64 A, Value.int IntKind.i64 Q] 63 (0, 0)) := by rw [hX]; exact World.alloc_heap_new _ _
        have HX2 := hide (And.intro hXB hXn)
        have g0 := cell_regrown ((hXB.cell (p := ⟨Bx, 0, none⟩) hBx).trans d0)
        have g1 := cell_regrown ((hXB.cell (p := ⟨Bx, 1, none⟩) hBx).trans d1)
        have g2 := cell_regrown ((hXB.cell (p := ⟨Bx, 2, none⟩) hBx).trans d2)
        have g4 := cell_regrown (cell_in hXn (j := 0) rfl).1
        have g5 := cell_regrown (cell_in hXn (j := 1) rfl).1
        have g6 := cell_regrown ((hXB.cell (p := ⟨w.heap.size, 0, none⟩) hs0).trans (cell_in z0 (j := 0) rfl).1)
        have g7 := cell_regrown ((hXB.cell (p := ⟨B9, Bb * 3 + 0, none⟩) hs9).trans (cell_in z9 (unhide HCA Bb hB6 0 (by omega))).1)
        have g8 := cell_regrown ((hXB.cell (p := ⟨B9, Bb * 3 + 1, none⟩) hs9).trans (cell_in z9 (unhide HCA Bb hB6 1 (by omega))).1)
        have g9 := cell_regrown ((hXB.cell (p := ⟨B9, Bb * 3 + 2, none⟩) hs9).trans (cell_in z9 (unhide HCA Bb hB6 2 (by omega))).1)
        simp only [Nat.add_zero] at g7
        have hT1 : 6 * A + Q < 36 := by omega
        have hT2 : 6 * A + Bb < 36 := by omega
        have k1 := cell_regrown ((hXB.cell (p := ⟨b, off + (6 * A + Q), none⟩) (by show b < _; omega)).trans (unhide HCE _ hT1))
        have k2 := cell_regrown ((hXB.cell (p := ⟨b, off + (6 * A + Bb), none⟩) (by show b < _; omega)).trans (unhide HCE _ hT2))
        have P1 := hide (unhide PL A Q hA6 hQ6 X)
        have P2 := hide (unhide PL A Bb hA6 hB6 X)
        have A1 := hide (unhide AB (o6 Bb 0) (o6 Bb 1) (o6 Bb 2) (l[6 * A + Q]?.getD 0) (l[6 * A + Bb]?.getD 0) X)
        have HQ2 := hide q2
        clear hXB hXn hX d0 d1 d2 d3 f0 f1 f2 f3 z0 z9 q2 AB PL
        have HPAY : Hid (pays l x.val = abv [o6 Bb 0, o6 Bb 1, o6 Bb 2] (l[6 * A + Q]?.getD 0) (l[6 * A + Bb]?.getD 0)) := by
          show pays l x.val = _
          obtain ⟨u1, u2, u3⟩ := unhide HX
          unfold pays whoO told0 told1
          rw [if_neg (by rw [unhide HP]; omega), if_neg (by rw [unhide HP]; omega), if_neg (by rw [unhide HP]; omega), ← u1, ← u2, ← u3]
        generalize l[6 * A + Q]?.getD 0 = v1 at *
        generalize l[6 * A + Bb]?.getD 0 = v2 at *
        generalize hT1' : 6 * A + Q = T1 at *
        generalize hT2' : 6 * A + Bb = T2 at *
        have hAi : (Bb : Int) < 6 := by omega
        have hT1i : (T1 : Int) < 36 := by omega
        have hT2i : (T2 : Int) < 36 := by omega
        refine round_quiet (by kernel_rfl) (by kernel_rfl) (by kernel_rfl) ?_
        iterate 19 (quiet_step (first | with_reducible exact unhide P1 _ _ | with_reducible exact unhide P2 _ _ | with_reducible exact unhide A1 _ _))
        refine wpQuiet_nil ?_
        intro _ hw'
        obtain ⟨⟨dq, osq⟩, hw''⟩ := hw'
        subst hw''
        have hbq := below_regrown X dq osq
        obtain ⟨Y, hY⟩ : ∃ y, y = Sort.grow (redrawn X dq) osq := ⟨_, rfl⟩
        show Exit.then _ _ _ _ (Sort.grow (redrawn X dq) osq)
        rw [← hY] at hbq ⊢
        clear hY
        have HY : Hid (Below W.heap.size W Y) := (unhide HX2).1.trans (hbq.mono (unhide HX2).1.size)
        clear hbq g0 g1 g2 g4 g5 g6 g7 g8 g9 k1 k2
        generalize hV : abv [o6 Bb 0, o6 Bb 1, o6 Bb 2] v1 v2 = V
        have HV := hide hV
        clear hV
        cases V with
        | false =>
          gi_wp2
          have hk := keeps_below (unhide HY)
          refine ⟨hk.from _, hk.walks, fun x' hx' => ?_, (unhide HL).2.2.2.1.trans ((unhide HY).mono (unhide HL).2.2.2.1.size)⟩
          rcases List.mem_append.1 hx' with h' | h'
          · exact hp x' h'
          · obtain rfl : x' = x := by simpa using h'
            exact (unhide HPAY).trans (unhide HV)
        | true =>
          obtain ⟨lw, l1, l2, hB, hr, hl⟩ := unhide HL
          have hyb := unhide HY
          have ly : Lay (some ⟨b, off, none⟩) 36 c w Y false 0 0 0 0 0 := (lw.later hB lw.size).later hyb (Nat.le_trans lw.size hB.size)
          have q2' := (hyb.block _ hBx).trans (unhide HQ2)
          have HLY := hide ly
          have HQY := hide q2'
          clear lw l1 l2 hB hr hl hyb ly q2'
          gi_wp2
          obtain ⟨C, hC⟩ : ∃ C : Array Bool → World → Prop, C = fun listed Z => (∃ t x1 x2 x3 x4 x5, Lay (some ⟨b, off, none⟩) 36 c w Z t x1 x2 x3 x4 x5 ∧ (listed.getD 10 false = true → t = false) ∧ (listed.getD 11 false = true → x1 = (A : Int)) ∧ (listed.getD 12 false = true → x2 = (Bb : Int)) ∧ (listed.getD 13 false = true → x3 = 1) ∧ (listed.getD 14 false = true → x4 = (Q : Int)) ∧ (listed.getD 15 false = true → x5 = 0)) ∧ Z.heap[Bx]? = some (.cells #[.int .i64 (A : Int), .int .i64 (Bb : Int), .int .i64 1, .int .i64 (Q : Int)] 65 (0, 0)) ∧ KeepsOthers W Z := ⟨_, rfl⟩
          have hC0 : ∀ listed, (∀ j, listed.getD j false = true → False) → C listed Y.drew := fun listed hno => by
            rw [hC]
            exact ⟨⟨false, 0, 0, 0, 0, 0, ⟨(unhide HLY).below.drew, (unhide HLY).size, (unhide HLY).b0, (unhide HLY).b1, (unhide HLY).b2, (unhide HLY).b3, (unhide HLY).b4, (unhide HLY).b5, (unhide HLY).b6⟩, fun h => (hno _ h).elim, fun h => (hno _ h).elim, fun h => (hno _ h).elim, fun h => (hno _ h).elim, fun h => (hno _ h).elim, fun h => (hno _ h).elim⟩, unhide HQY, (keeps_below (unhide HY)).trans (KeepsOthers.drew _)⟩
          have hCc : ∀ listed Z, C listed Z → ∀ j v, (#[.int .i64 (A : Int), .int .i64 (Bb : Int), .int .i64 1, .int .i64 (Q : Int)] : Array Value)[j]? = some v → Z.cell? ⟨Bx, j, none⟩ = some v := fun listed Z hZ j v hv => by
            rw [hC] at hZ
            exact (cell_in hZ.2.1 hv).1
          have hCl : ∀ i, i < 10 → ∀ listed Z, C listed Z → C (listed.setIfInBounds i true) Z := fun i hi listed Z hZ => by
            rw [hC] at hZ ⊢
            obtain ⟨⟨t, x1, x2, x3, x4, x5, hz, g0, g1, g2, g3, g4, g5⟩, hz2, hz3⟩ := hZ
            exact ⟨⟨t, x1, x2, x3, x4, x5, hz, fun h => g0 (by rwa [getD_set_ne false (by omega)] at h), fun h => g1 (by rwa [getD_set_ne false (by omega)] at h), fun h => g2 (by rwa [getD_set_ne false (by omega)] at h), fun h => g3 (by rwa [getD_set_ne false (by omega)] at h), fun h => g4 (by rwa [getD_set_ne false (by omega)] at h), fun h => g5 (by rwa [getD_set_ne false (by omega)] at h)⟩, hz2, hz3⟩
          refine round_indexed C (by kernel_rfl) (by kernel_rfl) (by kernel_rfl) (hC0 _ (fun j h => by rw [getD_replicate_false] at h; cases h)) ?_
          refine ⟨.pointer (some ⟨Bx, 0, none⟩), ⟨by kernel_rfl, fun listed Z hz hZ => ?_⟩, ?_⟩
          · simp [upI, go_sem]
            exact hCl 0 (by omega) listed Z hZ
          simp only [Act.put, List.setIfInBounds_toArray, List.set_cons_succ, List.set_cons_zero]
          refine ⟨.pointer (some ⟨Bx, 0, none⟩), ⟨by kernel_rfl, fun listed Z hz hZ => ?_⟩, ?_⟩
          · simp [upI, go_sem]
            exact hCl 1 (by omega) listed Z hZ
          simp only [Act.put, List.setIfInBounds_toArray, List.set_cons_succ, List.set_cons_zero]
          refine ⟨.int .i64 (A : Int), ⟨by kernel_rfl, fun listed Z hz hZ => ?_⟩, ?_⟩
          · simp [upI, go_sem, hCc listed Z hZ 0 _ rfl]
            exact hCl 2 (by omega) listed Z hZ
          simp only [Act.put, List.setIfInBounds_toArray, List.set_cons_succ, List.set_cons_zero]
          refine ⟨.pointer (some ⟨Bx, 0, none⟩), ⟨by kernel_rfl, fun listed Z hz hZ => ?_⟩, ?_⟩
          · simp [upI, go_sem]
            exact hCl 3 (by omega) listed Z hZ
          simp only [Act.put, List.setIfInBounds_toArray, List.set_cons_succ, List.set_cons_zero]
          refine ⟨.pointer (some ⟨Bx, 1, none⟩), ⟨by kernel_rfl, fun listed Z hz hZ => ?_⟩, ?_⟩
          · simp [upI, go_sem]
            exact hCl 4 (by omega) listed Z hZ
          simp only [Act.put, List.setIfInBounds_toArray, List.set_cons_succ, List.set_cons_zero]
          refine ⟨.int .i64 (Bb : Int), ⟨by kernel_rfl, fun listed Z hz hZ => ?_⟩, ?_⟩
          · simp [upI, go_sem, hCc listed Z hZ 1 _ rfl]
            exact hCl 5 (by omega) listed Z hZ
          simp only [Act.put, List.setIfInBounds_toArray, List.set_cons_succ, List.set_cons_zero]
          refine ⟨.pointer (some ⟨Bx, 2, none⟩), ⟨by kernel_rfl, fun listed Z hz hZ => ?_⟩, ?_⟩
          · simp [upI, go_sem]
            exact hCl 6 (by omega) listed Z hZ
          simp only [Act.put, List.setIfInBounds_toArray, List.set_cons_succ, List.set_cons_zero]
          refine ⟨.int .i64 1, ⟨by kernel_rfl, fun listed Z hz hZ => ?_⟩, ?_⟩
          · simp [upI, go_sem, hCc listed Z hZ 2 _ rfl]
            exact hCl 7 (by omega) listed Z hZ
          simp only [Act.put, List.setIfInBounds_toArray, List.set_cons_succ, List.set_cons_zero]
          refine ⟨.pointer (some ⟨Bx, 3, none⟩), ⟨by kernel_rfl, fun listed Z hz hZ => ?_⟩, ?_⟩
          · simp [upI, go_sem]
            exact hCl 8 (by omega) listed Z hZ
          simp only [Act.put, List.setIfInBounds_toArray, List.set_cons_succ, List.set_cons_zero]
          refine ⟨.int .i64 (Q : Int), ⟨by kernel_rfl, fun listed Z hz hZ => ?_⟩, ?_⟩
          · simp [upI, go_sem, hCc listed Z hZ 3 _ rfl]
            exact hCl 9 (by omega) listed Z hZ
          simp only [Act.put, List.setIfInBounds_toArray, List.set_cons_succ, List.set_cons_zero]
          refine ⟨undef, ⟨by kernel_rfl, fun listed Z hsz hZ => ?_⟩, ?_⟩
          · rw [hC] at hZ
            obtain ⟨⟨t, x1, x2, x3, x4, x5, hz, g0, g1, g2, g3, g4, g5⟩, hz2, hz3⟩ := hZ
            obtain ⟨e1, f1⟩ := cell_in hz.b1 (j := 0) rfl
            simp [upI, go_sem, e1, f1]
            rw [hC]
            exact ⟨⟨_, _, _, _, _, _, hz.set1 _, fun _ => rfl, fun h => g1 (by rwa [getD_set_ne false (by omega)] at h), fun h => g2 (by rwa [getD_set_ne false (by omega)] at h), fun h => g3 (by rwa [getD_set_ne false (by omega)] at h), fun h => g4 (by rwa [getD_set_ne false (by omega)] at h), fun h => g5 (by rwa [getD_set_ne false (by omega)] at h)⟩, by rw [Below.heap_setCell _ _ _ _ (by show Bx ≠ w.heap.size + 1; have := hs7; omega)]; exact hz2, hz3.trans (KeepsOthers.setCell _ _ _)⟩
          simp only [Act.put]
          refine ⟨undef, ⟨by kernel_rfl, fun listed Z hsz hZ => ?_⟩, ?_⟩
          · rw [hC] at hZ
            obtain ⟨⟨t, x1, x2, x3, x4, x5, hz, g0, g1, g2, g3, g4, g5⟩, hz2, hz3⟩ := hZ
            obtain ⟨e1, f1⟩ := cell_in hz.b2 (j := 0) rfl
            simp [upI, go_sem, e1, f1]
            rw [hC]
            exact ⟨⟨_, _, _, _, _, _, hz.set2 _, fun h => g0 (by rwa [getD_set_ne false (by omega)] at h), fun _ => rfl, fun h => g2 (by rwa [getD_set_ne false (by omega)] at h), fun h => g3 (by rwa [getD_set_ne false (by omega)] at h), fun h => g4 (by rwa [getD_set_ne false (by omega)] at h), fun h => g5 (by rwa [getD_set_ne false (by omega)] at h)⟩, by rw [Below.heap_setCell _ _ _ _ (by show Bx ≠ w.heap.size + 1 + 1; have := hs7; omega)]; exact hz2, hz3.trans (KeepsOthers.setCell _ _ _)⟩
          simp only [Act.put]
          refine ⟨undef, ⟨by kernel_rfl, fun listed Z hsz hZ => ?_⟩, ?_⟩
          · rw [hC] at hZ
            obtain ⟨⟨t, x1, x2, x3, x4, x5, hz, g0, g1, g2, g3, g4, g5⟩, hz2, hz3⟩ := hZ
            obtain ⟨e1, f1⟩ := cell_in hz.b3 (j := 0) rfl
            simp [upI, go_sem, e1, f1]
            rw [hC]
            exact ⟨⟨_, _, _, _, _, _, hz.set3 _, fun h => g0 (by rwa [getD_set_ne false (by omega)] at h), fun h => g1 (by rwa [getD_set_ne false (by omega)] at h), fun _ => rfl, fun h => g3 (by rwa [getD_set_ne false (by omega)] at h), fun h => g4 (by rwa [getD_set_ne false (by omega)] at h), fun h => g5 (by rwa [getD_set_ne false (by omega)] at h)⟩, by rw [Below.heap_setCell _ _ _ _ (by show Bx ≠ w.heap.size + 1 + 1 + 1; have := hs7; omega)]; exact hz2, hz3.trans (KeepsOthers.setCell _ _ _)⟩
          simp only [Act.put]
          refine ⟨undef, ⟨by kernel_rfl, fun listed Z hsz hZ => ?_⟩, ?_⟩
          · rw [hC] at hZ
            obtain ⟨⟨t, x1, x2, x3, x4, x5, hz, g0, g1, g2, g3, g4, g5⟩, hz2, hz3⟩ := hZ
            obtain ⟨e1, f1⟩ := cell_in hz.b4 (j := 0) rfl
            simp [upI, go_sem, e1, f1]
            rw [hC]
            exact ⟨⟨_, _, _, _, _, _, hz.set4 _, fun h => g0 (by rwa [getD_set_ne false (by omega)] at h), fun h => g1 (by rwa [getD_set_ne false (by omega)] at h), fun h => g2 (by rwa [getD_set_ne false (by omega)] at h), fun _ => rfl, fun h => g4 (by rwa [getD_set_ne false (by omega)] at h), fun h => g5 (by rwa [getD_set_ne false (by omega)] at h)⟩, by rw [Below.heap_setCell _ _ _ _ (by show Bx ≠ w.heap.size + 1 + 1 + 1 + 1; have := hs7; omega)]; exact hz2, hz3.trans (KeepsOthers.setCell _ _ _)⟩
          simp only [Act.put]
          refine ⟨undef, ⟨by kernel_rfl, fun listed Z hsz hZ => ?_⟩, ?_⟩
          · rw [hC] at hZ
            obtain ⟨⟨t, x1, x2, x3, x4, x5, hz, g0, g1, g2, g3, g4, g5⟩, hz2, hz3⟩ := hZ
            obtain ⟨e1, f1⟩ := cell_in hz.b5 (j := 0) rfl
            simp [upI, go_sem, e1, f1]
            rw [hC]
            exact ⟨⟨_, _, _, _, _, _, hz.set5 _, fun h => g0 (by rwa [getD_set_ne false (by omega)] at h), fun h => g1 (by rwa [getD_set_ne false (by omega)] at h), fun h => g2 (by rwa [getD_set_ne false (by omega)] at h), fun h => g3 (by rwa [getD_set_ne false (by omega)] at h), fun _ => rfl, fun h => g5 (by rwa [getD_set_ne false (by omega)] at h)⟩, by rw [Below.heap_setCell _ _ _ _ (by show Bx ≠ w.heap.size + 1 + 1 + 1 + 1 + 1; have := hs7; omega)]; exact hz2, hz3.trans (KeepsOthers.setCell _ _ _)⟩
          simp only [Act.put]
          refine ⟨undef, ⟨by kernel_rfl, fun listed Z hsz hZ => ?_⟩, ?_⟩
          · rw [hC] at hZ
            obtain ⟨⟨t, x1, x2, x3, x4, x5, hz, g0, g1, g2, g3, g4, g5⟩, hz2, hz3⟩ := hZ
            obtain ⟨e1, f1⟩ := cell_in hz.b6 (j := 0) rfl
            simp [upI, go_sem, e1, f1]
            rw [hC]
            exact ⟨⟨_, _, _, _, _, _, hz.set6 _, fun h => g0 (by rwa [getD_set_ne false (by omega)] at h), fun h => g1 (by rwa [getD_set_ne false (by omega)] at h), fun h => g2 (by rwa [getD_set_ne false (by omega)] at h), fun h => g3 (by rwa [getD_set_ne false (by omega)] at h), fun h => g4 (by rwa [getD_set_ne false (by omega)] at h), fun _ => rfl⟩, by rw [Below.heap_setCell _ _ _ _ (by show Bx ≠ w.heap.size + 1 + 1 + 1 + 1 + 1 + 1; have := hs7; omega)]; exact hz2, hz3.trans (KeepsOthers.setCell _ _ _)⟩
          simp only [Act.put]
          intro listed Z hall hZ
          rw [hC] at hZ
          have HZ := hide hZ
          have HALL : Hid (∀ j, j < 16 → listed.getD j false = true) := hall
          clear hZ hall
          gi_wp2
          obtain ⟨⟨t, x1, x2, x3, x4, x5, hz, g0, g1, g2, g3, g4, g5⟩, hz2, hz3⟩ := unhide HZ
          have ha := unhide HALL
          have hlay := hz
          rw [g0 (ha 10 (by omega)), g1 (ha 11 (by omega)), g2 (ha 12 (by omega)), g3 (ha 13 (by omega)), g4 (ha 14 (by omega)), g5 (ha 15 (by omega))] at hlay
          refine ⟨hz3.from _, rfl, pre, x, rfl, hp, (unhide HPAY).trans (unhide HV), ?_⟩
          rw [(unhide HE).1, (unhide HE).2.1, (unhide HE).2.2, unhide HEP]
          exact hlay
    case done =>
      rintro D xs W hD hS ⟨hp, hB⟩ hK
      obtain ⟨lw, l1, l2, l3⟩ := unhide HW2
      have ly := lw.later hB lw.size
      obtain ⟨e1, f1⟩ := cell_in ly.b1 (j := 0) rfl
      obtain ⟨e2, f2⟩ := cell_in ly.b2 (j := 0) rfl
      obtain ⟨e3, f3⟩ := cell_in ly.b3 (j := 0) rfl
      obtain ⟨e4, f4⟩ := cell_in ly.b4 (j := 0) rfl
      obtain ⟨e5, f5⟩ := cell_in ly.b5 (j := 0) rfl
      obtain ⟨e6, f6⟩ := cell_in ly.b6 (j := 0) rfl
      have HLY := hide ly
      have HBB := hide hB
      clear lw l1 l2 l3 ly hB
      have hK2 : ∀ (A : World) (p : Addr) (v : Value), A.heap[D]? = some (.deferred (some [])) → (A.setCell p v).heap[D]? = some (.deferred (some [])) := fun A p v h => (KeepsOthers.setCell A p v).same D _ h rfl
      have HD7 : Hid (w.heap.size + 7 ≤ D) := Nat.le_trans (unhide HW2).1.size hD
      go_wp2_with fail
      refine ⟨by simp, .inl ⟨_, _, rfl, run_takeDeferred (hK2 _ _ _ (hK2 _ _ _ (hK2 _ _ _ (hK2 _ _ _ (hK2 _ _ _ (hK2 _ _ _ hK)))))), ?_⟩⟩
      have ly2 := ((((((unhide HLY).set1 true).set2 0).set3 0).set4 0).set5 0).set6 0
      have ly3 := ly2.put (.deferred none) (unhide HD7)
      exact ⟨_, results_lay ly3 _ rfl rfl rfl rfl rfl rfl, ⟨true, 0, 0, 0, 0, rfl, fun _ => .inl ⟨rfl, rfl, rfl, rfl, rfl, fun x => hp x (by rw [hS]; exact List.mem_iff_getElem?.2 ⟨_, allF_at x⟩)⟩, fun e => absurd rfl e⟩, ly3.below⟩
    case stop =>
      rintro D c' lst W hD ⟨z, hz⟩ ⟨rfl, pre, x, e1, e2, e3, ly⟩ hK
      have hxz : x = z ∧ pre = allF.take z.val := by
        rw [hz, List.take_add_one, allF_at] at e1
        have := List.append_inj' e1 (by simp)
        exact ⟨by have := this.2; simpa using this.symm, this.1.symm⟩
      refine wpIn_wide.2 ?_
      go_wp2_with fail
      refine ⟨by simp, .inl ⟨_, _, rfl, run_takeDeferred hK, ?_⟩⟩
      have ly3 := ly.put (.deferred none) (Nat.le_trans (unhide HW2).1.size hD)
      refine ⟨_, results_lay ly3 _ rfl rfl rfl rfl rfl rfl, ⟨false, _, _, _, _, rfl, fun _ => .inr ⟨rfl, x, e3, fun y hy => e2 y ?_, rfl, rfl, rfl, rfl⟩, fun e => absurd rfl e⟩, ly3.below⟩
      rw [hxz.2]
      refine List.mem_iff_getElem?.2 ⟨y.val, ?_⟩
      rw [List.getElem?_take_of_lt (by rw [← hxz.1]; exact hy)]
      exact allF_at y
  · have hne : (r == 0) = false := by simp [h0]
    have HNE := hide h0
    clear h0
    obtain ⟨e1, f1⟩ := cell_in (unhide HW).b1 (j := 0) rfl
    obtain ⟨e2, f2⟩ := cell_in (unhide HW).b2 (j := 0) rfl
    obtain ⟨e3, f3⟩ := cell_in (unhide HW).b3 (j := 0) rfl
    obtain ⟨e4, f4⟩ := cell_in (unhide HW).b4 (j := 0) rfl
    obtain ⟨e5, f5⟩ := cell_in (unhide HW).b5 (j := 0) rfl
    obtain ⟨e6, f6⟩ := cell_in (unhide HW).b6 (j := 0) rfl
    go_enter Try.func17, Try.ntmps17
    go_wp2_with fail
    rw [← hW0]
    have HW0 := hide hW0
    clear hW0
    refine (unhide CC).mono ?_
    rintro e w1 ⟨rfl, hw1⟩
    subst w1
    go_wp2_with fail
    (try simp only [Exit.inBlock, Exit.then])
    have ly2 := ((((((unhide HW).set1 false).set2 0).set3 0).set4 0).set5 0).set6 r
    exact bodyPost_ret (results_lay ly2 _ rfl rfl rfl rfl rfl rfl) rfl ⟨⟨false, 0, 0, 0, 0, rfl, fun e => absurd e (unhide HNE), fun _ => ⟨rfl, rfl, rfl, rfl, rfl⟩⟩, ly2.below⟩
end Go.Proofs.Ytbbbjpkomnhofaa
