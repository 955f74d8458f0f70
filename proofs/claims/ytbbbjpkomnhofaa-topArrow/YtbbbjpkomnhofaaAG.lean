import Derived.Test.YtbbbjpkomnhofaaM
namespace Go.Proofs.Ytbbbjpkomnhofaa
open Go.RowKit Go.Shelf
attribute [local go_sem] Oper.semAt_some
def mkD (D : Nat) : Deferred := { target := .collected D, args := #[] }
theorem leaves_marks {F : Fence} {n : Nat} {P : Program} {fn : Func} {tmps : Array Value} {R : Ending → World → Prop} : ∀ (Ds : List Nat) (W : World), Ds.Nodup → (∀ D ∈ Ds, W.heap[D]? = some (.deferred (some []))) →
    (∀ W', Keep (fun b => b ∉ Ds) W W' → LeavesInM F n P fn tmps R [] .returning W') → LeavesInM F n P fn tmps R (Ds.map mkD) .returning W
  | [], W, _, _, h => h W (Keep.refl _ _)
  | D :: Ds, W, hn, hm, h => by
    refine ⟨by simp, .inl ⟨D, _, rfl, run_takeDeferred (hm D (by simp)), leaves_marks Ds _ (List.nodup_cons.1 hn).2 (fun D' hD' => ?_) (fun W' hk => ?_)⟩⟩
    · rw [World.putObj_heap_other (fun e => (List.nodup_cons.1 hn).1 (by rw [← e]; exact hD'))]
      exact hm D' (by simp [hD'])
    · exact h W' ((Keep.putObj _ (by simp)).trans (hk.sub fun b hb => fun h' => hb (by simp [h'])))
theorem keep_own {β : Type} {B : Nat} {S : Nat → Prop} {X : World} (hS : ∀ b, S b → b < B) (hB : B ≤ X.heap.size) : OwnFrom B (fun (_ : β) W => Keep S X W) :=
  fun _ W W' _ hs hg hr => ⟨hg.os.trans hs.os, hg.tape.trans hs.tape, hg.output.trans hs.output, Nat.le_trans hs.size hg.size, fun b hb => (hg.block b (by have := hS b hb; have := hs.size; omega) (fun e => by have := (hr b e.symm).1; have := hS b hb; omega)).trans (hs.block b hb)⟩
theorem block_own {β : Type} {B b : Nat} {o : Obj} (hb : b < B) : OwnFrom B (fun (_ : β) W => W.heap[b]? = some o) :=
  fun _ W _ _ hs hg hr => (hg.block b (Array.getElem?_eq_some_iff.1 hs).1 (fun e => by have := (hr b e.symm).1; omega)).trans hs
/-- Where two results lie. -/
structure Ld (w W : World) (t : Bool) (r : Int) : Prop where
  below : Below w.heap.size w W
  size : w.heap.size + 2 ≤ W.heap.size
  b0 : W.heap[w.heap.size]? = some (.cells #[.bool t] 4 (0, 0))
  b1 : W.heap[w.heap.size + 1]? = some (.cells #[.int .i64 r] 24 (0, 0))
theorem Ld.keep {w W W' : World} {t : Bool} {r : Int} (h : Ld w W t r) {S : Nat → Prop} (hk : Keep S W W') (hS : ∀ b, b < w.heap.size + 2 → S b) : Ld w W' t r :=
  ⟨h.below.trans (hk.sub (T := fun b => b < w.heap.size) fun b hb => hS b (by omega)).below, Nat.le_trans h.size hk.size, (hk.block _ (hS _ (by omega))).trans h.b0, (hk.block _ (hS _ (by omega))).trans h.b1⟩
theorem Ld.later {w W W' : World} {t : Bool} {r : Int} (h : Ld w W t r) {B : Nat} (hb : Below B W W') (hB : w.heap.size + 2 ≤ B) : Ld w W' t r :=
  h.keep (Keep.of_below hb (S := fun b => b < B) fun _ h => h) (fun _ h => by omega)
theorem Ld.set0 {w W : World} {t : Bool} {r : Int} (h : Ld w W t r) (y : Bool) : Ld w (W.setCell ⟨w.heap.size, 0, none⟩ (.bool y)) y r :=
  ⟨h.below.setCell (Nat.le_refl _) _, by simpa using h.size, by rw [heap_setCell_same _ _ _ _ _ _ h.b0]; rfl, by rw [Below.heap_setCell _ _ _ _ (by show _ ≠ w.heap.size; omega)]; exact h.b1⟩
theorem Ld.set1 {w W : World} {t : Bool} {r : Int} (h : Ld w W t r) (y : Int) : Ld w (W.setCell ⟨w.heap.size + 1, 0, none⟩ (.int .i64 y)) t y :=
  ⟨h.below.setCell (by show _ ≤ w.heap.size + 1; omega) _, by simpa using h.size, by rw [Below.heap_setCell _ _ _ _ (by show _ ≠ w.heap.size + 1; omega)]; exact h.b0, by rw [heap_setCell_same _ _ _ _ _ _ h.b1]; rfl⟩
theorem ld_new (w : World) : Ld w ((w.alloc (.cells #[.bool false] 4)).alloc (.cells #[.int .i64 0] 24)) false 0 :=
  ⟨((Below.refl _ w).alloc (Nat.le_refl _) _).alloc (by simp) _, by simp, by rw [Below.heap_alloc _ _ _ (by simp)]; exact World.alloc_heap_new _ _, alloc_at _ (by simp)⟩
theorem results_ld {fn : Func} (hfn : fn.results = #[.cell 2 4, .cell 3 24]) {w W : World} {t : Bool} {r : Int} (h : Ld w W t r) (tmps : Array Value) (h2 : tmps[2]?.getD undef = .pointer (some ⟨w.heap.size, 0, none⟩)) (h3 : tmps[3]?.getD undef = .pointer (some ⟨w.heap.size + 1, 0, none⟩)) :
    (results fn tmps).run Try.prog W = .ok (.tuple #[.bool t, .int .i64 r]) W := by
  have e1 := (cell_in h.b0 (j := 0) rfl).1
  have e2 := (cell_in h.b1 (j := 0) rfl).1
  simp [results, hfn, go_sem, asAddr, h2, h3, e1, e2]
theorem eq34 (a b c d : Bool) (X : World) : (Op.equalIn 10000 34 (.agg #[.bool a, .bool b]) (.agg #[.bool c, .bool d])).run Try.prog X = .ok (a == c && b == d) X := by
  cases a <;> cases b <;> cases c <;> cases d <;> kernel_rfl
/-- The order of the k-th number, as the program looks at it. -/
def av (k : Nat) (x y : Int) : Bool := abv [o6 k 0, o6 k 1, o6 k 2] x y
def agB (l : List Int) (i : Nat) (p : Pr) : Prop := av (i / 6) (p1 p) (p2 p) = true → av (i % 6) (p1 p) (p2 p) = true → av (rl l i) (p1 p) (p2 p) = true
def AgPost (r : Int) (G : Prop) (w : World) (e : Ending) (w' : World) : Prop :=
  (∃ t : Bool, e = .returned (.tuple #[.bool t, .int .i64 r]) ∧ (r = 0 → (t = true ↔ G)) ∧ (r ≠ 0 → t = false)) ∧ Below w.heap.size w w'
set_option maxRecDepth 100000 in
set_option maxHeartbeats 4000000 in
theorem agrees_any (a : Option Addr) (n c : Nat) (l : List Int) (w : World) (h : Ints w a n c l) :
    Calls Try.prog 12 #[.slice a n c] w fun e w' => AgPost (ruE l 6) (∀ i, i < 36 → ∀ p : Pr, agB l i p) w e w' := by
  have mx : Try.prog.follows .mixedOrders = true := by kernel_rfl
  obtain ⟨W0, hW0⟩ : ∃ y, y = (w.alloc (.cells #[.bool false] 4)).alloc (.cells #[.int .i64 0] 24) := ⟨_, rfl⟩
  have HQ0 : Hid (Ld w W0 false 0) := by rw [hW0]; exact ld_new w
  have CC := hide (made_any a n c l W0 (h.later (unhide HQ0).below))
  clear h
  obtain ⟨P0, hP0⟩ : ∃ P0, P0 = arr (List.replicate 108 0) := ⟨_, rfl⟩
  have hz : ∀ X : World, (zeroValue 47).run Try.prog X = .ok (.agg P0) X := fun X => by rw [hP0]; kernel_rfl
  have HP0 := hide hP0
  clear hP0
  have HSZ : Hid (∀ cs : List Int, cs.length = 108 → (Try.prog.info? 47).map (·.size) = some (arr cs).size) := fun cs hc => by
    rw [show (arr cs).size = 108 by simp [arr, hc]]
    kernel_rfl
  have HAL : Hid (∀ cs : List Int, (arr cs).all (·.oneCell') = true) := fun cs => by simp [arr, iv, Value.oneCell']
  have HS0 : Hid (∀ cs : List Int, cs.length = 108 → P0.size = (arr cs).size) := fun cs hc => by
    rw [unhide HP0]
    simp [arr, hc]
  generalize ruE l 6 = r at *
  by_cases h0 : r = 0
  · subst h0
    refine (callsIn_wide (n := 9)).1 ?_
    refine callsIn_of_wp_marks Try.func12 rfl trivial ?_
    simp only [Try.ntmps12, List.size_toArray, List.length_cons, List.length_nil, Nat.reduceAdd, Nat.reduceSub, Array.replicate_succ, Array.replicate_zero, List.push_toArray, List.append_toArray, List.nil_append, List.cons_append]
    refine wpIn_wide.2 ?_
    go_wp2_with fail
    rw [← hW0]
    have HW0 := hide hW0
    clear hW0
    refine (unhide CC).mono ?_
    rintro e w1 ⟨⟨cs, rfl, hl, hm⟩, hb1⟩
    have HM := hide (hm rfl)
    have HL1 := hide ((unhide HQ0).later hb1 (unhide HQ0).size)
    clear hm hb1
    have H1 := hide (unhide HSZ cs hl)
    have H2 := hide (unhide HS0 cs hl)
    have H3 := hide (unhide HAL cs)
    have HCS : Hid (∀ i, i < 108 → (arr cs)[i]? = some (.int .i64 (cs[i]?.getD 0))) := fun i hi => arr_at (getD_some (by omega))
    generalize arr cs = CS at *
    go_wp2_with (refine wpList_store_row rfl 47 (.tmp 4) (.tmp 14) rfl w1.heap.size CS rfl rfl 47 P0 (World.alloc_heap_new _ _) (unhide H1) (unhide H2) (unhide H3) ?_)
    obtain ⟨W2, hW2⟩ : ∃ y, y = (w1.alloc (.cells P0 47)).setRow w1.heap.size CS := ⟨_, rfl⟩
    obtain ⟨B4, hB4⟩ : ∃ y, y = w1.heap.size := ⟨_, rfl⟩
    rw [← hW2, ← hB4]
    have HW2 : Hid (Ld w W2 false 0 ∧ w.heap.size + 2 ≤ B4 ∧ W2.heap.size = B4 + 1 ∧ W2.heap[B4]? = some (.cells CS 47 (0, 0))) := by
      have hr := setRow_heap (w1.alloc (.cells P0 47)) w1.heap.size _ CS _ _ (World.alloc_heap_new _ _)
      rw [hB4]
      rw [hW2]
      exact ⟨(unhide HL1).later (below_setRow ((Below.refl _ w1).alloc (Nat.le_refl _) _) (Nat.le_refl _) _) (unhide HL1).size, (unhide HL1).size, by simp [World.setRow], hr⟩
    clear hW2 hB4
    refine (profiles_any _).mono ?_
    rintro e w3 ⟨rfl, hb3⟩
    have HIX : Hid (∀ k : Nat, k < 36 → ∀ X : World, (Instr.index 52 (.agg (arr (pfI 36))) (.int .i64 k)).run Try.prog X = .ok (.agg #[.int .i64 (o6 (k / 6) 0), .int .i64 (o6 (k / 6) 1), .int .i64 (o6 (k / 6) 2), .int .i64 (o6 (k % 6) 0), .int .i64 (o6 (k % 6) 1), .int .i64 (o6 (k % 6) 2)]) X) := index36
    generalize arr (pfI 36) = PF at *
    have HW3 : Hid (Ld w w3 false 0 ∧ w.heap.size + 2 ≤ B4 ∧ B4 + 2 ≤ w3.heap.size ∧ w3.heap[B4]? = some (.cells CS 47 (0, 0)) ∧ w3.heap[B4 + 1]? = some (.cells #[.bool true, .bool true] 34 (0, 0))) := by
      obtain ⟨q1, q2, q3, q4⟩ := unhide HW2
      have hs : (W2.alloc (.cells #[.bool true, .bool true] 34)).heap.size = B4 + 2 := by simp; omega
      have hz := hb3.size
      rw [hs] at hb3 hz
      have ha := (Below.refl W2.heap.size W2).alloc (Nat.le_refl _) (.cells #[.bool true, .bool true] 34)
      refine ⟨(q1.later ha q1.size).later hb3 (by omega), q2, hz, ?_, ?_⟩
      · rw [hb3.block _ (by omega), ha.block _ (by omega)]; exact q4
      · rw [hb3.block _ (by omega)]; exact alloc_at _ (by omega)
    clear hb3
    go_wp2_with fail
    refine wp_loop (fun a' W => ∃ (k : Nat) (Ds : List Nat) (u7 u8 u22 u23 u24 u25 u43 : Value), k ≤ 36 ∧ (Ld w W false 0 ∧ w.heap.size + 2 ≤ B4 ∧ B4 + 2 ≤ W.heap.size ∧ W.heap[B4]? = some (.cells CS 47 (0, 0)) ∧ W.heap[B4 + 1]? = some (.cells #[.bool true, .bool true] 34 (0, 0))) ∧ Ds.Nodup ∧ (∀ D ∈ Ds, B4 + 2 ≤ D ∧ W.heap[D]? = some (.deferred (some []))) ∧ (∀ i, i < k → ∀ p : Pr, agB l i p) ∧ a' = { tmps := #[.slice a n c, undef, .pointer (some ⟨w.heap.size, 0, none⟩), .pointer (some ⟨w.heap.size + 1, 0, none⟩), .pointer (some ⟨B4, 0, none⟩), .int .i64 0, .pointer (some ⟨B4 + 1, 0, none⟩), u7, u8, undef, undef, .tuple #[.agg CS, .int .i64 0], .slice a n c, .tuple #[.agg CS, .int .i64 0], .agg CS, .int .i64 0, .int .i64 0, .bool false, undef, .agg #[.bool true, .bool true], .agg PF, .int .i64 (k : Int), u22, u23, u24, u25, undef, undef, undef, undef, undef, undef, undef, undef, undef, undef, undef, undef, undef, undef, undef, undef, undef, u43], defers := Ds.map mkD }) (fun a' _ => 36 - (intOf (a'.tmps.getD 21 undef)).toNat) ?_ ?_
    · exact ⟨0, [], _, _, _, _, _, _, _, by omega, unhide HW3, List.nodup_nil, (fun D h => by cases h), fun i hi => by omega, rfl⟩
    rintro _ Wk ⟨k, Ds, u7, u8, u22, u23, u24, u25, u43, hk, hW, hnd, hD, hg, rfl⟩
    clear HW3
    by_cases hlt : k < 36
    · have hix := unhide HIX k hlt
      have HWW := hide hW
      have HND := hide (And.intro hnd hD)
      have HG := hide hg
      clear hW hnd hD hg
      go_wp2_with fail
      refine (pairs_any _).mono ?_
      rintro e w4 ⟨rfl, hw4⟩
      obtain ⟨W4, hW4⟩ : ∃ y, y = (Wk.alloc (.cells #[.int .i64 (k : Int)] 3)).alloc (.cells #[.int .i64 (o6 (k / 6) 0), .int .i64 (o6 (k / 6) 1), .int .i64 (o6 (k / 6) 2), .int .i64 (o6 (k % 6) 0), .int .i64 (o6 (k % 6) 1), .int .i64 (o6 (k % 6) 2)] 51) := ⟨_, rfl⟩
      rw [← hW4] at hw4
      subst hw4
      have HW4 : Hid (Below Wk.heap.size Wk w4 ∧ w4.heap.size = Wk.heap.size + 2 ∧ w4.heap[Wk.heap.size]? = some (.cells #[.int .i64 (k : Int)] 3 (0, 0)) ∧ w4.heap[Wk.heap.size + 1]? = some (.cells #[.int .i64 (o6 (k / 6) 0), .int .i64 (o6 (k / 6) 1), .int .i64 (o6 (k / 6) 2), .int .i64 (o6 (k % 6) 0), .int .i64 (o6 (k % 6) 1), .int .i64 (o6 (k % 6) 2)] 51 (0, 0))) := by
        rw [hW4]
        exact ⟨((Below.refl _ Wk).alloc (Nat.le_refl _) _).alloc (by simp) _, by simp, by rw [Below.heap_alloc _ _ _ (by simp)]; exact World.alloc_heap_new _ _, alloc_at _ (by simp)⟩
      clear hW4
      go_wp2_with fail
      refine (wpIn_wide (n := 9)).1 ?_
      refine wpIn_rangeFunc_ownG rfl (by omega) (gf := 38) (lb := #[]) rfl trivial (enters_of Try.func38 (by kernel_rfl) rfl) (pairs_stops 8 (by omega) w4) walksK_t walksK_b (Below.refl _ _) (fun _ => rfl)
        (fun pre W => (∀ p ∈ pre, agB l k p) ∧ Below w4.heap.size w4 W)
        (fun c' _ W => c' = .ret ∧ (∃ p : Pr, ¬ agB l k p) ∧ Ld w W false 0 ∧ Keep (fun b => b < w4.heap.size ∧ b ≠ w.heap.size ∧ b ≠ w.heap.size + 1) w4 W)
        (OwnFrom.and (ownFrom_pure _ _) (ownFrom_below (Nat.le_refl _) (Nat.le_refl _)))
        (fun c' s A B row hs hg hr => ⟨hs.1, hs.2.1, hs.2.2.1.later ((Below.refl w4.heap.size A).grown hg hs.2.2.2.size (fun k e => (hr k e).1)) (by have := (unhide HWW).2.2.1; have := (unhide HWW).2.1; have := (unhide HW4).2.1; omega), keep_own (β := Unit) (fun b hb => hb.1) (Nat.le_refl _) () A B row hs.2.2.2 hg hr⟩)
        ⟨(fun x hx => by cases hx), Below.refl _ _⟩
        (fun x => { tmps := #[.slice a n c, undef, .pointer (some ⟨w.heap.size, 0, none⟩), .pointer (some ⟨w.heap.size + 1, 0, none⟩), .pointer (some ⟨B4, 0, none⟩), .int .i64 0, .pointer (some ⟨B4 + 1, 0, none⟩), .pointer (some ⟨Wk.heap.size, 0, none⟩), .pointer (some ⟨Wk.heap.size + 1, 0, none⟩), .int .i64 (p1 x), .int .i64 (p2 x), .tuple #[.agg CS, .int .i64 0], .slice a n c, .tuple #[.agg CS, .int .i64 0], .agg CS, .int .i64 0, .int .i64 0, .bool false, undef, .agg #[.bool true, .bool true], .agg PF, .int .i64 (k : Int), .bool true, .int .i64 (k : Int), .agg #[.int .i64 (o6 (k / 6) 0), .int .i64 (o6 (k / 6) 1), .int .i64 (o6 (k / 6) 2), .int .i64 (o6 (k % 6) 0), .int .i64 (o6 (k % 6) 1), .int .i64 (o6 (k % 6) 2)], .func (.func 38) #[] #[], .int .i64 (p1 x), .int .i64 (p2 x), undef, undef, undef, undef, undef, undef, undef, undef, undef, undef, undef, undef, undef, undef, undef, u43], defers := [] }) ?assign ?body ?done ?stop
      case assign =>
        intro lp x W K hK
        rw [show prEnc x = #[.int .i64 (p1 x), .int .i64 (p2 x)] from rfl]
        gi_wp2
        exact hK
      case body =>
        rintro lp pre x W ⟨hp, hB⟩ hlen
        obtain ⟨q1, q2, q3, q4⟩ := unhide HW4
        obtain ⟨z1, z2, z3, z4, z5⟩ := unhide HWW
        have hm := (unhide HM).2 k hlt
        have HLX : Hid (Ld w W false 0) := (z1.later q1 (by omega)).later hB (by omega)
        have HKX : Hid (Keep (fun b => b < w4.heap.size ∧ b ≠ w.heap.size ∧ b ≠ w.heap.size + 1) w4 W) := Keep.of_below hB (fun b hb => hb.1)
        have y7 := (hB.block _ (by omega)).trans q3
        have y8 := (hB.block _ (by omega)).trans q4
        have y4 := (hB.block _ (by omega)).trans ((q1.block _ (by omega)).trans z4)
        have y6 := (hB.block _ (by omega)).trans ((q1.block _ (by omega)).trans z5)
        have g0 := cell_regrown (cell_in y8 (j := 0) rfl).1
        have g1 := cell_regrown (cell_in y8 (j := 1) rfl).1
        have g2 := cell_regrown (cell_in y8 (j := 2) rfl).1
        have g3 := cell_regrown (cell_in y8 (j := 3) rfl).1
        have g4 := cell_regrown (cell_in y8 (j := 4) rfl).1
        have g5 := cell_regrown (cell_in y8 (j := 5) rfl).1
        have g6 := cell_regrown (cell_in y7 (j := 0) rfl).1
        have g7 := cell_regrown (cell_in y6 (j := 0) rfl).1
        have g8 := cell_regrown (cell_in y6 (j := 1) rfl).1
        have h0 := cell_regrown (cell_in y4 (unhide HCS (k * 3 + 0) (by omega))).1
        have h1 := cell_regrown (cell_in y4 (unhide HCS (k * 3 + 1) (by omega))).1
        have h2 := cell_regrown (cell_in y4 (unhide HCS (k * 3 + 2) (by omega))).1
        rw [hm 0 (by omega)] at h0
        rw [hm 1 (by omega)] at h1
        rw [hm 2 (by omega)] at h2
        simp only [Nat.add_zero] at h0
        have PA : Hid (∀ d os, Calls Try.prog 28 #[.agg #[.int .i64 (o6 (k / 6) 0), .int .i64 (o6 (k / 6) 1), .int .i64 (o6 (k / 6) 2), .int .i64 (o6 (k % 6) 0), .int .i64 (o6 (k % 6) 1), .int .i64 (o6 (k % 6) 2)], .int .i64 (p1 x), .int .i64 (p2 x)] (Sort.grow (redrawn W d) os) fun e w'' => e = .returned (.agg #[.bool (av (k / 6) (p1 x) (p2 x)), .bool (av (k % 6) (p1 x) (p2 x))]) ∧ ∃ p : Regrown, w'' = Sort.grow (redrawn W p.d) p.os) := fun d os => Calls.regrown_of (answers_any _ _ _ _ _ _ _ _ _)
        have A1 : Hid (∀ d os, Calls Try.prog 29 #[.agg #[.int .i64 (o6 (rl l k) 0), .int .i64 (o6 (rl l k) 1), .int .i64 (o6 (rl l k) 2)], .int .i64 (p1 x), .int .i64 (p2 x)] (Sort.grow (redrawn W d) os) fun e w'' => e = .returned (.bool (av (rl l k) (p1 x) (p2 x))) ∧ ∃ p : Regrown, w'' = Sort.grow (redrawn W p.d) p.os) := fun d os => Calls.regrown_of (above_any _ _ _ _ _ _)
        obtain ⟨t1, E1⟩ : ∃ t, Hid (av (k / 6) (p1 x) (p2 x) = t) := ⟨_, rfl⟩
        obtain ⟨t2, E2⟩ : ∃ t, Hid (av (k % 6) (p1 x) (p2 x) = t) := ⟨_, rfl⟩
        obtain ⟨t3, E3⟩ : ∃ t, Hid (av (rl l k) (p1 x) (p2 x) = t) := ⟨_, rfl⟩
        rw [unhide E1, unhide E2] at PA
        rw [unhide E3] at A1
        have hki : (k : Int) < 36 := by omega
        have heq := fun X => eq34 t1 t2 true true X
        clear hm q1 q3 q4 z1 z4 z5 y7 y8 y4 y6
        gi_wp2
        refine round_quiet (by kernel_rfl) (by kernel_rfl) (by kernel_rfl) ?_
        cases t1 with
        | false =>
          cases t2 with
          | false =>
            iterate 7 (quiet_step (first | with_reducible exact unhide PA _ _ | with_reducible exact unhide A1 _ _))
            iterate 7 (with_reducible refine quiet_skip (by kernel_rfl) ?_; simp only [Act.put, List.setIfInBounds_toArray, List.set_cons_succ, List.set_cons_zero])
            quiet_step (first | with_reducible exact unhide PA _ _ | with_reducible exact unhide A1 _ _)
            refine wpQuiet_nil ?_
            intro _ hw'
            obtain ⟨⟨dq, osq⟩, hw''⟩ := hw'
            subst hw''
            obtain ⟨Y, hY⟩ : ∃ y, y = Sort.grow (redrawn W dq) osq := ⟨_, rfl⟩
            have hbq := below_regrown W dq osq
            show Exit.then _ _ _ _ (Sort.grow (redrawn W dq) osq)
            rw [← hY] at hbq ⊢
            clear hY g0 g1 g2 g3 g4 g5 g6 g7 g8 h0 h1 h2
            have HYB := hide hbq
            clear hbq
            gi_wp2
            have hk' := keeps_below (unhide HYB)
            refine ⟨hk'.from _, hk'.walks, fun x' hx' => ?_, hB.trans ((unhide HYB).mono hB.size)⟩
            rcases List.mem_append.1 hx' with h' | h'
            · exact hp x' h'
            obtain rfl : x' = x := by simpa using h'
            intro h; rw [unhide E1] at h; cases h
          | true =>
            iterate 7 (quiet_step (first | with_reducible exact unhide PA _ _ | with_reducible exact unhide A1 _ _))
            iterate 7 (with_reducible refine quiet_skip (by kernel_rfl) ?_; simp only [Act.put, List.setIfInBounds_toArray, List.set_cons_succ, List.set_cons_zero])
            quiet_step (first | with_reducible exact unhide PA _ _ | with_reducible exact unhide A1 _ _)
            refine wpQuiet_nil ?_
            intro _ hw'
            obtain ⟨⟨dq, osq⟩, hw''⟩ := hw'
            subst hw''
            obtain ⟨Y, hY⟩ : ∃ y, y = Sort.grow (redrawn W dq) osq := ⟨_, rfl⟩
            have hbq := below_regrown W dq osq
            show Exit.then _ _ _ _ (Sort.grow (redrawn W dq) osq)
            rw [← hY] at hbq ⊢
            clear hY g0 g1 g2 g3 g4 g5 g6 g7 g8 h0 h1 h2
            have HYB := hide hbq
            clear hbq
            gi_wp2
            have hk' := keeps_below (unhide HYB)
            refine ⟨hk'.from _, hk'.walks, fun x' hx' => ?_, hB.trans ((unhide HYB).mono hB.size)⟩
            rcases List.mem_append.1 hx' with h' | h'
            · exact hp x' h'
            obtain rfl : x' = x := by simpa using h'
            intro h; rw [unhide E1] at h; cases h
        | true =>
          cases t2 with
          | false =>
            iterate 7 (quiet_step (first | with_reducible exact unhide PA _ _ | with_reducible exact unhide A1 _ _))
            iterate 7 (with_reducible refine quiet_skip (by kernel_rfl) ?_; simp only [Act.put, List.setIfInBounds_toArray, List.set_cons_succ, List.set_cons_zero])
            quiet_step (first | with_reducible exact unhide PA _ _ | with_reducible exact unhide A1 _ _)
            refine wpQuiet_nil ?_
            intro _ hw'
            obtain ⟨⟨dq, osq⟩, hw''⟩ := hw'
            subst hw''
            obtain ⟨Y, hY⟩ : ∃ y, y = Sort.grow (redrawn W dq) osq := ⟨_, rfl⟩
            have hbq := below_regrown W dq osq
            show Exit.then _ _ _ _ (Sort.grow (redrawn W dq) osq)
            rw [← hY] at hbq ⊢
            clear hY g0 g1 g2 g3 g4 g5 g6 g7 g8 h0 h1 h2
            have HYB := hide hbq
            clear hbq
            gi_wp2
            have hk' := keeps_below (unhide HYB)
            refine ⟨hk'.from _, hk'.walks, fun x' hx' => ?_, hB.trans ((unhide HYB).mono hB.size)⟩
            rcases List.mem_append.1 hx' with h' | h'
            · exact hp x' h'
            obtain rfl : x' = x := by simpa using h'
            intro _ h; rw [unhide E2] at h; cases h
          | true =>
            cases t3 with
            | false =>
              iterate 15 (quiet_step (first | with_reducible exact unhide PA _ _ | with_reducible exact unhide A1 _ _))
              refine wpQuiet_nil ?_
              intro _ hw'
              obtain ⟨⟨dq, osq⟩, hw''⟩ := hw'
              subst hw''
              obtain ⟨Y, hY⟩ : ∃ y, y = Sort.grow (redrawn W dq) osq := ⟨_, rfl⟩
              have hbq := below_regrown W dq osq
              show Exit.then _ _ _ _ (Sort.grow (redrawn W dq) osq)
              rw [← hY] at hbq ⊢
              clear hY g0 g1 g2 g3 g4 g5 g6 g7 g8 h0 h1 h2
              have HYB := hide hbq
              clear hbq
              have ly := ((unhide HLX).later (unhide HYB) (unhide HLX).size)
              obtain ⟨e1, f1⟩ := cell_in ly.b0 (j := 0) rfl
              obtain ⟨e2, f2⟩ := cell_in ly.b1 (j := 0) rfl
              have HLY := hide ly
              clear ly
              gi_wp2
              refine ⟨(((keeps_below (unhide HYB)).trans (KeepsOthers.setCell _ _ _)).trans (KeepsOthers.setCell _ _ _)).from _, rfl, ⟨x, fun h => ?_⟩, ?_, ?_⟩
              · have := h (unhide E1) (unhide E2)
                rw [unhide E3] at this
                cases this
              · exact ((unhide HLY).set0 false).set1 0
              · refine (unhide HKX).trans ⟨(unhide HYB).os, (unhide HYB).tape, (unhide HYB).output, by simpa using (unhide HYB).size, fun b hb => ?_⟩
                rw [Below.heap_setCell _ _ _ _ (by show b ≠ w.heap.size + 1; omega), Below.heap_setCell _ _ _ _ (by show b ≠ w.heap.size; omega)]
                exact (unhide HYB).block b (by have := (unhide HKX).size; omega)
            | true =>
              iterate 15 (quiet_step (first | with_reducible exact unhide PA _ _ | with_reducible exact unhide A1 _ _))
              refine wpQuiet_nil ?_
              intro _ hw'
              obtain ⟨⟨dq, osq⟩, hw''⟩ := hw'
              subst hw''
              obtain ⟨Y, hY⟩ : ∃ y, y = Sort.grow (redrawn W dq) osq := ⟨_, rfl⟩
              have hbq := below_regrown W dq osq
              show Exit.then _ _ _ _ (Sort.grow (redrawn W dq) osq)
              rw [← hY] at hbq ⊢
              clear hY g0 g1 g2 g3 g4 g5 g6 g7 g8 h0 h1 h2
              have HYB := hide hbq
              clear hbq
              gi_wp2
              have hk' := keeps_below (unhide HYB)
              refine ⟨hk'.from _, hk'.walks, fun x' hx' => ?_, hB.trans ((unhide HYB).mono hB.size)⟩
              rcases List.mem_append.1 hx' with h' | h'
              · exact hp x' h'
              obtain rfl : x' = x := by simpa using h'
              exact fun _ _ => unhide E3
      case done =>
        rintro D xs W hD hS ⟨hp, hB⟩ hK
        have HF : Hid ((Ld w W false 0 ∧ w.heap.size + 2 ≤ B4 ∧ B4 + 2 ≤ W.heap.size ∧ W.heap[B4]? = some (.cells CS 47 (0, 0)) ∧ W.heap[B4 + 1]? = some (.cells #[.bool true, .bool true] 34 (0, 0))) ∧ (D :: Ds).Nodup ∧ (∀ D' ∈ D :: Ds, B4 + 2 ≤ D' ∧ W.heap[D']? = some (.deferred (some []))) ∧ (∀ i, i < k + 1 → ∀ p : Pr, agB l i p)) := by
          obtain ⟨q1, q2, q3, q4⟩ := unhide HW4
          obtain ⟨z1, z2, z3, z4, z5⟩ := unhide HWW
          obtain ⟨hnd, hDs⟩ := unhide HND
          have hz := hB.size
          refine ⟨⟨(z1.later q1 (by omega)).later hB (by omega), z2, by omega, ?_, ?_⟩, List.nodup_cons.2 ⟨fun h => ?_, hnd⟩, fun D' hD' => ?_, fun i hi => ?_⟩
          · rw [hB.block _ (by omega), q1.block _ (by omega)]; exact z4
          · rw [hB.block _ (by omega), q1.block _ (by omega)]; exact z5
          · have := (Array.getElem?_eq_some_iff.1 (hDs D h).2).1
            omega
          · rcases List.mem_cons.1 hD' with rfl | h
            · exact ⟨by omega, hK⟩
            · have hlt' := (Array.getElem?_eq_some_iff.1 (hDs D' h).2).1
              exact ⟨(hDs D' h).1, by rw [hB.block _ (by omega), q1.block _ (by omega)]; exact (hDs D' h).2⟩
          · by_cases e : i = k
            · subst e; exact fun p => hp p (hS p)
            · exact unhide HG i (by omega)
        go_wp2_with fail
        obtain ⟨f1, f2, f3, f4⟩ := unhide HF
        refine ⟨⟨k + 1, D :: Ds, _, _, _, _, _, _, _, by omega, f1, f2, f3, f4, by go_num⟩, ?_⟩
        simp [intOf]
        omega
      case stop =>
        rintro D c' pre W hD _ ⟨rfl, ⟨p, hp⟩, hld, hkp⟩ hK
        refine wpIn_wide.2 ?_
        go_wp2_with fail
        obtain ⟨q1, q2, q3, q4⟩ := unhide HW4
        obtain ⟨z1, z2, z3, z4, z5⟩ := unhide HWW
        obtain ⟨hnd, hDs⟩ := unhide HND
        refine leaves_marks (D :: Ds) _ (List.nodup_cons.2 ⟨fun h => ?_, hnd⟩) (fun D' hD' => ?_) (fun W' hk' => ?_)
        · have := (Array.getElem?_eq_some_iff.1 (hDs D h).2).1
          omega
        · rcases List.mem_cons.1 hD' with rfl | h
          · exact hK
          · have hlt' := (Array.getElem?_eq_some_iff.1 (hDs D' h).2).1
            have := (hDs D' h).1
            rw [hkp.block _ ⟨by omega, by omega, by omega⟩, q1.block _ (by omega)]; exact (hDs D' h).2
        · have hld' := hld.keep hk' (fun b hb h => by
            rcases List.mem_cons.1 h with rfl | h
            · omega
            · have := (hDs b h).1; omega)
          exact ⟨_, results_ld rfl hld' _ rfl rfl, ⟨false, rfl, fun _ => ⟨(fun h => by cases h), fun h => absurd (h k hlt p) hp⟩, fun e => absurd rfl e⟩, hld'.below⟩
    · obtain rfl : k = 36 := by omega
      obtain ⟨e1, f1⟩ := cell_in hW.1.b0 (j := 0) rfl
      obtain ⟨e2, f2⟩ := cell_in hW.1.b1 (j := 0) rfl
      have HWW := hide hW
      have HND := hide (And.intro hnd hD)
      have HG := hide hg
      clear hW hnd hD hg
      go_wp2_with fail
      obtain ⟨z1, z2, z3, z4, z5⟩ := unhide HWW
      obtain ⟨hnd, hDs⟩ := unhide HND
      have ly := (z1.set0 true).set1 0
      refine leaves_marks Ds _ hnd (fun D' hD' => ?_) (fun W' hk' => ?_)
      · have := (hDs D' hD').1
        rw [Below.heap_setCell _ _ _ _ (by show D' ≠ w.heap.size + 1; omega), Below.heap_setCell _ _ _ _ (by show D' ≠ w.heap.size; omega)]; exact (hDs D' hD').2
      · have hld' := ly.keep hk' (fun b hb h => by have := (hDs b h).1; omega)
        exact ⟨_, results_ld rfl hld' _ rfl rfl, ⟨true, rfl, fun _ => ⟨fun _ => unhide HG, fun _ => rfl⟩, fun e => absurd rfl e⟩, hld'.below⟩
  · have hne : (r == 0) = false := by simp [h0]
    have HNE := hide h0
    clear h0
    go_enter Try.func12, Try.ntmps12
    go_wp2_with fail
    rw [← hW0]
    have HW0 := hide hW0
    clear hW0
    refine (unhide CC).mono ?_
    rintro e w1 ⟨⟨cs, rfl, hl, hm⟩, hb1⟩
    have HL1 := hide ((unhide HQ0).later hb1 (unhide HQ0).size)
    clear hm hb1
    have H1 := hide (unhide HSZ cs hl)
    have H2 := hide (unhide HS0 cs hl)
    have H3 := hide (unhide HAL cs)
    generalize arr cs = CS at *
    have ly := (unhide HL1).later (below_setRow ((Below.refl _ w1).alloc (Nat.le_refl _) (.cells P0 47)) (Nat.le_refl _) CS) (unhide HL1).size
    obtain ⟨e1, f1⟩ := cell_in ly.b0 (j := 0) rfl
    obtain ⟨e2, f2⟩ := cell_in ly.b1 (j := 0) rfl
    have HLY := hide ly
    clear ly
    go_wp2_with (refine wpList_store_row rfl 47 (.tmp 4) (.tmp 14) rfl w1.heap.size CS rfl rfl 47 P0 (World.alloc_heap_new _ _) (unhide H1) (unhide H2) (unhide H3) ?_)
    (try simp only [Exit.inBlock, Exit.then])
    have ly2 := ((unhide HLY).set0 false).set1 r
    exact bodyPost_ret (results_ld rfl ly2 _ rfl rfl) rfl ⟨⟨false, rfl, fun e => absurd e (unhide HNE), fun _ => rfl⟩, ly2.below⟩
end Go.Proofs.Ytbbbjpkomnhofaa
