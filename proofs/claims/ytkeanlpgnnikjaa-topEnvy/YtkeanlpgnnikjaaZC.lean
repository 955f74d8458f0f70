import Derived.Test.YtkeanlpgnnikjaaZA
import Derived.Test.YtkeanlpgnnikjaaY
namespace Go.Proofs.Ytkeanlpgnnikjaa
open Go.RowKit Go.Shelf
attribute [local go_sem] Oper.semAt_some
/-- Whether a gain is above another one. -/
def bt (a b c d : Int) : Prop := c < a ∨ (a = c ∧ d < b)
instance (a b c d : Int) : Decidable (bt a b c d) := by unfold bt; infer_instance
theorem cmp_pos (a b c d : Int) : 0 < (if cmpI a c = 0 then cmpI b d else cmpI a c) ↔ bt a b c d := by
  unfold cmpI bt
  by_cases h1 : a < c
  · rw [if_pos h1, if_neg (by omega)]; omega
  · rw [if_neg h1]
    by_cases h2 : c < a
    · rw [if_pos h2, if_neg (by omega)]; omega
    · rw [if_neg h2, if_pos rfl]
      by_cases h3 : b < d
      · rw [if_pos h3]; omega
      · rw [if_neg h3]
        by_cases h4 : d < b
        · rw [if_pos h4]; omega
        · rw [if_neg h4]; omega
/-- The first of the best, as far as they came. -/
def bestS (s1 s2 : List Int → Int) (b : Option (List Int)) (o : List Int) : Option (List Int) := match b with | none => some o | some q => if bt (s1 o) (s2 o) (s1 q) (s2 q) then some o else some q
def bestG (s1 s2 : List Int → Int) (pre : List (List Int)) : Option (List Int) := pre.foldl (bestS s1 s2) none
theorem bestG_snoc (s1 s2 : List Int → Int) (pre : List (List Int)) (o : List Int) : bestG s1 s2 (pre ++ [o]) = bestS s1 s2 (bestG s1 s2 pre) o := by
  unfold bestG; rw [List.foldl_append]; rfl
theorem bestS_some (s1 s2 : List Int → Int) : ∀ (l : List (List Int)) q, l.foldl (bestS s1 s2) (some q) ≠ none := by
  intro l
  induction l with
  | nil => intro q h; cases h
  | cons x xs ih =>
    intro q
    rw [List.foldl_cons]
    show xs.foldl _ (if _ then _ else _) ≠ none
    by_cases c : bt (s1 x) (s2 x) (s1 q) (s2 q)
    · rw [if_pos c]; exact ih x
    · rw [if_neg c]; exact ih q
theorem bestG_some {s1 s2 : List Int → Int} {l : List (List Int)} (h : l ≠ []) : bestG s1 s2 l ≠ none := by
  cases l with
  | nil => exact absurd rfl h
  | cons x xs => exact bestS_some s1 s2 xs x
theorem wL_some {n : Nat} (hn : 1 ≤ n) : ∀ f o, wL n f o ≠ [] := by
  intro f
  induction f with
  | zero => intro o h; cases h
  | succ f ih =>
    intro o h
    unfold wL at h
    rw [List.flatMap_eq_nil_iff] at h
    exact ih _ (h 0 (List.mem_range.2 hn))
def KI (s1 s2 : List Int → Int) (n G : Nat) (w : World) (vv : Value) (pre : List (List Int)) (S : Nat → Prop) (W : World) : Prop :=
  ∃ (bv : Value) (x y : Int), (∀ b, S b ↔ b < w.heap.size ∨ b = w.heap.size ∨ b = w.heap.size + 1 ∨ b = w.heap.size + 1 + 1 ∨ bv.ownBlock = some b) ∧ Below w.heap.size w W ∧ w.heap.size + 1 + 1 < W.heap.size ∧
    W.heap[w.heap.size]? = some (.cells #[vv] 22 (0, 0)) ∧ W.heap[w.heap.size + 1]? = some (.cells #[bv] 23 (0, 0)) ∧ W.heap[w.heap.size + 1 + 1]? = some (.cells #[.int .i64 x, .int .i64 y] 46 (0, 0)) ∧
    ((bestG s1 s2 pre = none ∧ bv = .slice none 0 0 ∧ x = 0 ∧ y = 0) ∨ ∃ q aa c, bestG s1 s2 pre = some q ∧ bv = .slice aa G c ∧ Ints W aa G c q ∧ Wy n G q ∧ x = s1 q ∧ y = s2 q)
theorem ints_keep {W W' : World} {aa : Option Addr} {n c : Nat} {q : List Int} {S : Nat → Prop} (h : Ints W aa n c q) (k : Keep S W W') (hg : ∀ b, (Value.slice aa n c).ownBlock = some b → S b) : Ints W' aa n c q := by
  obtain ⟨h1, h2, h3, h4⟩ := h
  refine ⟨h1, h2, h3, ?_⟩
  rcases h4 with h | ⟨b, off, e, hb, hc⟩
  · exact .inl h
  · subst e
    exact .inr ⟨b, off, rfl, Nat.lt_of_lt_of_le hb k.size, fun j hj => (k.cell (p := ⟨b, off + j, none⟩) (hg b rfl)).trans (hc j hj)⟩
theorem KI.inv (s1 s2 : List Int → Int) (n G : Nat) (w : World) (vv : Value) : Inv (fun pre S W => KI s1 s2 n G w vv pre S W ∧ ∀ b, S b → b < W.heap.size) := by
  refine ⟨fun {pre S W W'} ⟨⟨bv, x, y, h1, h2, h3, h4, h5, h6, h7⟩, hl⟩ k => ⟨⟨bv, x, y, h1, ?_, Nat.lt_of_lt_of_le h3 k.size, ?_, ?_, ?_, ?_⟩, fun b hb => Nat.lt_of_lt_of_le (hl b hb) k.size⟩, fun {pre S W} h b hb => h.2 b hb⟩
  · have k2 : Keep (fun b => b < w.heap.size) W W' := k.sub fun b hb => (h1 b).2 (.inl hb)
    exact h2.trans k2.below
  · exact (k.block _ ((h1 _).2 (.inr (.inl rfl)))).trans h4
  · exact (k.block _ ((h1 _).2 (.inr (.inr (.inl rfl))))).trans h5
  · exact (k.block _ ((h1 _).2 (.inr (.inr (.inr (.inl rfl)))))).trans h6
  · rcases h7 with h | ⟨q, aa, c, q1, q2, q3, q4⟩
    · exact .inl h
    · exact .inr ⟨q, aa, c, q1, q2, ints_keep q3 k (fun b hb => (h1 b).2 (.inr (.inr (.inr (.inr (by rw [q2]; exact hb)))))), q4⟩
theorem KI.set {s1 s2 : List Int → Int} {n G : Nat} {w : World} {vv : Value} {pre : List (List Int)} {S : Nat → Prop} {W W3 : World} {gb : Option Addr} {c : Nat} {o : List Int} (hk : KI s1 s2 n G w vv pre S W) (hb : Below W.heap.size W W3) (hin : Ints W gb G c o) (hown : ∀ b, (Value.slice gb G c).ownBlock = some b → ¬ S b ∧ b < W.heap.size) (hw : Wy n G o) (hbest : bestG s1 s2 (pre ++ [o]) = some o) :
    ∃ S', (KI s1 s2 n G w vv (pre ++ [o]) S' (((W3.setCell ⟨w.heap.size + 1, 0, none⟩ (.slice gb G c)).setCell ⟨w.heap.size + 1 + 1, 0, none⟩ (.int .i64 (s1 o))).setCell ⟨w.heap.size + 1 + 1, 1, none⟩ (.int .i64 (s2 o))).drew ∧ ∀ b, S' b → b < (((W3.setCell ⟨w.heap.size + 1, 0, none⟩ (.slice gb G c)).setCell ⟨w.heap.size + 1 + 1, 0, none⟩ (.int .i64 (s1 o))).setCell ⟨w.heap.size + 1 + 1, 1, none⟩ (.int .i64 (s2 o))).drew.heap.size) ∧ (∀ b, S' b → S b ∨ (Value.slice gb G c).ownBlock = some b ∨ W.heap.size ≤ b) ∧
      Keep (fun b => b < W.heap.size ∧ ¬ S b) W (((W3.setCell ⟨w.heap.size + 1, 0, none⟩ (.slice gb G c)).setCell ⟨w.heap.size + 1 + 1, 0, none⟩ (.int .i64 (s1 o))).setCell ⟨w.heap.size + 1 + 1, 1, none⟩ (.int .i64 (s2 o))).drew := by
  obtain ⟨bv, x, y, h1, h2, h3, h4, h5, h6, h7⟩ := hk
  obtain ⟨X, hX⟩ : ∃ X, X = (((W3.setCell ⟨w.heap.size + 1, 0, none⟩ (.slice gb G c)).setCell ⟨w.heap.size + 1 + 1, 0, none⟩ (.int .i64 (s1 o))).setCell ⟨w.heap.size + 1 + 1, 1, none⟩ (.int .i64 (s2 o))).drew := ⟨_, rfl⟩
  rw [← hX]
  have hB1 : S (w.heap.size + 1) := (h1 _).2 (.inr (.inr (.inl rfl)))
  have hB2 : S (w.heap.size + 1 + 1) := (h1 _).2 (.inr (.inr (.inr (.inl rfl))))
  have hsz : X.heap.size = W3.heap.size := by rw [hX]; show (World.setCell _ _ _).heap.size = _; simp
  have hbl : ∀ b, b < W.heap.size → b ≠ w.heap.size + 1 → b ≠ w.heap.size + 1 + 1 → X.heap[b]? = W.heap[b]? := fun b b1 b2 b3 => by
    rw [hX]
    show (World.setCell _ _ _).heap[b]? = _
    rw [Below.heap_setCell _ ⟨w.heap.size + 1 + 1, 1, none⟩ _ b b3, Below.heap_setCell _ ⟨w.heap.size + 1 + 1, 0, none⟩ _ b b3, Below.heap_setCell _ ⟨w.heap.size + 1, 0, none⟩ _ b b2]
    exact hb.block b b1
  have hos : X.os = W.os := by rw [hX]; exact hb.os
  have htp : X.tape = W.tape := by rw [hX]; exact hb.tape
  have hou : X.output = W.output := by rw [hX]; exact hb.output
  have hsz2 := hb.size
  have kk : ∀ U : Nat → Prop, (∀ b, U b → b < W.heap.size) → ¬ U (w.heap.size + 1) → ¬ U (w.heap.size + 1 + 1) → Keep U W X := fun U u1 u2 u3 => ⟨hos, htp, hou, by omega, fun b hb' => hbl b (u1 b hb') (fun e => u2 (e ▸ hb')) (fun e => u3 (e ▸ hb'))⟩
  have hg1 : X.heap[w.heap.size + 1]? = some (.cells #[.slice gb G c] 23 (0, 0)) := by
    rw [hX]
    show (World.setCell _ _ _).heap[w.heap.size + 1]? = _
    rw [Below.heap_setCell _ ⟨w.heap.size + 1 + 1, 1, none⟩ _ (w.heap.size + 1) (by show _ ≠ w.heap.size + 1 + 1; omega), Below.heap_setCell _ ⟨w.heap.size + 1 + 1, 0, none⟩ _ (w.heap.size + 1) (by show _ ≠ w.heap.size + 1 + 1; omega)]
    show (W3.heap.modify (w.heap.size + 1) _)[w.heap.size + 1]? = _
    rw [Array.getElem?_modify, if_pos rfl, hb.block _ (by omega), h5]
    rfl
  have hg2 : X.heap[w.heap.size + 1 + 1]? = some (.cells #[.int .i64 (s1 o), .int .i64 (s2 o)] 46 (0, 0)) := by
    rw [hX]
    refine heap_set1 (heap_set0 (x := .int .i64 x) (y := .int .i64 y) ?_)
    rw [Below.heap_setCell _ ⟨w.heap.size + 1, 0, none⟩ _ (w.heap.size + 1 + 1) (by show _ ≠ w.heap.size + 1; omega), hb.block _ (by omega), h6]
  refine ⟨fun b => b < w.heap.size ∨ b = w.heap.size ∨ b = w.heap.size + 1 ∨ b = w.heap.size + 1 + 1 ∨ (Value.slice gb G c).ownBlock = some b, ⟨⟨.slice gb G c, s1 o, s2 o, fun b => Iff.rfl, ?_, by omega, ?_, hg1, hg2, .inr ⟨o, gb, c, hbest, rfl, ?_, hw, rfl, rfl⟩⟩, fun b hb' => ?_⟩, fun b hb' => ?_, kk _ (fun b q => q.1) (fun q => q.2 hB1) (fun q => q.2 hB2)⟩
  · exact h2.trans (kk (fun b => b < w.heap.size) (fun b q => by have := h2.size; omega) (by omega) (by omega)).below
  · rw [hbl _ (by omega) (by omega) (by omega)]; exact h4
  · exact ints_keep hin (kk (fun b => (Value.slice gb G c).ownBlock = some b) (fun b q => (hown b q).2) (fun q => (hown _ q).1 hB1) (fun q => (hown _ q).1 hB2)) (fun b q => q)
  · rcases hb' with q | q | q | q | q
    · have := h2.size; omega
    · omega
    · omega
    · omega
    · have := (hown b q).2; omega
  · rcases hb' with q | q | q | q | q
    · exact .inl ((h1 b).2 (.inl q))
    · exact .inl ((h1 b).2 (.inr (.inl q)))
    · exact .inl ((h1 b).2 (.inr (.inr (.inl q))))
    · exact .inl ((h1 b).2 (.inr (.inr (.inr (.inl q)))))
    · exact .inr (.inl q)
theorem cell_box {W : World} {B : Nat} {v : Value} {t : TypeId} (h : W.heap[B]? = some (.cells #[v] t (0, 0))) : W.cell? ⟨B, 0, none⟩ = some v ∧ W.frozen? ⟨B, 0, none⟩ = false := by
  constructor <;> simp [World.cell?, World.frozen?, h]
set_option maxRecDepth 100000 in
set_option maxHeartbeats 8000000 in
theorem even_ok (a : Option Addr) (n c G : Nat) (L : List Sl) (w : World) (h : Lsts w a n c L) (hV : Vals n G L) :
    Calls Try.prog 13 #[.slice a n c] w fun e w' => ∃ q aa cc, bestG (fun o => qN (vl L) (nth o) G n) (fun o => qP (vl L) (nth o) G n) (wL n G []) = some q ∧ Wy n G q ∧ e = .returned (two (.slice aa G cc) 0) ∧ Ints w' aa G cc q ∧ Below w.heap.size w w' := by
  obtain ⟨v, hvv⟩ : ∃ v, v = vl L := ⟨_, rfl⟩
  rw [← hvv]
  have hn1 := hV.n1
  have hn4 := hV.n4
  have hG := hV.g8
  have d1 := h.2.1
  have d2 := h.2.2.1
  unfold maxLen at d2
  have CM := hide (fun W (hW : Below w.heap.size w W) => may_any a n c L W (h.later hW))
  rw [hV.smE] at CM
  obtain ⟨b, off, rfl, hb, hcell⟩ := h.cellAt hn1
  have HC0 : Hid (∀ W, Below w.heap.size w W → W.cell? ⟨b, off, none⟩ = some (.slice (slAt L 0).la G (slAt L 0).lc)) := fun W hW => by have := (hW.cell (p := ⟨b, off + 0, none⟩) hb).trans (hcell 0 hn1); rw [Nat.add_zero, hV.row 0 hn1] at this; exact this
  have i0 := h.mem (k := 0) hn1
  have i1 := i0.2.1
  have i2 := i0.2.2.1
  rw [hV.row 0 hn1] at i1
  unfold maxLen at i2
  generalize (slAt L 0).la = la0 at *
  generalize (slAt L 0).lc = lc0 at *
  clear hcell i0
  refine (callsIn_wide (n := 9)).1 ?_
  refine callsIn_of_wp_marks Try.func13 rfl trivial ?_
  simp only [Try.ntmps13, List.size_toArray, List.length_cons, List.length_nil, Nat.reduceAdd, Nat.reduceSub, Array.replicate_succ, Array.replicate_zero, List.push_toArray, List.append_toArray, List.nil_append, List.cons_append]
  refine wpIn_wide.2 ?_
  have hbA : Below w.heap.size w (w.alloc (.cells #[.slice (some ⟨b, off, none⟩) n c] 22)) := by go_grown
  have CM1 := hide (unhide CM _ hbA)
  go_wp2_with fail
  refine (unhide CM1).mono ?_
  rintro e w2 ⟨rfl, hw2⟩
  subst w2
  go_wp2_with fail
  obtain ⟨w1, hw1⟩ : ∃ y, y = (((w.alloc (.cells #[.slice (some ⟨b, off, none⟩) n c] 22)).alloc (.cells #[.slice none 0 0] 23)).alloc (.cells #[.int .i64 0, .int .i64 0] 46)) := ⟨_, rfl⟩
  rw [← hw1]
  have hb1 : Below w.heap.size w w1 := by rw [hw1]; go_grown
  have hg0 : w1.heap[w.heap.size]? = some (.cells #[.slice (some ⟨b, off, none⟩) n c] 22 (0, 0)) := by
    rw [hw1, Below.heap_alloc _ _ _ (by rw [World.size_alloc, World.size_alloc]; omega), Below.heap_alloc _ _ _ (by rw [World.size_alloc]; omega)]
    exact heap_alloc_new w _
  have hg1 : w1.heap[w.heap.size + 1]? = some (.cells #[.slice none 0 0] 23 (0, 0)) := by
    rw [hw1, Below.heap_alloc _ _ _ (by rw [World.size_alloc, World.size_alloc]; omega)]
    have := heap_alloc_new (w.alloc (.cells #[.slice (some ⟨b, off, none⟩) n c] 22)) (.cells #[.slice none 0 0] 23)
    rwa [World.size_alloc] at this
  have hg2 : w1.heap[w.heap.size + 1 + 1]? = some (.cells #[.int .i64 0, .int .i64 0] 46 (0, 0)) := by
    rw [hw1]
    have := heap_alloc_new ((w.alloc (.cells #[.slice (some ⟨b, off, none⟩) n c] 22)).alloc (.cells #[.slice none 0 0] 23)) (.cells #[.int .i64 0, .int .i64 0] 46)
    rwa [World.size_alloc, World.size_alloc] at this
  have hs1 : w1.heap.size = w.heap.size + 3 := by rw [hw1]; simp
  clear hw1
  obtain ⟨C, hC⟩ : ∃ C : World → Prop, C = fun Z => Z = w1.drew := ⟨_, rfl⟩
  have hCc : ∀ Z, C Z → Z.cell? ⟨w.heap.size, 0, none⟩ = some (.slice (some ⟨b, off, none⟩) n c) ∧ Z.cell? ⟨b, off, none⟩ = some (.slice la0 G lc0) := fun Z hZ => by
    rw [hC] at hZ
    subst hZ
    exact ⟨(cell_box hg0).1, unhide HC0 _ hb1.drew⟩
  have hn0 : 0 < n := hn1
  refine wp_calm_tail C 6 (by kernel_rfl) (by kernel_rfl) (by rw [hC]) ?_
  simp only [List.take_succ_cons, List.take_zero, List.drop_succ_cons, List.drop_zero]
  refine walkC_yes (.slice (some ⟨b, off, none⟩) n c) (by kernel_rfl) (fun Z hZ => ?_) ?_
  · simp [upC, go_sem, (hCc Z hZ).1]
    exact hZ
  simp only [Act.put, List.setIfInBounds_toArray, List.set_cons_succ, List.set_cons_zero]
  refine walkC_yes (.pointer (some ⟨b, off, none⟩)) (by kernel_rfl) (fun Z hZ => ?_) ?_
  · simp [upC, go_sem, hn0]
    exact hZ
  simp only [Act.put, List.setIfInBounds_toArray, List.set_cons_succ, List.set_cons_zero]
  refine walkC_yes (.slice la0 G lc0) (by kernel_rfl) (fun Z hZ => ?_) ?_
  · simp [upC, go_sem, (hCc Z hZ).2]
    exact hZ
  simp only [Act.put, List.setIfInBounds_toArray, List.set_cons_succ, List.set_cons_zero]
  refine walkC_yes (.int .i64 (G : Int)) (by kernel_rfl) (fun Z hZ => ?_) ?_
  · simp [upC, go_sem]
    exact hZ
  simp only [Act.put, List.setIfInBounds_toArray, List.set_cons_succ, List.set_cons_zero]
  refine walkC_yes (.slice (some ⟨b, off, none⟩) n c) (by kernel_rfl) (fun Z hZ => ?_) ?_
  · simp [upC, go_sem, (hCc Z hZ).1]
    exact hZ
  simp only [Act.put, List.setIfInBounds_toArray, List.set_cons_succ, List.set_cons_zero]
  refine walkC_yes (.int .i64 (n : Int)) (by kernel_rfl) (fun Z hZ => ?_) ?_
  · simp [upC, go_sem]
    exact hZ
  simp only [Act.put, List.setIfInBounds_toArray, List.set_cons_succ, List.set_cons_zero]
  intro Z hZ
  rw [hC] at hZ
  subst hZ
  clear hCc hC
  go_wp2_with fail
  refine (ways_any G n _).mono ?_
  rintro e w3 ⟨rfl, hw3⟩
  go_wp2_with fail
  have mx : Try.prog.follows .mixedOrders = true := by kernel_rfl
  have HGN : Hid (∀ W gb cb o, Below w.heap.size w W → Ints W gb G cb o → Calls Try.prog 29 #[.slice (some ⟨b, off, none⟩) n c, .slice gb G cb] W fun e w' => e = .returned (.agg #[.int .i64 (qN (vl L) (nth o) G n), .int .i64 (qP (vl L) (nth o) G n)]) ∧ Below W.heap.size W w') := fun W gb cb o hW hI => gainOf_any _ n c G L gb cb o W (h.later hW) hV hI
  have HQ : Hid (∀ f, 0 ≤ qN (vl L) f G n ∧ 1 ≤ qP (vl L) f G n) := fun f => ⟨(qN_le n).1, (qP_bound (f := f) (fun i hi => hV.okF hi) hG hn4 (Nat.le_refl n)).1⟩
  clear h hV
  rw [← hvv] at HGN HQ
  clear hvv
  obtain ⟨wX, hwX⟩ : ∃ y, y = ((w1.alloc (.cells #[.int .i64 (G : Int)] 3)).alloc (.cells #[.int .i64 (n : Int)] 3)).drew := ⟨_, rfl⟩
  rw [← hwX]
  have hbX : Below w1.heap.size w1 wX := by rw [hwX]; exact (((Below.refl _ w1).alloc (Nat.le_refl _) _).alloc (by rw [World.size_alloc]; omega) _).drew
  have hsX : wX.heap.size = w.heap.size + 5 := by rw [hwX]; show (World.alloc _ _).heap.size = _; rw [World.size_alloc, World.size_alloc, hs1]
  have hc3 : wX.cell? ⟨w.heap.size + 3, 0, none⟩ = some (.int .i64 (G : Int)) := by
    have := heap_alloc_new w1 (.cells #[.int .i64 (G : Int)] 3)
    rw [hs1] at this
    rw [hwX]
    refine (cell_box (t := 3) ?_).1
    show (World.alloc _ _).heap[_]? = _
    rw [Below.heap_alloc _ _ _ (by rw [World.size_alloc]; omega)]
    exact this
  have hc4 : wX.cell? ⟨w.heap.size + 3 + 1, 0, none⟩ = some (.int .i64 (n : Int)) := by
    have := heap_alloc_new (w1.alloc (.cells #[.int .i64 (G : Int)] 3)) (.cells #[.int .i64 (n : Int)] 3)
    rw [World.size_alloc, hs1] at this
    rw [hwX]
    exact (cell_box (t := 3) this).1
  have hbW : Below w.heap.size w wX := hb1.trans (hbX.mono hb1.size)
  have hK0 : KI (fun o => qN v (nth o) G n) (fun o => qP v (nth o) G n) n G w (.slice (some ⟨b, off, none⟩) n c) [] (fun b => b < w.heap.size ∨ b = w.heap.size ∨ b = w.heap.size + 1 ∨ b = w.heap.size + 1 + 1) wX := by
    refine ⟨.slice none 0 0, 0, 0, fun b => ?_, hbW, by omega, ?_, ?_, ?_, .inl ⟨rfl, rfl, rfl, rfl⟩⟩
    · constructor
      · intro q
        rcases q with q | q | q | q
        · exact .inl q
        · exact .inr (.inl q)
        · exact .inr (.inr (.inl q))
        · exact .inr (.inr (.inr (.inl q)))
      · intro q
        rcases q with q | q | q | q | q
        · exact .inl q
        · exact .inr (.inl q)
        · exact .inr (.inr (.inl q))
        · exact .inr (.inr (.inr q))
        · cases q
    · rw [hbX.block _ (by omega)]; exact hg0
    · rw [hbX.block _ (by omega)]; exact hg1
    · rw [hbX.block _ (by omega)]; exact hg2
  have HK0 := hide hK0
  clear hwX hw3 hg0 hg1 hg2 hK0 CM CM1 hbX
  refine (wpIn_wide (n := 9)).1 ?_
  refine range_all (Wy n G) (by omega) (gf := 40) (lb := #[.pointer (some ⟨w.heap.size + 3, 0, none⟩), .pointer (some ⟨w.heap.size + 3 + 1, 0, none⟩)]) rfl (enters_of Try.func40 (by kernel_rfl) rfl) rfl
    (fun pre S W => KI (fun o => qN v (nth o) G n) (fun o => qP v (nth o) G n) n G w (.slice (some ⟨b, off, none⟩) n c) pre S W ∧ ∀ b, S b → b < W.heap.size) (KI.inv _ _ n G w _) (fun b => b < w.heap.size ∨ b = w.heap.size ∨ b = w.heap.size + 1 ∨ b = w.heap.size + 1 + 1)
    ⟨unhide HK0, fun b hb' => by rcases hb' with q | q | q | q <;> omega⟩ (wL n G []) ?iter
    (fun o gb cb => { tmps := #[.slice (some ⟨b, off, none⟩) n c, .pointer (some ⟨w.heap.size, 0, none⟩), .slice none 0 0, .int .i64 0, .int .i64 0, .pointer (some ⟨w.heap.size + 1, 0, none⟩), .pointer (some ⟨w.heap.size + 1 + 1, 0, none⟩), .slice gb o.length cb, undef, .slice (some ⟨b, off, none⟩) n c, .int .i64 0, .int .i64 0, .bool false, undef, .slice (some ⟨b, off, none⟩) n c, .pointer (some ⟨b, off, none⟩), .slice la0 G lc0, .int .i64 G, .slice (some ⟨b, off, none⟩) n c, .int .i64 n, .func (.func 40) #[] #[.pointer (some ⟨w.heap.size + 3, 0, none⟩), .pointer (some ⟨w.heap.size + 3 + 1, 0, none⟩)], .slice gb o.length cb, undef, undef, undef, undef, undef, undef, undef, undef, undef, undef], defers := [] }) ?assign ?body ?done
  case iter =>
    intro lp J JI hY S W hJ hbW2 hSS
    refine callsIn_wide.2 ?_
    refine ways1_any JI hY hn4 hG S W hJ (Bn := w.heap.size + 3) (Bu := w.heap.size + 3 + 1) (by have := hbW2.size; omega) (by have := hbW2.size; omega) (fun hs => ?_) (fun hs => ?_) ((hbW2.cell (p := ⟨w.heap.size + 3, 0, none⟩) (by show w.heap.size + 3 < _; omega)).trans hc3) ((hbW2.cell (p := ⟨w.heap.size + 3 + 1, 0, none⟩) (by show w.heap.size + 3 + 1 < _; omega)).trans hc4)
    · rcases hSS _ hs with q | q
      · omega
      · omega
    · rcases hSS _ hs with q | q
      · omega
      · omega
  case assign =>
    intro lp mm o gb cb W K hK
    gi_wp2
    exact hK
  case body =>
    intro lp mm pre o S W gb cb hI hin hgS hord
    have hol : o.length = G := hord.1
    have HKI := hide hI.1
    have HSL := hide hI.2
    obtain ⟨bv, x, y, k1, k2, k3, k4, k5, k6, k7⟩ := hI.1
    have hdd : Fence.wide.depth.isSome = true → 1 ≤ mm := fun h => by simp [Fence.wide] at h
    rw [hol] at hin hgS ⊢
    have CG := hide (unhide HGN W gb cb o k2 hin)
    have x0 := (cell_box k4).1
    have y0 := cell_heap2 k6
    have HQO := unhide HQ (nth o)
    have HIN := hide hin
    have HGS := hide hgS
    have HORD := hide hord
    clear hI k4 hin hgS hord
    gi_wp2
    refine ⟨trivial, hdd, ?_⟩
    refine (CallsIn.inRound lp (callsIn_wide.2 (unhide CG))).mono ?_
    rintro e W1 ⟨rfl, hbW1⟩
    obtain ⟨P1, hP1⟩ : ∃ z, qN v (nth o) G n = z := ⟨_, rfl⟩
    obtain ⟨P2, hP2⟩ : ∃ z, qP v (nth o) G n = z := ⟨_, rfl⟩
    rw [hP1, hP2] at HQO ⊢
    have hbA : Below W.heap.size W (W1.alloc (.cells #[.int .i64 P1, .int .i64 P2] 46)) := hbW1.trans ((by go_grown : Below W1.heap.size W1 (W1.alloc (.cells #[.int .i64 P1, .int .i64 P2] 46))).mono hbW1.size)
    have k6A : (W1.alloc (.cells #[.int .i64 P1, .int .i64 P2] 46)).heap[w.heap.size + 1 + 1]? = some (.cells #[.int .i64 x, .int .i64 y] 46 (0, 0)) := (hbA.block _ k3).trans k6
    have z0 := (cell_heap2 k6A).1
    have z1 := (cell_heap2 k6A).2
    have CP := compare_any P1 P2 x y (W1.alloc (.cells #[.int .i64 P1, .int .i64 P2] 46))
    obtain ⟨cp, hcp⟩ : ∃ z, (if cmpI P1 x = 0 then cmpI P2 y else cmpI P1 x) = z := ⟨_, rfl⟩
    rw [hcp] at CP
    have HCP := hide hcp
    have CP := hide CP
    have HBA := hide hbA
    clear hcp k6A CG hbA y0 x0
    gi_wp2
    refine ⟨trivial, hdd, ?_⟩
    refine (CallsIn.inRound lp (callsIn_wide.2 (unhide CP))).mono ?_
    rintro e W3 ⟨rfl, hbW3⟩
    have hb3 : Below W.heap.size W W3 := (unhide HBA).trans (hbW3.mono (unhide HBA).size)
    have k8 : W3.heap[W1.heap.size]? = some (.cells #[.int .i64 P1, .int .i64 P2] 46 (0, 0)) := (hbW3.block _ (by rw [World.size_alloc]; omega)).trans (heap_alloc_new W1 _)
    have k63 : W3.heap[w.heap.size + 1 + 1]? = some (.cells #[.int .i64 x, .int .i64 y] 46 (0, 0)) := (hb3.block _ k3).trans k6
    have k53 : W3.heap[w.heap.size + 1]? = some (.cells #[bv] 23 (0, 0)) := (hb3.block _ (by omega)).trans k5
    have hne : W1.heap.size ≠ w.heap.size + 1 := by have := hbW1.size; omega
    have HB3 := hide hb3
    by_cases hbt : bt P1 P2 x y
    · have hd : decide (0 < cp) = true := by rw [decide_eq_true_eq, ← unhide HCP]; exact (cmp_pos _ _ _ _).2 hbt
      have HF := hide (KI.set (s1 := fun o => qN v (nth o) G n) (s2 := fun o => qP v (nth o) G n) (unhide HKI) hb3 (unhide HIN) (unhide HGS) (unhide HORD) (by
        rw [bestG_snoc]
        rcases k7 with ⟨q1, -⟩ | ⟨q, aa, cc, q1, -, -, -, q5, q6⟩
        · rw [q1]; rfl
        · rw [q1]
          show (if _ then _ else _) = _
          rw [if_pos]
          show bt (qN v (nth o) G n) (qP v (nth o) G n) (qN v (nth q) G n) (qP v (nth q) G n)
          rw [hP1, hP2, ← show x = qN v (nth q) G n from q5, ← show y = qP v (nth q) G n from q6]
          exact hbt))
      rw [hP1, hP2] at HF
      have u0 := (cell_heap2 k8).1
      have u1 := (cell_heap2 k8).2
      have t0 := (cell_box k53).1
      have t1 := (cell_box k53).2
      have r0 := (cell_heap2 k63).1
      have r1 := (cell_heap2 k63).2
      have rf0 : W3.frozen? ⟨w.heap.size + 1 + 1, 0, none⟩ = false := by simp [World.frozen?, k63]
      have rf1 : W3.frozen? ⟨w.heap.size + 1 + 1, 1, none⟩ = false := by simp [World.frozen?, k63]
      clear k8 k63 k53 hb3 hbt HCP CP k5 k6 k7 z0 z1
      gi_wp2
      gi_region_with_o (refine ⟨trivial, ?_⟩)
      all_goals gi_wp2
      all_goals exact unhide HF
    · have hd : decide (0 < cp) = false := by rw [decide_eq_false_iff_not, ← unhide HCP]; exact fun q => hbt ((cmp_pos _ _ _ _).1 q)
      have HF : Hid (∃ S', (KI (fun o => qN v (nth o) G n) (fun o => qP v (nth o) G n) n G w (.slice (some ⟨b, off, none⟩) n c) (pre ++ [o]) S' W3 ∧ ∀ b, S' b → b < W3.heap.size) ∧ (∀ b, S' b → S b ∨ (Value.slice gb G cb).ownBlock = some b ∨ W.heap.size ≤ b) ∧ Keep (fun b => b < W.heap.size ∧ ¬ S b) W W3) := by
        have hk := (KI.inv (fun o => qN v (nth o) G n) (fun o => qP v (nth o) G n) n G w (.slice (some ⟨b, off, none⟩) n c)).frame ⟨unhide HKI, unhide HSL⟩ (Keep.of_below hb3 (unhide HSL))
        refine ⟨S, ⟨?_, hk.2⟩, fun b hb' => .inl hb', Keep.of_below hb3 (fun b q => q.1)⟩
        rcases k7 with ⟨-, -, q5, q6⟩ | ⟨q, aa, cc, q1, q2, q3, q4, q5, q6⟩
        · exact absurd (by rw [q5, q6]; unfold bt; omega) hbt
        · obtain ⟨bv', x', y', m1, m2, m3, m4, m5, m6, m7⟩ := hk.1
          refine ⟨bv', x', y', m1, m2, m3, m4, m5, m6, .inr ?_⟩
          rcases m7 with ⟨e, -⟩ | ⟨q', aa', cc', n1, n2, n3, n4, n5, n6⟩
          · rw [q1] at e; cases e
          · refine ⟨q', aa', cc', ?_, n2, n3, n4, n5, n6⟩
            rw [bestG_snoc, n1]
            show (if _ then _ else _) = _
            rw [q1] at n1
            cases n1
            rw [if_neg]
            show ¬ bt (qN v (nth o) G n) (qP v (nth o) G n) (qN v (nth q) G n) (qP v (nth q) G n)
            rw [hP1, hP2, ← show x = qN v (nth q) G n from q5, ← show y = qP v (nth q) G n from q6]
            exact hbt
      clear k8 k63 k53 hb3 hbt HCP CP k5 k6 k7 z0 z1
      gi_wp2
      exact unhide HF
  case done =>
    intro D S W hD hI hdef hSD
    obtain ⟨⟨bv, x, y, k1, k2, k3, k4, k5, k6, k7⟩, hSL⟩ := hI
    obtain ⟨q, aa, cc, q1, q2, q3, q4⟩ : ∃ q aa c, bestG (fun o => qN v (nth o) G n) (fun o => qP v (nth o) G n) (wL n G []) = some q ∧ bv = .slice aa G c ∧ Ints W aa G c q ∧ Wy n G q := by
      rcases k7 with ⟨q1, -⟩ | ⟨q, aa, cc, q1, q2, q3, q4, -⟩
      · exact absurd q1 (bestG_some (wL_some hn1 G []))
      · exact ⟨q, aa, cc, q1, q2, q3, q4⟩
    subst q2
    have t0 := (cell_box k5).1
    have HR := hide (And.intro q1 (And.intro q4 q3))
    have hgD : ∀ b, (Value.slice aa G cc).ownBlock = some b → b ≠ D := fun b hb' e => hSD ((k1 D).2 (.inr (.inr (.inr (.inr (by rw [← e]; exact hb'))))))
    have HB := hide k2
    clear q1 q3 q4 k7 k4 k5 k6
    go_wp2_with fail
    refine ⟨by simp, .inl ⟨_, _, rfl, run_takeDeferred hdef, ?_⟩⟩
    refine ⟨_, results_tmp2 rfl _ _ _, q, _, _, (unhide HR).1, (unhide HR).2.1, rfl, ?_, ?_⟩
    · exact ints_keep (unhide HR).2.2 (Keep.putObj (S := fun b => (Value.slice aa G cc).ownBlock = some b) _ (fun e => hgD D e rfl)) (fun b q => q)
    · have hk : Keep (fun b => b < w.heap.size) W (W.putObj D (.deferred none)) := Keep.putObj _ (by omega)
      exact (unhide HB).trans hk.below
end Go.Proofs.Ytkeanlpgnnikjaa
