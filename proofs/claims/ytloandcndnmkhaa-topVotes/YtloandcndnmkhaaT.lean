import Derived.Test.YtloandcndnmkhaaS
namespace Go.Proofs.Ytloandcndnmkhaa
open Go.RowKit Go.Shelf
attribute [local go_sem] Oper.semAt_some
theorem grL_mem {n : Nat} {q : List Int} (hq : ordE q n = 0) : ∀ f (o : List Int), o.length + f = n → q.take o.length = o → q ∈ grL n f o := by
  have hl := ord_len hq
  intro f
  induction f with
  | zero =>
    intro o ho ht
    rw [List.take_of_length_le (by omega)] at ht
    rw [ht]; simp [grL]
  | succ f ih =>
    intro o ho ht
    obtain ⟨x, x1, x2, _⟩ := ord_at hq (show o.length < n by omega)
    have e : q.take (o.length + 1) = o ++ [(x : Int)] := by
      rw [List.take_add_one, ht, List.getElem?_eq_getElem (by omega)]
      rw [List.getElem?_eq_getElem (by omega)] at x2
      simp only [Option.getD_some] at x2
      rw [x2]; rfl
    have hnin : ¬ (x : Int) ∈ o := fun hin => by
      have hnd : (q.take (o.length + 1)).Nodup := List.Sublist.nodup (List.take_sublist _ _) (ord_nodup hq)
      rw [e, List.nodup_append] at hnd
      exact hnd.2.2 _ hin _ (by simp) rfl
    have := ih (o ++ [(x : Int)]) (by simp; omega) (by rw [List.length_append]; exact e)
    unfold grL
    rw [List.mem_flatMap]
    exact ⟨x, List.mem_range.2 x1, by rw [if_neg hnin]; exact this⟩
theorem grL_some (n : Nat) : grL n n [] ≠ [] := fun h => by
  have := grL_mem (n := n) (q := upL n) (ord_up (List.Perm.refl _)) n [] (by simp) (by simp)
  rw [h] at this
  cases this
/-- Between two rounds: where the best one lies. -/
def KI (s : List Int → Int) (n : Nat) (w1 : World) (G : Nat) (pre : List (List Int)) (S : Nat → Prop) (W : World) : Prop :=
  ∃ bv : Value, (∀ b, S b ↔ b < w1.heap.size ∨ b = w1.heap.size ∨ b = w1.heap.size + 1 ∨ bv.ownBlock = some b) ∧ Below w1.heap.size w1 W ∧ w1.heap.size + 1 < W.heap.size ∧ W.cell? ⟨w1.heap.size, 0, none⟩ = some (.slice (some ⟨G, 0, none⟩) n n) ∧ W.cell? ⟨w1.heap.size + 1, 0, none⟩ = some bv ∧ W.frozen? ⟨w1.heap.size + 1, 0, none⟩ = false ∧
    ((bestF s pre = none ∧ bv = .slice none 0 0) ∨ ∃ q g c, bestF s pre = some q ∧ bv = .slice (some ⟨g, 0, none⟩) n c ∧ Ints W (some ⟨g, 0, none⟩) n c q ∧ ordE q n = 0)
theorem cell_box {W : World} {B : Nat} {v : Value} {t : TypeId} (h : W.heap[B]? = some (.cells #[v] t (0, 0))) : W.cell? ⟨B, 0, none⟩ = some v ∧ W.frozen? ⟨B, 0, none⟩ = false := by
  constructor <;> simp [World.cell?, World.frozen?, h]
theorem cell_new (W : World) (v : Value) (t : TypeId) : (W.alloc (.cells #[v] t)).cell? ⟨W.heap.size, 0, none⟩ = some v ∧ (W.alloc (.cells #[v] t)).frozen? ⟨W.heap.size, 0, none⟩ = false := cell_box (World.alloc_heap_new W _)
theorem ints_keep {W W' : World} {g n c : Nat} {q : List Int} {S : Nat → Prop} (h : Ints W (some ⟨g, 0, none⟩) n c q) (k : Keep S W W') (hg : S g) : Ints W' (some ⟨g, 0, none⟩) n c q := by
  obtain ⟨h1, h2, h3, h4⟩ := h
  refine ⟨h1, h2, h3, ?_⟩
  rcases h4 with h | ⟨b, off, e, hb, hc⟩
  · exact .inl h
  · cases e
    exact .inr ⟨g, 0, rfl, Nat.lt_of_lt_of_le hb k.size, fun j hj => (k.cell (p := ⟨g, 0 + j, none⟩) hg).trans (hc j hj)⟩
theorem KI.inv (s : List Int → Int) {n : Nat} (hn : 0 < n) (w1 : World) (G : Nat) : Inv (KI s n w1 G) := by
  refine ⟨fun {pre S W W'} ⟨bv, h1, h2, h3, h4, h5, h6, h7⟩ k => ⟨bv, h1, ?_, Nat.lt_of_lt_of_le h3 k.size, ?_, ?_, ?_, ?_⟩, fun {pre S W} ⟨bv, h1, h2, h3, h4, h5, h6, h7⟩ b hb => ?_⟩
  · have k2 : Keep (fun b => b < w1.heap.size) W W' := k.sub fun b hb => (h1 b).2 (.inl hb)
    exact h2.trans k2.below
  · exact (k.cell (p := ⟨w1.heap.size, 0, none⟩) ((h1 _).2 (.inr (.inl rfl)))).trans h4
  · exact (k.cell (p := ⟨w1.heap.size + 1, 0, none⟩) ((h1 _).2 (.inr (.inr (.inl rfl))))).trans h5
  · exact (World.frozen?_of_block (a := ⟨w1.heap.size + 1, 0, none⟩) (k.block _ ((h1 _).2 (.inr (.inr (.inl rfl)))))).trans h6
  · rcases h7 with h | ⟨q, g, c, q1, q2, q3, q4⟩
    · exact .inl h
    · exact .inr ⟨q, g, c, q1, q2, ints_keep q3 k ((h1 g).2 (.inr (.inr (.inr (by rw [q2]; rfl))))), q4⟩
  · rcases (h1 b).1 hb with h | h | h | h
    · have := h2.size; omega
    · omega
    · omega
    · rcases h7 with ⟨_, e⟩ | ⟨q, g, c, q1, q2, q3, q4⟩
      · rw [e] at h; cases h
      · rw [q2] at h
        obtain ⟨b', off', e, hb', _⟩ := q3.cellAt hn
        cases e
        cases h
        exact hb'
set_option maxRecDepth 100000 in
set_option maxHeartbeats 8000000 in
theorem kemeny_any (n : Nat) (a : Option Addr) (m c : Nat) (l : List Bal) (w : World) (h : Bals w a m c l) (hg : Good n l) :
    Calls Try.prog 18 #[.int .i64 n, .slice a m c] w fun e w' => ∃ q aa cc, bestF (fun o => agS (prf l l.length) o n n) (grL n n []) = some q ∧ e = .returned (two (.slice aa n cc) 0) ∧ Ints w' aa n cc q ∧ Below w.heap.size w w' := by
  have CP := hide (pairs_any n a m c l w h hg)
  have hn1 := hg.1
  have hn6 := hg.2.1
  have HPP : Hid (∀ x y, 0 ≤ prf l l.length x y ∧ prf l l.length x y ≤ 30000) := fun x y => by
    have := prf_le hg x y l.length (Nat.le_refl _)
    have := hg.2.2.1
    omega
  clear h hg
  generalize prf l l.length = p at *
  refine (callsIn_wide (n := 9)).1 ?_
  refine callsIn_of_wp_marks Try.func18 rfl trivial ?_
  simp only [Try.ntmps18, List.size_toArray, List.length_cons, List.length_nil, Nat.reduceAdd, Nat.reduceSub, Array.replicate_succ, Array.replicate_zero, List.push_toArray, List.append_toArray, List.nil_append, List.cons_append]
  refine wpIn_wide.2 ?_
  go_wp2_with fail
  refine (unhide CP).mono ?_
  rintro e w1 ⟨G, Bf, rfl, hT, hb1⟩
  unfold two
  have HT := hide hT
  clear hT CP
  go_wp2_with fail
  refine (all_any n _).mono ?_
  rintro e w3 ⟨rfl, hw3⟩
  go_wp2_with fail
  have mx : Try.prog.follows .mixedOrders = true := by kernel_rfl
  obtain ⟨wX, hwX⟩ : ∃ y, y = ((w1.alloc (.cells #[.slice (some ⟨G, 0, none⟩) n n] 31)).alloc (.cells #[.slice none 0 0] 23)).alloc (.cells #[.int .i64 (n : Int)] 3) := ⟨_, rfl⟩
  rw [← hwX]
  have hbX : Below w1.heap.size w1 wX := by rw [hwX]; exact (((Below.refl _ w1).alloc (Nat.le_refl _) _).alloc (by simp) _).alloc (by simp; omega) _
  have hsX : wX.heap.size = w1.heap.size + 3 := by rw [hwX]; simp
  have hc6 : wX.cell? ⟨w1.heap.size, 0, none⟩ = some (.slice (some ⟨G, 0, none⟩) n n) := by
    rw [hwX, World.cell?_alloc_past _ _ _ (show w1.heap.size < _ by rw [World.size_alloc, World.size_alloc]; omega), World.cell?_alloc_past _ _ _ (show w1.heap.size < _ by rw [World.size_alloc]; omega)]; simp
  have hc8 : wX.cell? ⟨w1.heap.size + 1, 0, none⟩ = some (.slice none 0 0) := by
    rw [hwX, World.cell?_alloc_past _ _ _ (show w1.heap.size + 1 < _ by rw [World.size_alloc, World.size_alloc]; omega)]
    have := cell_new (w1.alloc (.cells #[.slice (some ⟨G, 0, none⟩) n n] 31)) (.slice none 0 0) 23
    rw [World.size_alloc] at this; exact this.1
  have hf8 : wX.frozen? ⟨w1.heap.size + 1, 0, none⟩ = false := by
    have := cell_new (w1.alloc (.cells #[.slice (some ⟨G, 0, none⟩) n n] 31)) (.slice none 0 0) 23
    rw [World.size_alloc] at this
    rw [hwX]
    refine Eq.trans (World.frozen?_of_block (a := ⟨w1.heap.size + 1, 0, none⟩) (Below.heap_alloc _ _ _ ?_)) this.2
    rw [World.size_alloc, World.size_alloc]; exact Nat.lt_succ_self _
  have hcn : wX.cell? ⟨w1.heap.size + 2, 0, none⟩ = some (.int .i64 n) := by
    have := cell_new ((w1.alloc (.cells #[.slice (some ⟨G, 0, none⟩) n n] 31)).alloc (.cells #[.slice none 0 0] 23)) (.int .i64 n) 3
    rw [World.size_alloc, World.size_alloc] at this
    rw [hwX]; exact this.1
  clear hwX
  refine (wpIn_wide (n := 9)).1 ?_
  refine range_all n (by omega) (gf := 70) (lb := #[.pointer (some ⟨w1.heap.size + 1 + 1, 0, none⟩)]) rfl (enters_of Try.func70 (by kernel_rfl) rfl) rfl
    (KI (fun o => agS p o n n) n w1 G) (KI.inv _ hn1 w1 G) (fun b => b < w1.heap.size ∨ b = w1.heap.size ∨ b = w1.heap.size + 1)
    ⟨.slice none 0 0, fun b => by constructor <;> intro h <;> (rcases h with h | h | h) <;> simp_all [Value.ownBlock], hbX, by omega, hc6, hc8, hf8, .inl ⟨rfl, rfl⟩⟩ (grL n n []) ?iter
    (fun o gb cb => { tmps := #[.int .i64 n, .slice a m c, undef, undef, .slice none 0 0, .int .i64 0, .pointer (some ⟨w1.heap.size, 0, none⟩), .int .i64 0, .pointer (some ⟨w1.heap.size + 1, 0, none⟩), .slice (some ⟨gb, 0, none⟩) o.length cb, .tuple #[.slice (some ⟨G, 0, none⟩) n n, .int .i64 0], .int .i64 n, .slice a m c, .tuple #[.slice (some ⟨G, 0, none⟩) n n, .int .i64 0], .slice (some ⟨G, 0, none⟩) n n, .int .i64 0, .int .i64 0, .bool false, undef, .int .i64 n, .func (.func 70) #[] #[.pointer (some ⟨w1.heap.size + 1 + 1, 0, none⟩)], .slice (some ⟨gb, 0, none⟩) o.length cb, undef, undef, undef, undef, undef, undef, undef, undef, undef, undef, undef, undef, undef], defers := [] }) ?assign ?body ?done
  case iter =>
    intro lp J JI hY S W hJ hbW hSS
    refine callsIn_wide.2 ?_
    refine all1_any JI hY hn1 hn6 S W hJ (Bn := w1.heap.size + 2) (by have := hbW.size; omega) (fun hs => ?_) ((hbW.cell (p := ⟨w1.heap.size + 2, 0, none⟩) (by show w1.heap.size + 2 < _; omega)).trans hcn)
    rcases hSS _ hs with h | h
    · omega
    · omega
  case assign =>
    intro lp mm o gb cb W K hK
    gi_wp2
    exact hK
  case body =>
    intro lp mm pre o S W gb cb hI hin hgS hgl hlen hord
    obtain ⟨bv, k1, k2, k3, k4, k5, k6, k7⟩ := hI
    have hol := ord_len hord
    have HK1 := hide k1
    have HK2 := hide k2
    have HIN := hide hin
    have HORD := hide hord
    have hTW := (unhide HT).later k2
    have CO := hide (fun X (hx : Below W.heap.size W X) => against_any w.heap.size X G Bf n p (some ⟨gb, 0, none⟩) cb o (hTW.later hx) (by have := (unhide HIN).later hx; rw [hol] at this; exact this) (unhide HORD) hn1 hn6 (unhide HPP))
    clear k1 k2 hin hord
    have hb2 := unhide HK2
    have HSET : Hid (bestF (fun o => agS p o n n) (pre ++ [o]) = some o → ∃ S', KI (fun o => agS p o n n) n w1 G (pre ++ [o]) S' (W.setCell ⟨w1.heap.size + 1, 0, none⟩ (.slice (some ⟨gb, 0, none⟩) n cb)).drew ∧ (∀ b, S' b → S b ∨ b = gb ∨ W.heap.size ≤ b) ∧ Keep (fun b => b < W.heap.size ∧ ¬ S b) W (W.setCell ⟨w1.heap.size + 1, 0, none⟩ (.slice (some ⟨gb, 0, none⟩) n cb)).drew) := fun hbest => by
      have hB8 : S (w1.heap.size + 1) := (unhide HK1 _).2 (.inr (.inr (.inl rfl)))
      have hne : gb ≠ w1.heap.size + 1 := fun e => hgS (e ▸ hB8)
      have hbl : ∀ b, b ≠ w1.heap.size + 1 → (W.setCell ⟨w1.heap.size + 1, 0, none⟩ (.slice (some ⟨gb, 0, none⟩) n cb)).drew.heap[b]? = W.heap[b]? := fun b hb => Below.heap_setCell W ⟨w1.heap.size + 1, 0, none⟩ _ b hb
      have hkk : ∀ (U : Nat → Prop), ¬ U (w1.heap.size + 1) → Keep U W (W.setCell ⟨w1.heap.size + 1, 0, none⟩ (.slice (some ⟨gb, 0, none⟩) n cb)).drew := fun U hU => ⟨rfl, rfl, rfl, by show _ ≤ (W.setCell _ _).heap.size; simp, fun b hb => hbl b (fun e => hU (e ▸ hb))⟩
      refine ⟨fun b => b < w1.heap.size ∨ b = w1.heap.size ∨ b = w1.heap.size + 1 ∨ (Value.slice (some ⟨gb, 0, none⟩) n cb).ownBlock = some b, ⟨.slice (some ⟨gb, 0, none⟩) n cb, fun b => Iff.rfl, ?_, ?_, ?_, ?_, ?_, .inr ⟨o, gb, cb, hbest, rfl, ?_, unhide HORD⟩⟩, fun b hb => ?_, hkk _ (fun h => h.2 hB8)⟩
      · exact hb2.trans (hkk (fun b => b < w1.heap.size) (by omega)).below
      · show _ < (W.setCell _ _).heap.size; simpa using k3
      · exact ((hkk (fun b => b = w1.heap.size) (by omega)).cell (p := ⟨w1.heap.size, 0, none⟩) rfl).trans k4
      · show (W.setCell _ _).cell? _ = _
        exact World.cell?_setCell_same' _ _ _ (by rw [k5]; rfl)
      · show (W.setCell _ _).frozen? _ = _
        rw [World.frozen?_setCell]; exact k6
      · have := unhide HIN
        rw [hol] at this
        exact ints_keep this (hkk (fun b => b = gb) (fun e => hne e.symm)) rfl
      · rcases hb with h | h | h | h
        · exact .inl ((unhide HK1 b).2 (.inl h))
        · exact .inl ((unhide HK1 b).2 (.inr (.inl h)))
        · exact .inl ((unhide HK1 b).2 (.inr (.inr (.inl h))))
        · cases h; exact .inr (.inl rfl)
    have hdd : Fence.wide.depth.isSome = true → 1 ≤ mm := fun h => by simp [Fence.wide] at h
    rcases k7 with ⟨q1, q2⟩ | ⟨q, g, cg, q1, q2, q3, q4⟩
    · subst q2
      have hq : ∀ w, (binOp .eql 23 (.slice none 0 0) (.slice none 0 0)).run Try.prog w = .ok (.bool true) w := fun w => Lib.run_eql_slice_nil w 23 3 none 0 0 0 0 Try.underlying23
      have HF := hide (unhide HSET (by rw [bestF_snoc, q1]))
      clear HSET q1 hTW
      rw [hol]
      gi_wp2
      gi_region_with_o (refine ⟨trivial, ?_⟩)
      all_goals gi_wp2
      all_goals exact unhide HF
    · subst q2
      have hq : ∀ w, (binOp .eql 23 (.slice (some ⟨g, 0, none⟩) n cg) (.slice none 0 0)).run Try.prog w = .ok (.bool false) w := fun w => Lib.run_eql_slice_nil w 23 3 (some ⟨g, 0, none⟩) n cg 0 0 Try.underlying23
      have COd := hide ((unhide CO W.drew (Below.refl _ _).drew))
      have CBd := hide (against_any w.heap.size W.drew G Bf n p (some ⟨g, 0, none⟩) cg q (hTW.later (Below.refl _ _).drew) (q3.later (Below.refl _ _).drew) q4 hn1 hn6 (unhide HPP))
      by_cases hless : agS p o n n < agS p q n n
      · have hd : decide (agS p o n n < agS p q n n) = true := decide_eq_true hless
        have HF := hide (unhide HSET (by rw [bestF_snoc, q1]; simp only [hless, if_true]))
        clear HSET q1 q3 q4 hTW hless CO
        rw [hol]
        generalize agS p o n n = s1 at *
        generalize agS p q n n = s2 at *
        gi_wp2
        gi_region_with_o (first | (refine ⟨trivial, hdd, ?_⟩; gi_at_call 52; with_reducible refine (CallsIn.inRound lp (callsIn_wide.2 (unhide COd))).mono ?_; rintro e w' ⟨rfl, hw'⟩; subst w') | (refine ⟨trivial, hdd, ?_⟩; gi_at_call 52; with_reducible refine (CallsIn.inRound lp (callsIn_wide.2 (unhide CBd))).mono ?_; rintro e w' ⟨rfl, hw'⟩; subst w'))
        all_goals gi_wp2
        all_goals exact unhide HF
      · have hd : decide (agS p o n n < agS p q n n) = false := decide_eq_false hless
        have HF : Hid (∃ S', KI (fun o => agS p o n n) n w1 G (pre ++ [o]) S' W.drew ∧ (∀ b, S' b → S b ∨ b = gb ∨ W.heap.size ≤ b) ∧ Keep (fun b => b < W.heap.size ∧ ¬ S b) W W.drew) := by
          refine ⟨S, ⟨.slice (some ⟨g, 0, none⟩) n cg, unhide HK1, hb2.drew, k3, k4, k5, k6, .inr ⟨q, g, cg, ?_, rfl, q3.later (Below.refl _ _).drew, q4⟩⟩, fun b hb => .inl hb, ⟨rfl, rfl, rfl, Nat.le_refl _, fun _ _ => rfl⟩⟩
          rw [bestF_snoc, q1]; simp only [hless, if_false]
        clear HSET q1 q3 q4 hTW hless CO
        rw [hol]
        generalize agS p o n n = s1 at COd hd
        generalize agS p q n n = s2 at CBd hd
        gi_wp2
        gi_region_with_o (first | (refine ⟨trivial, hdd, ?_⟩; gi_at_call 52; with_reducible refine (CallsIn.inRound lp (callsIn_wide.2 (unhide COd))).mono ?_; rintro e w' ⟨rfl, hw'⟩; subst w') | (refine ⟨trivial, hdd, ?_⟩; gi_at_call 52; with_reducible refine (CallsIn.inRound lp (callsIn_wide.2 (unhide CBd))).mono ?_; rintro e w' ⟨rfl, hw'⟩; subst w'))
        all_goals gi_wp2
        all_goals exact unhide HF
  case done =>
    intro D S W hD hI hdef hSD
    obtain ⟨bv, k1, k2, k3, k4, k5, k6, k7⟩ := hI
    obtain ⟨q, g, cg, q1, q2, q3, q4⟩ : ∃ q g c, bestF (fun o => agS p o n n) (grL n n []) = some q ∧ bv = .slice (some ⟨g, 0, none⟩) n c ∧ Ints W (some ⟨g, 0, none⟩) n c q ∧ ordE q n = 0 := by
      rcases k7 with ⟨q1, _⟩ | h
      · exact absurd ((bestF_none _ _).1 q1) (grL_some n)
      · exact h
    subst q2
    have hD3 : w1.heap.size + 3 ≤ D := by omega
    have HQ := hide (And.intro q1 q3)
    have HB := hide (hb1.trans (k2.mono hb1.size))
    have hgD : g ≠ D := fun e => hSD ((k1 D).2 (.inr (.inr (.inr (by rw [← e]; rfl)))))
    clear q1 q3 q4 k7
    go_wp2_with fail
    refine ⟨by simp, .inl ⟨_, _, rfl, run_takeDeferred hdef, ?_⟩⟩
    refine ⟨_, results_tmp2 rfl _ _ _, q, _, _, (unhide HQ).1, rfl, ?_, ?_⟩
    · exact ints_keep (unhide HQ).2 (Keep.putObj (S := fun b => b = g) _ (fun e => hgD e.symm)) rfl
    · have hk : Keep (fun b => b < w.heap.size) W (W.putObj D (.deferred none)) := Keep.putObj _ (by have := hb1.size; omega)
      exact (unhide HB).trans hk.below
end Go.Proofs.Ytloandcndnmkhaa
