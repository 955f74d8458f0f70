import Derived.Test.YtffnhflbhckhbaaDoorQR
namespace Go.Proofs.YtffnhflbhckhbaaDoor
open Go.RowKit Go.Shelf
attribute [local go_sem] Oper.semAt_some
theorem info34 : (Tryd.prog.info? 34).map (fun i => (i.zero, i.size, i.bytes)) = some (some (.slice none 0 0), 1, 24) := by kernel_rfl
theorem slVals_len (l : List Sl) : (slVals l).length = l.length := by simp [slVals]
theorem slVals_at (l : List Sl) (j : Nat) (h : j < l.length) : (slVals l)[j]? = some (.slice (slAt l j).la (slAt l j).ln (slAt l j).lc) := by
  unfold slVals slAt
  rw [List.getElem?_map, List.getElem?_eq_getElem h]
  rfl
theorem slVals_append (a b : List Sl) : slVals (a ++ b) = slVals a ++ slVals b := by simp [slVals]
theorem run_append_lsts (w : World) (ty : TypeId) (base : Nat) (v : Value) (n : Nat) (xs : List Sl) (hown : w.ownsRow base 34 1 v n (slVals xs)) (a : Option Addr) (m c : Nat) (l : List Sl) (h : Lsts w a m c l)
    (hsm : n + m ≤ 1000000) (hbase : base ≤ w.heap.size) :
    ∃ v' w', (Builtin.append_ #[22, 22] ty #[v, .slice a m c]).run Tryd.prog w = .ok v' w' ∧ w'.ownsRow base 34 1 v' (n + m) (slVals (xs ++ l)) ∧ w.grownBy w' v.ownBlock := by
  obtain ⟨i0, hi, hz0, hz1, hz2⟩ := info_parts info34
  have hl : l.length = m := h.1.symm
  by_cases hm : 0 < m
  · obtain ⟨b, off, rfl, hb, hcell⟩ := h.cellAt hm
    have hc2 : ∀ j u, (slVals l)[j]? = some u → w.cell? ((⟨b, off, none⟩ : Addr).add j) = some u := by
      intro j u hu
      have hj : j < l.length := by
        rcases Nat.lt_or_ge j l.length with h' | h'
        · exact h'
        · rw [List.getElem?_eq_none (by rw [slVals_len]; exact h')] at hu; cases hu
      rw [slVals_at l j hj] at hu
      cases hu
      have e : (⟨b, off, none⟩ : Addr).add j = ⟨b, off + j, none⟩ := by unfold Addr.add; split <;> simp_all
      rw [e]
      exact hcell j (by omega)
    obtain ⟨v', w', hr, ho, hg, _⟩ := run_append_own (P := Tryd.prog) w base 22 ty 34 i0 _ 1 24 Tryd.underlying22 hi hz0 hz1 hz2 rfl (by decide) v n (slVals xs) hown ⟨b, off, none⟩ m c (slVals l) (by rw [slVals_len, hl, Nat.mul_one]) hc2 (fun u hu => by unfold slVals at hu; obtain ⟨y, _, rfl⟩ := List.mem_map.1 hu; rfl) (by unfold maxLen; omega) (by omega) hbase
    exact ⟨v', w', hr, by rw [slVals_append]; exact ho, hg⟩
  · obtain rfl : m = 0 := by omega
    obtain rfl : l = [] := List.length_eq_zero_iff.1 hl
    have hs : Src Tryd.prog i0.size 22 (.slice a 0 c) 0 [] w := by
      cases a with
      | none => exact Src.ofNil w Tryd.underlying22 c
      | some ad => exact Src.ofSlice w Tryd.underlying22 ad 0 c [] (by simp) (by simp) (by simp)
    refine ⟨v, w, ?_, by simpa using hown, ⟨rfl, rfl, rfl, Nat.le_refl _, fun _ _ _ => rfl⟩⟩
    rcases hown.2 with ⟨rfl, rfl⟩ | ⟨g, cap, cur, rfl, _, _, hnc, _⟩
    · exact run_append_nothing w 22 22 ty 34 i0 Tryd.underlying22 hi none 0 0 (Nat.le_refl _) _ hs
    · exact run_append_nothing w 22 22 ty 34 i0 Tryd.underlying22 hi _ n cap hnc _ hs
theorem wpList_append_lsts (w : World) {ops : Array Oper} {rest : List Oper} {o : Oper} {a : Act} {Q : Exit → Act → World → Prop} (hgd : o.guard = none) (s x : Operand)
    (ho : o.op = .call { callee := .builtin .append, args := #[s, x], argTypes := #[22, 22] })
    (base : Nat) (v : Value) (n : Nat) (xs : List Sl) (hs : a.eval s = v) (hown : w.ownsRow base 34 1 v n (slVals xs))
    (ad : Option Addr) (m c : Nat) (l : List Sl) (hx : a.eval x = .slice ad m c) (h : Lsts w ad m c l)
    (hsm : n + m ≤ 1000000) (hbase : base ≤ w.heap.size)
    (hK : ∀ v' w', w'.ownsRow base 34 1 v' (n + m) (slVals (xs ++ l)) → w.grownBy w' v.ownBlock → wpList Tryd.prog ops Q rest (a.put o.dst v') w') : wpList Tryd.prog ops Q (o :: rest) a w :=
  wpList_plain hgd fun _ hk => by
    obtain ⟨v', w', hr, h2, h3⟩ := run_append_lsts w o.type base v n xs hown ad m c l h hsm hbase
    unfold Oper.wp execOp
    simp only [ho, resolve, invoke, builtin, Sem.run_bind, Sem.run_pure, Result.andThen_ok, List.map_toArray, List.map_cons, List.map_nil, hs, hx, hr]
    exact hk _ _ (hK v' w' h2 h3)
/-- One int more, of a block of its own. -/
theorem ints_one {w : World} {g : Nat} {x : Int} (h : w.cell? ⟨g, 0, none⟩ = some (.int .i64 x)) : Ints w (some ⟨g, 0, none⟩) 1 1 [x] := by
  refine ⟨rfl, Nat.le_refl _, by unfold maxLen; omega, .inr ⟨g, 0, rfl, World.block_lt_of_cell? w _ h, fun j hj => ?_⟩⟩
  obtain rfl : j = 0 := by omega
  exact h
def T3 (w : World) (a : Option Addr) (n : Nat) : Prop := n = 0 ∨ ∃ b off arr fz, a = some ⟨b, off, none⟩ ∧ w.heap[b]? = some (.cells arr 3 fz)
theorem T3.later {w w' : World} {a : Option Addr} {n : Nat} (h : T3 w a n) (hb : Below w.heap.size w w') : T3 w' a n := by
  rcases h with h | ⟨b, off, arr, fz, h1, h2⟩
  · exact Or.inl h
  · exact Or.inr ⟨b, off, arr, fz, h1, by rw [hb.block b (Array.getElem?_eq_some_iff.1 h2).1]; exact h2⟩
theorem T3.apart {w : World} {base n : Nat} {v : Value} {xs : List Value} (ho : w.ownsRow base 34 1 v n xs) {b : Nat} {arr : Array Value} {fz : Nat × Nat} (hb : w.heap[b]? = some (.cells arr 3 fz)) : some b ≠ v.ownBlock := by
  rcases ho.2 with ⟨rfl, _⟩ | ⟨g, cap, cur, rfl, _, hg, _⟩
  · intro h; cases h
  · intro h
    cases h
    rw [hg] at hb
    cases hb
theorem T3.grown {w w' : World} {base k : Nat} {v : Value} {xs : List Value} {a : Option Addr} {n c : Nat} {l : List Int} (h : T3 w a n) (hI : Ints w a n c l) (ho : w.ownsRow base 34 1 v k xs) (hg : w.grownBy w' v.ownBlock) : T3 w' a n ∧ Ints w' a n c l := by
  rcases h with h | ⟨b, off, arr, fz, h1, h2⟩
  · exact ⟨Or.inl h, hI.1, hI.2.1, hI.2.2.1, Or.inl h⟩
  · have hlt := (Array.getElem?_eq_some_iff.1 h2).1
    have hb := hg.block b hlt (T3.apart ho h2)
    refine ⟨Or.inr ⟨b, off, arr, fz, h1, by rw [hb]; exact h2⟩, hI.1, hI.2.1, hI.2.2.1, ?_⟩
    rcases hI.2.2.2 with h0 | ⟨b', off', e, hlt', hc⟩
    · exact Or.inl h0
    · rw [h1] at e
      cases e
      exact Or.inr ⟨b, off, h1, Nat.lt_of_lt_of_le hlt hg.size, fun j hj => (World.cell?_of_block (a := ⟨b, off + j, none⟩) hb).trans (hc j hj)⟩
theorem T3.of_owns {w : World} {B n m : Nat} {a : Option Addr} {c : Nat} {xs : List Value} (h : w.ownsRow B 3 1 (.slice a n c) m xs) : T3 w a n := by
  rcases h.2 with ⟨e, _⟩ | ⟨g, cap, cur, e, _, hg, _⟩
  · cases e; exact Or.inl rfl
  · cases e; exact Or.inr ⟨g, 0, cur, (0, 0), rfl, hg⟩
theorem own_empty (W : World) (base : Nat) (h : base ≤ W.heap.size) : (W.alloc (.cells #[] 3)).ownsRow base 3 1 (.slice (some ⟨W.heap.size, 0, none⟩) 0 0) 0 (intVals []) :=
  World.ownsRow_made (base := base) (e := 3) (size := 1) W #[] 0 h (by unfold maxLen; omega) rfl
theorem Lsts.of_owns {w : World} {B : Nat} {v : Value} {n : Nat} {l : List Sl} (h : w.ownsRow B 34 1 v n (slVals l)) (hg : ∀ s ∈ l, Ints w s.la s.ln s.lc s.ints) : ∃ a c, v = .slice a n c ∧ Lsts w a n c l := by
  have hl : l.length = n := by have := h.1; rw [slVals_len] at this; omega
  have h0 := h
  rcases h.2 with ⟨rfl, rfl⟩ | ⟨g, cap, cur, rfl, hbg, hgg, hnc, hcm, hcs, htake⟩
  · exact ⟨none, 0, rfl, hl.symm, Nat.le_refl _, by unfold maxLen; omega, hg, .inl rfl⟩
  · refine ⟨_, cap, rfl, hl.symm, hnc, hcm, hg, .inr ⟨g, 0, rfl, ?_, fun j hj => ?_⟩⟩
    · rcases Nat.lt_or_ge g w.heap.size with h' | h'
      · exact h'
      · rw [Array.getElem?_eq_none h'] at hgg; cases hgg
    · rw [Nat.zero_add, h0.cellAt j (by omega), slVals_at l j (by omega)]
/-- One list more, of a block of its own. -/
theorem lsts_one {w : World} {g : Nat} {s : Sl} (h : w.cell? ⟨g, 0, none⟩ = some (.slice s.la s.ln s.lc)) (hI : Ints w s.la s.ln s.lc s.ints) : Lsts w (some ⟨g, 0, none⟩) 1 1 [s] := by
  refine ⟨rfl, Nat.le_refl _, by unfold maxLen; omega, fun t ht => ?_, .inr ⟨g, 0, rfl, World.block_lt_of_cell? w _ h, fun j hj => ?_⟩⟩
  · rw [List.mem_singleton] at ht; subst ht; exact hI
  · obtain rfl : j = 0 := by omega
    exact h
/-- One list more at a row's end: in its own block, or in a new one. -/
theorem run_append_one (w : World) (ty : TypeId) (base : Nat) (v : Value) (n : Nat) (xs : List Sl) (hown : w.ownsRow base 34 1 v n (slVals xs)) (g c : Nat) (s : Sl) (hc : w.cell? ⟨g, 0, none⟩ = some (.slice s.la s.ln s.lc))
    (hsm : n ≤ 100000) (hbase : base ≤ w.heap.size) :
    ∃ v' w', (Builtin.append_ #[22, 22] ty #[v, .slice (some ⟨g, 0, none⟩) 1 c]).run Tryd.prog w = .ok v' w' ∧ w'.ownsRow base 34 1 v' (n + 1) (slVals (xs ++ [s])) ∧ w.grownBy w' v.ownBlock ∧ (v'.ownBlock = v.ownBlock ∨ v'.ownBlock = some w.heap.size) := by
  obtain ⟨i0, hi, hz0, hz1, hz2⟩ := info_parts info34
  have hnews : ∀ j u, (slVals [s])[j]? = some u → w.cell? ((⟨g, 0, none⟩ : Addr).add j) = some u := by
    intro j u hu
    cases j with
    | zero => simp [slVals, Sl.val] at hu; subst hu; simpa [Addr.add] using hc
    | succ j => simp [slVals] at hu
  have hone : ∀ u ∈ slVals [s], u.oneCell' = true := fun u hu => by simp [slVals, Sl.val] at hu; subst hu; rfl
  obtain ⟨v', w', hr, ho, hg, _⟩ := run_append_own (P := Tryd.prog) w base 22 ty 34 i0 _ 1 24 Tryd.underlying22 hi hz0 hz1 hz2 rfl (by decide) v n (slVals xs) hown ⟨g, 0, none⟩ 1 c (slVals [s]) rfl hnews hone (by unfold maxLen; omega) (by omega) hbase
  refine ⟨v', w', hr, by rw [slVals_append]; exact ho, hg, ?_⟩
  rcases hown.2 with ⟨rfl, rfl⟩ | ⟨g', cap, cur, rfl, hbg, hgg, hnc, hcm, hcs, htake⟩
  · have hr2 := run_append_nil (P := Tryd.prog) w 22 ty 34 i0 _ Tryd.underlying22 hi hz0 ⟨g, 0, none⟩ 1 c (slVals [s]) (by rw [hz1]; rfl) hnews (by omega) (by omega) (by rw [hz2]; omega)
    rw [hr] at hr2
    injection hr2 with e1 _
    rw [e1]
    exact .inr rfl
  · by_cases hroom : n + 1 ≤ cap
    · have hr2 := run_append_room (P := Tryd.prog) w 22 ty 34 i0 Tryd.underlying22 hi g' n cap cur hgg ⟨g, 0, none⟩ 1 c (slVals [s]) (by rw [hz1]; rfl) hnews hone hroom (by rw [hz1, hcs]; simp [slVals]; omega)
      rw [hr] at hr2
      injection hr2 with e1 _
      rw [e1]
      exact .inl rfl
    · have holds : ∀ j u, (slVals xs)[j]? = some u → w.cell? ((⟨g', 0, none⟩ : Addr).add j) = some u := hown.cells (g := g') rfl
      have hr2 := run_append_grow (P := Tryd.prog) w 22 ty 34 i0 _ Tryd.underlying22 hi hz0 ⟨g', 0, none⟩ n cap (slVals xs) (by rw [hz1]; exact hown.1) holds ⟨g, 0, none⟩ 1 c (slVals [s]) (by rw [hz1]; rfl) hnews (by omega) (by omega) (by rw [hz2]; exact growslice_fits (by omega) (by omega))
      rw [hr] at hr2
      injection hr2 with e1 _
      rw [e1]
      exact .inr rfl
theorem own_empty34 (W : World) (base : Nat) (h : base ≤ W.heap.size) : (W.alloc (.cells #[] 34)).ownsRow base 34 1 (.slice (some ⟨W.heap.size, 0, none⟩) 0 0) 0 (slVals []) :=
  World.ownsRow_made (base := base) (e := 34) (size := 1) W #[] 0 h (by unfold maxLen; omega) rfl
theorem wpList_append_int1 (w : World) {ops : Array Oper} {rest : List Oper} {o : Oper} {a : Act} {Q : Exit → Act → World → Prop} (hgd : o.guard = none) (s x : Operand)
    (ho : o.op = .call { callee := .builtin .append, args := #[s, x], argTypes := #[34, 34] })
    (base : Nat) (v : Value) (n : Nat) (xs : List Int) (hs : a.eval s = v) (hown : w.ownsRow base 3 1 v n (intVals xs))
    (g c : Nat) (y : Int) (hx : a.eval x = .slice (some ⟨g, 0, none⟩) 1 c) (hc : w.cell? ⟨g, 0, none⟩ = some (.int .i64 y))
    (hsm : n ≤ 1000) (hbase : base ≤ w.heap.size)
    (hK : ∀ v' w', w'.ownsRow base 3 1 v' (n + 1) (intVals (xs ++ [y])) → w.grownBy w' v.ownBlock → (v'.ownBlock = v.ownBlock ∨ v'.ownBlock = some w.heap.size) → wpList Tryd.prog ops Q rest (a.put o.dst v') w') : wpList Tryd.prog ops Q (o :: rest) a w :=
  wpList_plain hgd fun _ hk => by
    obtain ⟨v', w', hr, h2, h3, h4⟩ := run_append_int1 w o.type base v n xs hown g c y hc (by omega) hbase
    unfold Oper.wp execOp
    simp only [ho, resolve, invoke, builtin, Sem.run_bind, Sem.run_pure, Result.andThen_ok, List.map_toArray, List.map_cons, List.map_nil, hs, hx, hr]
    refine hk _ _ (hK v' w' h2 h3 ?_)
    rcases h4 with ⟨g, cap, e1, e2⟩ | ⟨e, -⟩
    · left; rw [e1, e2]; rfl
    · exact .inr e
theorem wpList_append_one (w : World) {ops : Array Oper} {rest : List Oper} {o : Oper} {a : Act} {Q : Exit → Act → World → Prop} (hgd : o.guard = none) (sx x : Operand)
    (ho : o.op = .call { callee := .builtin .append, args := #[sx, x], argTypes := #[22, 22] })
    (base : Nat) (v : Value) (n : Nat) (xs : List Sl) (hs : a.eval sx = v) (hown : w.ownsRow base 34 1 v n (slVals xs))
    (g c : Nat) (s : Sl) (hx : a.eval x = .slice (some ⟨g, 0, none⟩) 1 c) (hc : w.cell? ⟨g, 0, none⟩ = some (.slice s.la s.ln s.lc))
    (hsm : n ≤ 1000) (hbase : base ≤ w.heap.size)
    (hK : ∀ v' w', w'.ownsRow base 34 1 v' (n + 1) (slVals (xs ++ [s])) → w.grownBy w' v.ownBlock → (v'.ownBlock = v.ownBlock ∨ v'.ownBlock = some w.heap.size) → wpList Tryd.prog ops Q rest (a.put o.dst v') w') : wpList Tryd.prog ops Q (o :: rest) a w :=
  wpList_plain hgd fun _ hk => by
    obtain ⟨v', w', hr, h2, h3, h4⟩ := run_append_one w o.type base v n xs hown g c s hc (by omega) hbase
    unfold Oper.wp execOp
    simp only [ho, resolve, invoke, builtin, Sem.run_bind, Sem.run_pure, Result.andThen_ok, List.map_toArray, List.map_cons, List.map_nil, hs, hx, hr]
    exact hk _ _ (hK v' w' h2 h3 h4)
/-- Two rows, in blocks of their own. -/
def Ap (va vb : Value) : Prop := vb.ownBlock = none ∨ vb.ownBlock ≠ va.ownBlock
theorem Ap.sym {va vb : Value} (h : Ap va vb) : Ap vb va := by
  unfold Ap at *
  rcases hv : va.ownBlock with _ | q
  · exact .inl rfl
  · right
    rcases h with h | h
    · rw [h]; exact fun e => by cases e
    · rw [hv] at h; exact fun e => h e.symm
theorem Ap.next {w : World} {base e sz k : Nat} {va va' vb : Value} {xs : List Value} (h : Ap va vb) (hb : w.ownsRow base e sz vb k xs) (h' : va'.ownBlock = va.ownBlock ∨ va'.ownBlock = some w.heap.size) : Ap va' vb := by
  rcases h' with h' | h'
  · unfold Ap at *; rw [h']; exact h
  · unfold Ap
    rcases hv : vb.ownBlock with _ | q
    · exact .inl rfl
    · right
      rw [h']
      intro e
      cases e
      have := (hb.lt _ hv).2
      omega
theorem Fm.look1 {w : World} {b n : Nat} {m : Nat → Option Value} (h : Fm w b n m) {u : Nat} (hu : u < 256) : (Instr.lookup 37 (.map (some b)) (.int .i64 (u : Int)) false).run Tryd.prog w = .ok ((m u).getD zst) w := by
  obtain ⟨D, hD, hm⟩ := h
  obtain ⟨v, ps, hrun, hv⟩ := hD.lookup law3 Tryd.underlying37 (zero40 w) (zd := .held zst) (zp := []) rfl (Maps.keyOf_int_mk Tryd.underlying3 (wf_key hu))
  obtain ⟨m1, m2⟩ := hm u hu
  rw [hrun]
  rw [m2] at hv
  unfold stR at hv
  simp only [Option.some.injEq, Prod.mk.injEq, DataW.held.injEq] at hv
  rw [hv.1]
end Go.Proofs.YtffnhflbhckhbaaDoor
