import Derived.Test.YtihmbfapbkddeaaV
import Derived.Deep.RegionHeld3
import Derived.Test.YtihmbfapbkddeaaR
namespace Go.Proofs.Ytihmbfapbkddeaa
open Go.RowKit
theorem slVals_len (l : List Sl) : (slVals l).length = l.length := by simp [slVals]
theorem slVals_at (l : List Sl) (j : Nat) (h : j < l.length) : (slVals l)[j]? = some (.slice (slAt l j).la (slAt l j).ln (slAt l j).lc) := by
  unfold slVals slAt
  rw [List.getElem?_map, List.getElem?_eq_getElem h]
  rfl
theorem slVals_append (a b : List Sl) : slVals (a ++ b) = slVals a ++ slVals b := by simp [slVals]
theorem run_append_lsts (w : World) (ty : TypeId) (base : Nat) (v : Value) (n : Nat) (xs : List Sl) (hown : w.ownsRow base 23 1 v n (slVals xs)) (a : Option Addr) (m c : Nat) (l : List Sl) (h : Lsts w a m c l)
    (hsm : n + m ≤ 1000000) (hbase : base ≤ w.heap.size) :
    ∃ v' w', (Builtin.append_ #[22, 22] ty #[v, .slice a m c]).run Try.prog w = .ok v' w' ∧ w'.ownsRow base 23 1 v' (n + m) (slVals (xs ++ l)) ∧ w.grownBy w' v.ownBlock := by
  obtain ⟨i0, hi, hz0, hz1, hz2⟩ := info_parts info23
  have hl : l.length = m := h.1.symm
  by_cases hm : 0 < m
  · obtain ⟨b, off, rfl, hb, hcell⟩ := h.cellAt hm
    have hc2 : ∀ j u, (slVals l)[j]? = some u → w.cell? ((⟨b, off, none⟩ : Addr).add j) = some u := by
      intro j u hu
      have hj : j < l.length := by
        rcases Nat.lt_or_ge j l.length with h' | h'
        · exact h'
        · rw [List.getElem?_eq_none (by rw [slVals_len]; exact h')] at hu; cases hu
      rw [slVals_at l j hj] at hu
      cases hu
      have e : (⟨b, off, none⟩ : Addr).add j = ⟨b, off + j, none⟩ := by unfold Addr.add; split <;> simp_all
      rw [e]
      exact hcell j (by omega)
    obtain ⟨v', w', hr, ho, hg, _⟩ := run_append_own (P := Try.prog) w base 22 ty 23 i0 _ 1 24 Try.underlying22 hi hz0 hz1 hz2 rfl (by decide) v n (slVals xs) hown ⟨b, off, none⟩ m c (slVals l) (by rw [slVals_len, hl, Nat.mul_one]) hc2 (fun u hu => by unfold slVals at hu; obtain ⟨y, _, rfl⟩ := List.mem_map.1 hu; rfl) (by unfold maxLen; omega) (by omega) hbase
    exact ⟨v', w', hr, by rw [slVals_append]; exact ho, hg⟩
  · obtain rfl : m = 0 := by omega
    obtain rfl : l = [] := List.length_eq_zero_iff.1 hl
    have hs : Src Try.prog i0.size 22 (.slice a 0 c) 0 [] w := by
      cases a with
      | none => exact Src.ofNil w Try.underlying22 c
      | some ad => exact Src.ofSlice w Try.underlying22 ad 0 c [] (by simp) (by simp) (by simp)
    refine ⟨v, w, ?_, by simpa using hown, ⟨rfl, rfl, rfl, Nat.le_refl _, fun _ _ _ => rfl⟩⟩
    rcases hown.2 with ⟨rfl, rfl⟩ | ⟨g, cap, cur, rfl, _, _, hnc, _⟩
    · exact run_append_nothing w 22 22 ty 23 i0 Try.underlying22 hi none 0 0 (Nat.le_refl _) _ hs
    · exact run_append_nothing w 22 22 ty 23 i0 Try.underlying22 hi _ n cap hnc _ hs
theorem wpList_append_lsts (w : World) {ops : Array Oper} {rest : List Oper} {o : Oper} {a : Act} {Q : Exit → Act → World → Prop} (hgd : o.guard = none) (s x : Operand)
    (ho : o.op = .call { callee := .builtin .append, args := #[s, x], argTypes := #[22, 22] })
    (base : Nat) (v : Value) (n : Nat) (xs : List Sl) (hs : a.eval s = v) (hown : w.ownsRow base 23 1 v n (slVals xs))
    (ad : Option Addr) (m c : Nat) (l : List Sl) (hx : a.eval x = .slice ad m c) (h : Lsts w ad m c l)
    (hsm : n + m ≤ 1000000) (hbase : base ≤ w.heap.size)
    (hK : ∀ v' w', w'.ownsRow base 23 1 v' (n + m) (slVals (xs ++ l)) → w.grownBy w' v.ownBlock → wpList Try.prog ops Q rest (a.put o.dst v') w') : wpList Try.prog ops Q (o :: rest) a w :=
  wpList_plain hgd fun _ hk => by
    obtain ⟨v', w', hr, h2, h3⟩ := run_append_lsts w o.type base v n xs hown ad m c l h hsm hbase
    unfold Oper.wp execOp
    simp only [ho, resolve, invoke, builtin, Sem.run_bind, Sem.run_pure, Result.andThen_ok, List.map_toArray, List.map_cons, List.map_nil, hs, hx, hr]
    exact hk _ _ (hK v' w' h2 h3)
/-- The steps of a region that draws its order: an append of ints, of one int. -/
theorem step_append_ints (w : World) {ops : Array Oper} {o : Oper} {a : Act} {K : Act → World → Prop} {Q : Exit → Act → World → Prop} {E : Prop} (hgd : o.guard = none) (s x : Operand)
    (ho : o.op = .call { callee := .builtin .append, args := #[s, x], argTypes := #[23, 23] })
    (base : Nat) (v : Value) (n : Nat) (xs : List Int) (hs : a.eval s = v) (hown : w.ownsRow base 3 1 v n (intVals xs))
    (ad : Option Addr) (m c : Nat) (l : List Int) (hx : a.eval x = .slice ad m c) (h : Ints w ad m c l)
    (hsm : n + m ≤ 1000) (hbase : base ≤ w.heap.size)
    (hK : ∀ v' w', w'.ownsRow base 3 1 v' (n + m) (intVals (xs ++ l)) → w.grownBy w' v.ownBlock → K (a.put o.dst v') w') :
    if Region.wanted o (yielded ops a.tmps) = true then Oper.wp Try.prog o a w K Q else E := by
  have hw : Region.wanted o (yielded ops a.tmps) = true := by simp [Region.wanted, hgd]
  rw [if_pos hw]
  obtain ⟨v', w', hr, h2, h3⟩ := run_append_ints w o.type base v n xs hown ad m c l h hsm hbase
  unfold Oper.wp execOp
  simp only [ho, resolve, invoke, builtin, Sem.run_bind, Sem.run_pure, Result.andThen_ok, List.map_toArray, List.map_cons, List.map_nil, hs, hx, hr]
  exact hK v' w' h2 h3
/-- One int more, of a block of its own. -/
theorem ints_one {w : World} {g : Nat} {x : Int} (h : w.cell? ⟨g, 0, none⟩ = some (.int .i64 x)) : Ints w (some ⟨g, 0, none⟩) 1 1 [x] := by
  refine ⟨rfl, Nat.le_refl _, by unfold maxLen; omega, .inr ⟨g, 0, rfl, World.block_lt_of_cell? w _ h, fun j hj => ?_⟩⟩
  obtain rfl : j = 0 := by omega
  exact h
def T3 (w : World) (a : Option Addr) (n : Nat) : Prop := n = 0 ∨ ∃ b off arr fz, a = some ⟨b, off, none⟩ ∧ w.heap[b]? = some (.cells arr 3 fz)
theorem T3.later {w w' : World} {a : Option Addr} {n : Nat} (h : T3 w a n) (hb : Below w.heap.size w w') : T3 w' a n := by
  rcases h with h | ⟨b, off, arr, fz, h1, h2⟩
  · exact Or.inl h
  · exact Or.inr ⟨b, off, arr, fz, h1, by rw [hb.block b (Array.getElem?_eq_some_iff.1 h2).1]; exact h2⟩
theorem T3.apart {w : World} {base n : Nat} {v : Value} {xs : List Value} (ho : w.ownsRow base 23 1 v n xs) {b : Nat} {arr : Array Value} {fz : Nat × Nat} (hb : w.heap[b]? = some (.cells arr 3 fz)) : some b ≠ v.ownBlock := by
  rcases ho.2 with ⟨rfl, _⟩ | ⟨g, cap, cur, rfl, _, hg, _⟩
  · intro h; cases h
  · intro h
    cases h
    rw [hg] at hb
    cases hb
theorem T3.grown {w w' : World} {base k : Nat} {v : Value} {xs : List Value} {a : Option Addr} {n c : Nat} {l : List Int} (h : T3 w a n) (hI : Ints w a n c l) (ho : w.ownsRow base 23 1 v k xs) (hg : w.grownBy w' v.ownBlock) : T3 w' a n ∧ Ints w' a n c l := by
  rcases h with h | ⟨b, off, arr, fz, h1, h2⟩
  · exact ⟨Or.inl h, hI.1, hI.2.1, hI.2.2.1, Or.inl h⟩
  · have hlt := (Array.getElem?_eq_some_iff.1 h2).1
    have hb := hg.block b hlt (T3.apart ho h2)
    refine ⟨Or.inr ⟨b, off, arr, fz, h1, by rw [hb]; exact h2⟩, hI.1, hI.2.1, hI.2.2.1, ?_⟩
    rcases hI.2.2.2 with h0 | ⟨b', off', e, hlt', hc⟩
    · exact Or.inl h0
    · rw [h1] at e
      cases e
      exact Or.inr ⟨b, off, h1, Nat.lt_of_lt_of_le hlt hg.size, fun j hj => (World.cell?_of_block (a := ⟨b, off + j, none⟩) hb).trans (hc j hj)⟩
theorem T3.of_owns {w : World} {B n m : Nat} {a : Option Addr} {c : Nat} {xs : List Value} (h : w.ownsRow B 3 1 (.slice a n c) m xs) : T3 w a n := by
  rcases h.2 with ⟨e, _⟩ | ⟨g, cap, cur, e, _, hg, _⟩
  · cases e; exact Or.inl rfl
  · cases e; exact Or.inr ⟨g, 0, cur, (0, 0), rfl, hg⟩
theorem own_empty (W : World) (base : Nat) (h : base ≤ W.heap.size) : (W.alloc (.cells #[] 3)).ownsRow base 3 1 (.slice (some ⟨W.heap.size, 0, none⟩) 0 0) 0 (intVals []) :=
  World.ownsRow_made (base := base) (e := 3) (size := 1) W #[] 0 h (by unfold maxLen; omega) rfl
theorem own_empty2 (W : World) (o : Obj) (base : Nat) (h : base ≤ W.heap.size) : ((W.alloc o).alloc (.cells #[] 3)).ownsRow base 3 1 (.slice (some ⟨W.heap.size + 1, 0, none⟩) 0 0) 0 (intVals []) := by
  have h2 := own_empty (W.alloc o) base (by rw [World.size_alloc]; omega)
  rw [World.size_alloc] at h2
  exact h2
theorem Lsts.of_owns {w : World} {B : Nat} {v : Value} {n : Nat} {l : List Sl} (h : w.ownsRow B 23 1 v n (slVals l)) (hg : ∀ s ∈ l, Ints w s.la s.ln s.lc s.ints) : ∃ a c, v = .slice a n c ∧ Lsts w a n c l := by
  have hl : l.length = n := by have := h.1; rw [slVals_len] at this; omega
  have h0 := h
  rcases h.2 with ⟨rfl, rfl⟩ | ⟨g, cap, cur, rfl, hbg, hgg, hnc, hcm, hcs, htake⟩
  · exact ⟨none, 0, rfl, hl.symm, Nat.le_refl _, by unfold maxLen; omega, hg, .inl rfl⟩
  · refine ⟨_, cap, rfl, hl.symm, hnc, hcm, hg, .inr ⟨g, 0, rfl, ?_, fun j hj => ?_⟩⟩
    · rcases Nat.lt_or_ge g w.heap.size with h' | h'
      · exact h'
      · rw [Array.getElem?_eq_none h'] at hgg; cases hgg
    · rw [Nat.zero_add, h0.cellAt j (by omega), slVals_at l j (by omega)]
/-- One list more, of a block of its own. -/
theorem lsts_one {w : World} {g : Nat} {s : Sl} (h : w.cell? ⟨g, 0, none⟩ = some (.slice s.la s.ln s.lc)) (hI : Ints w s.la s.ln s.lc s.ints) : Lsts w (some ⟨g, 0, none⟩) 1 1 [s] := by
  refine ⟨rfl, Nat.le_refl _, by unfold maxLen; omega, fun t ht => ?_, .inr ⟨g, 0, rfl, World.block_lt_of_cell? w _ h, fun j hj => ?_⟩⟩
  · rw [List.mem_singleton] at ht; subst ht; exact hI
  · obtain rfl : j = 0 := by omega
    exact h
theorem step_append_lsts (w : World) {ops : Array Oper} {o : Oper} {a : Act} {K : Act → World → Prop} {Q : Exit → Act → World → Prop} {E : Prop} (hgd : o.guard = none) (s x : Operand)
    (ho : o.op = .call { callee := .builtin .append, args := #[s, x], argTypes := #[22, 22] })
    (base : Nat) (v : Value) (n : Nat) (xs : List Sl) (hs : a.eval s = v) (hown : w.ownsRow base 23 1 v n (slVals xs))
    (ad : Option Addr) (m c : Nat) (l : List Sl) (hx : a.eval x = .slice ad m c) (h : Lsts w ad m c l)
    (hsm : n + m ≤ 1000000) (hbase : base ≤ w.heap.size)
    (hK : ∀ v' w', w'.ownsRow base 23 1 v' (n + m) (slVals (xs ++ l)) → w.grownBy w' v.ownBlock → K (a.put o.dst v') w') :
    if Region.wanted o (yielded ops a.tmps) = true then Oper.wp Try.prog o a w K Q else E := by
  have hw : Region.wanted o (yielded ops a.tmps) = true := by simp [Region.wanted, hgd]
  rw [if_pos hw]
  obtain ⟨v', w', hr, h2, h3⟩ := run_append_lsts w o.type base v n xs hown ad m c l h hsm hbase
  unfold Oper.wp execOp
  simp only [ho, resolve, invoke, builtin, Sem.run_bind, Sem.run_pure, Result.andThen_ok, List.map_toArray, List.map_cons, List.map_nil, hs, hx, hr]
  exact hK v' w' h2 h3
end Go.Proofs.Ytihmbfapbkddeaa
