import Derived.Test.YtodbnjainpjkcaaLL
namespace Go.Proofs.Ytodbnjainpjkcaa
open Go.RowKit
/-- The step of a region that draws its order: the call of slices.Clone. -/
theorem step_clone (w : World) {ops : Array Oper} {o : Oper} {a : Act} {K : Act → World → Prop} {Q : Exit → Act → World → Prop} {E : Prop} (hgd : o.guard = none) (x : Operand)
    (ho : o.op = .call { callee := .value (.func 40), args := #[x], argTypes := #[22] })
    (ad : Option Addr) (n c : Nat) (l : List Int) (hx : a.eval x = .slice ad n c) (h : Ints w ad n c l) (hs : n ≤ 1000)
    (hK : ∀ v w', w'.ownsRow w.heap.size 3 1 v n (intVals l) → Below w.heap.size w w' → K (a.put o.dst v) w') :
    if Region.wanted o (yielded ops a.tmps) = true then Oper.wp Try.prog o a w K Q else E := by
  have hw : Region.wanted o (yielded ops a.tmps) = true := by simp [Region.wanted, hgd]
  rw [if_pos hw]
  unfold Oper.wp execOp
  simp [ho, resolve, invoke, Act.eval, Oper.upon, List.map_toArray, List.map_cons, List.map_nil] at hx ⊢
  rw [hx]
  refine (clone_any ad n c l w h hs).mono ?_
  rintro e w' ⟨v, rfl, h1, h2⟩
  exact hK v w' h1 h2
/-- One list more, of a block of its own. -/
theorem lsts_one {w : World} {g : Nat} {s : Sl} (h : w.cell? ⟨g, 0, none⟩ = some (.slice s.la s.ln s.lc)) (hI : Ints w s.la s.ln s.lc s.ints) : Lsts w (some ⟨g, 0, none⟩) 1 1 [s] := by
  refine ⟨rfl, Nat.le_refl _, by unfold maxLen; omega, fun t ht => ?_, .inr ⟨g, 0, rfl, World.block_lt_of_cell? w _ h, fun j hj => ?_⟩⟩
  · rw [List.mem_singleton] at ht; subst ht; exact hI
  · obtain rfl : j = 0 := by omega
    exact h
theorem step_append_lsts (w : World) {ops : Array Oper} {o : Oper} {a : Act} {K : Act → World → Prop} {Q : Exit → Act → World → Prop} {E : Prop} (hgd : o.guard = none) (s x : Operand)
    (ho : o.op = .call { callee := .builtin .append, args := #[s, x], argTypes := #[39, 39] })
    (base : Nat) (v : Value) (n : Nat) (xs : List Sl) (hs : a.eval s = v) (hown : w.ownsRow base 22 1 v n (slVals xs))
    (ad : Option Addr) (m c : Nat) (l : List Sl) (hx : a.eval x = .slice ad m c) (h : Lsts w ad m c l)
    (hsm : n + m ≤ 1000000) (hbase : base ≤ w.heap.size)
    (hK : ∀ v' w', w'.ownsRow base 22 1 v' (n + m) (slVals (xs ++ l)) → w.grownBy w' v.ownBlock → K (a.put o.dst v') w') :
    if Region.wanted o (yielded ops a.tmps) = true then Oper.wp Try.prog o a w K Q else E := by
  have hw : Region.wanted o (yielded ops a.tmps) = true := by simp [Region.wanted, hgd]
  rw [if_pos hw]
  obtain ⟨v', w', hr, h2, h3⟩ := run_append_lsts w o.type base v n xs hown ad m c l h hsm hbase
  unfold Oper.wp execOp
  simp only [ho, resolve, invoke, builtin, Sem.run_bind, Sem.run_pure, Result.andThen_ok, List.map_toArray, List.map_cons, List.map_nil, hs, hx, hr]
  exact hK v' w' h2 h3
end Go.Proofs.Ytodbnjainpjkcaa
