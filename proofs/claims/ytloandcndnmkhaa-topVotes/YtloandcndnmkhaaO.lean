import Derived.Test.YtloandcndnmkhaaN
namespace Go.Proofs.Ytloandcndnmkhaa
open Go.RowKit Go.Shelf
/-- All orders of n that go on as o does; f things are left. -/
def grL (n : Nat) : Nat → List Int → List (List Int)
  | 0, o => [o]
  | f + 1, o => (List.range n).flatMap fun k : Nat => if (k : Int) ∈ o then [] else grL n f (o ++ [(k : Int)])
def grT (n f : Nat) (o : List Int) (k : Nat) : List (List Int) := (List.range k).flatMap fun k : Nat => if (k : Int) ∈ o then [] else grL n f (o ++ [(k : Int)])
theorem grT_succ (n f : Nat) (o : List Int) (k : Nat) : grT n f o (k + 1) = grT n f o k ++ (if (k : Int) ∈ o then [] else grL n f (o ++ [(k : Int)])) := by
  unfold grT; rw [List.range_succ, List.flatMap_append]; simp
theorem grL_T (n f : Nat) (o : List Int) : grL n (f + 1) o = grT n f o n := rfl
/-- The iterator's three boxes. -/
structure Bx3 (W : World) (Bn By Bg n l : Nat) : Prop where
  ln : Bn < W.heap.size
  ly : By < W.heap.size
  lg : Bg < W.heap.size
  cn : W.cell? ⟨Bn, 0, none⟩ = some (.int .i64 n)
  cy : W.cell? ⟨By, 0, none⟩ = some (.func (.yield l) #[] #[])
  cg : W.cell? ⟨Bg, 0, none⟩ = some (.func (.func 71) #[] #[.pointer (some ⟨Bn, 0, none⟩), .pointer (some ⟨By, 0, none⟩), .pointer (some ⟨Bg, 0, none⟩)])
theorem Bx3.keep {W W' : World} {Bn By Bg n l : Nat} {S : Nat → Prop} (h : Bx3 W Bn By Bg n l) (k : Keep S W W') (h1 : S Bn) (h2 : S By) (h3 : S Bg) : Bx3 W' Bn By Bg n l :=
  ⟨Nat.lt_of_lt_of_le h.ln k.size, Nat.lt_of_lt_of_le h.ly k.size, Nat.lt_of_lt_of_le h.lg k.size, (k.cell (p := ⟨Bn, 0, none⟩) h1).trans h.cn, (k.cell (p := ⟨By, 0, none⟩) h2).trans h.cy, (k.cell (p := ⟨Bg, 0, none⟩) h3).trans h.cg⟩
/-- One int more at a row's end: in its own block, or in a new one. -/
theorem run_append_int1 (w : World) (ty : TypeId) (base : Nat) (v : Value) (n : Nat) (xs : List Int) (hown : w.ownsRow base 3 1 v n (intVals xs)) (g c : Nat) (s : Int) (hc : w.cell? ⟨g, 0, none⟩ = some (.int .i64 s))
    (hsm : n ≤ 100000) (hbase : base ≤ w.heap.size) :
    ∃ v' w', (Builtin.append_ #[23, 23] ty #[v, .slice (some ⟨g, 0, none⟩) 1 c]).run Try.prog w = .ok v' w' ∧ w'.ownsRow base 3 1 v' (n + 1) (intVals (xs ++ [s])) ∧ w.grownBy w' v.ownBlock ∧ ((∃ g cap, v = .slice (some ⟨g, 0, none⟩) n cap ∧ v' = .slice (some ⟨g, 0, none⟩) (n + 1) cap) ∨ (v'.ownBlock = some w.heap.size ∧ Below w.heap.size w w')) := by
  obtain ⟨i0, hi, hz0, hz1, hz2⟩ := info_parts info3
  have hnews : ∀ j u, (intVals [s])[j]? = some u → w.cell? ((⟨g, 0, none⟩ : Addr).add j) = some u := by
    intro j u hu
    cases j with
    | zero => simp [intVals] at hu; subst hu; simpa [Addr.add] using hc
    | succ j => simp [intVals] at hu
  have hone : ∀ u ∈ intVals [s], u.oneCell' = true := fun u hu => by simp [intVals] at hu; subst hu; rfl
  obtain ⟨v', w', hr, ho, hg, _⟩ := run_append_own (P := Try.prog) w base 23 ty 3 i0 _ 1 8 Try.underlying23 hi hz0 hz1 hz2 rfl (by decide) v n (intVals xs) hown ⟨g, 0, none⟩ 1 c (intVals [s]) rfl hnews hone (by unfold maxLen; omega) (by omega) hbase
  refine ⟨v', w', hr, by rw [intVals_append]; exact ho, hg, ?_⟩
  rcases hown.2 with ⟨rfl, rfl⟩ | ⟨g', cap, cur, rfl, hbg, hgg, hnc, hcm, hcs, htake⟩
  · have hr2 := run_append_nil (P := Try.prog) w 23 ty 3 i0 _ Try.underlying23 hi hz0 ⟨g, 0, none⟩ 1 c (intVals [s]) (by rw [hz1]; rfl) hnews (by omega) (by omega) (by rw [hz2]; omega)
    rw [hr] at hr2
    injection hr2 with e1 e2
    rw [e1, e2]
    exact .inr ⟨rfl, (Below.refl _ w).drew.alloc (Nat.le_refl _) _⟩
  · by_cases hroom : n + 1 ≤ cap
    · have hr2 := run_append_room (P := Try.prog) w 23 ty 3 i0 Try.underlying23 hi g' n cap cur hgg ⟨g, 0, none⟩ 1 c (intVals [s]) (by rw [hz1]; rfl) hnews hone hroom (by rw [hz1, hcs]; simp [intVals]; omega)
      rw [hr] at hr2
      injection hr2 with e1 _
      rw [e1]
      exact .inl ⟨g', cap, rfl, rfl⟩
    · have holds : ∀ j u, (intVals xs)[j]? = some u → w.cell? ((⟨g', 0, none⟩ : Addr).add j) = some u := hown.cells (g := g') rfl
      have hr2 := run_append_grow (P := Try.prog) w 23 ty 3 i0 _ Try.underlying23 hi hz0 ⟨g', 0, none⟩ n cap (intVals xs) (by rw [hz1]; exact hown.1) holds ⟨g, 0, none⟩ 1 c (intVals [s]) (by rw [hz1]; rfl) hnews (by omega) (by omega) (by rw [hz2]; exact growslice_fits (by omega) (by omega))
      rw [hr] at hr2
      injection hr2 with e1 e2
      rw [e1, e2]
      exact .inr ⟨rfl, (Below.refl _ w).drew.alloc (Nat.le_refl _) _⟩
theorem step_append_int1 (w : World) {ops : Array Oper} {o : Oper} {a : Act} {K : Act → World → Prop} {Q : Exit → Act → World → Prop} {E : Prop} (hw : Region.wanted o (yielded ops a.tmps) = true) (sx x : Operand)
    (ho : o.op = .call { callee := .builtin .append, args := #[sx, x], argTypes := #[23, 23] })
    (base : Nat) (v : Value) (n : Nat) (xs : List Int) (hs : a.eval sx = v) (hown : w.ownsRow base 3 1 v n (intVals xs))
    (g c : Nat) (s : Int) (hx : a.eval x = .slice (some ⟨g, 0, none⟩) 1 c) (hc : w.cell? ⟨g, 0, none⟩ = some (.int .i64 s))
    (hsm : n ≤ 100000) (hbase : base ≤ w.heap.size)
    (hK : ∀ v' w', w'.ownsRow base 3 1 v' (n + 1) (intVals (xs ++ [s])) → w.grownBy w' v.ownBlock → ((∃ g cap, v = .slice (some ⟨g, 0, none⟩) n cap ∧ v' = .slice (some ⟨g, 0, none⟩) (n + 1) cap) ∨ (v'.ownBlock = some w.heap.size ∧ Below w.heap.size w w')) → K (a.put o.dst v') w') :
    if Region.wanted o (yielded ops a.tmps) = true then Oper.wp Try.prog o a w K Q else E := by
  rw [if_pos hw]
  obtain ⟨v', w', hr, h2, h3, h4⟩ := run_append_int1 w o.type base v n xs hown g c s hc hsm hbase
  unfold Oper.wp execOp
  simp only [ho, resolve, invoke, builtin, Sem.run_bind, Sem.run_pure, Result.andThen_ok, List.map_toArray, List.map_cons, List.map_nil, hs, hx, hr]
  exact hK v' w' h2 h3 h4
end Go.Proofs.Ytloandcndnmkhaa
