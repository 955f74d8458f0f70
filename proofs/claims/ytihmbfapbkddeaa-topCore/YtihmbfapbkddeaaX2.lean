import Derived.Test.YtihmbfapbkddeaaX
namespace Go.Proofs.Ytihmbfapbkddeaa
open Go.RowKit
/-- One list more at a row's end: in its own block, or in a new one. -/
theorem run_append_one (w : World) (ty : TypeId) (base : Nat) (v : Value) (n : Nat) (xs : List Sl) (hown : w.ownsRow base 23 1 v n (slVals xs)) (g c : Nat) (s : Sl) (hc : w.cell? ⟨g, 0, none⟩ = some (.slice s.la s.ln s.lc))
    (hsm : n ≤ 100000) (hbase : base ≤ w.heap.size) :
    ∃ v' w', (Builtin.append_ #[22, 22] ty #[v, .slice (some ⟨g, 0, none⟩) 1 c]).run Try.prog w = .ok v' w' ∧ w'.ownsRow base 23 1 v' (n + 1) (slVals (xs ++ [s])) ∧ w.grownBy w' v.ownBlock ∧ (v'.ownBlock = v.ownBlock ∨ v'.ownBlock = some w.heap.size) := by
  obtain ⟨i0, hi, hz0, hz1, hz2⟩ := info_parts info23
  have hnews : ∀ j u, (slVals [s])[j]? = some u → w.cell? ((⟨g, 0, none⟩ : Addr).add j) = some u := by
    intro j u hu
    cases j with
    | zero => simp [slVals, Sl.val] at hu; subst hu; simpa [Addr.add] using hc
    | succ j => simp [slVals] at hu
  have hone : ∀ u ∈ slVals [s], u.oneCell' = true := fun u hu => by simp [slVals, Sl.val] at hu; subst hu; rfl
  obtain ⟨v', w', hr, ho, hg, _⟩ := run_append_own (P := Try.prog) w base 22 ty 23 i0 _ 1 24 Try.underlying22 hi hz0 hz1 hz2 rfl (by decide) v n (slVals xs) hown ⟨g, 0, none⟩ 1 c (slVals [s]) rfl hnews hone (by unfold maxLen; omega) (by omega) hbase
  refine ⟨v', w', hr, by rw [slVals_append]; exact ho, hg, ?_⟩
  rcases hown.2 with ⟨rfl, rfl⟩ | ⟨g', cap, cur, rfl, hbg, hgg, hnc, hcm, hcs, htake⟩
  · have hr2 := run_append_nil (P := Try.prog) w 22 ty 23 i0 _ Try.underlying22 hi hz0 ⟨g, 0, none⟩ 1 c (slVals [s]) (by rw [hz1]; rfl) hnews (by omega) (by omega) (by rw [hz2]; omega)
    rw [hr] at hr2
    injection hr2 with e1 _
    rw [e1]
    exact .inr rfl
  · by_cases hroom : n + 1 ≤ cap
    · have hr2 := run_append_room (P := Try.prog) w 22 ty 23 i0 Try.underlying22 hi g' n cap cur hgg ⟨g, 0, none⟩ 1 c (slVals [s]) (by rw [hz1]; rfl) hnews hone hroom (by rw [hz1, hcs]; simp [slVals]; omega)
      rw [hr] at hr2
      injection hr2 with e1 _
      rw [e1]
      exact .inl rfl
    · have holds : ∀ j u, (slVals xs)[j]? = some u → w.cell? ((⟨g', 0, none⟩ : Addr).add j) = some u := hown.cells (g := g') rfl
      have hr2 := run_append_grow (P := Try.prog) w 22 ty 23 i0 _ Try.underlying22 hi hz0 ⟨g', 0, none⟩ n cap (slVals xs) (by rw [hz1]; exact hown.1) holds ⟨g, 0, none⟩ 1 c (slVals [s]) (by rw [hz1]; rfl) hnews (by omega) (by omega) (by rw [hz2]; exact growslice_fits (by omega) (by omega))
      rw [hr] at hr2
      injection hr2 with e1 _
      rw [e1]
      exact .inr rfl
theorem step_append_one (w : World) {ops : Array Oper} {o : Oper} {a : Act} {K : Act → World → Prop} {Q : Exit → Act → World → Prop} {E : Prop} (hgd : o.guard = none) (sx x : Operand)
    (ho : o.op = .call { callee := .builtin .append, args := #[sx, x], argTypes := #[22, 22] })
    (base : Nat) (v : Value) (n : Nat) (xs : List Sl) (hs : a.eval sx = v) (hown : w.ownsRow base 23 1 v n (slVals xs))
    (g c : Nat) (s : Sl) (hx : a.eval x = .slice (some ⟨g, 0, none⟩) 1 c) (hc : w.cell? ⟨g, 0, none⟩ = some (.slice s.la s.ln s.lc))
    (hsm : n ≤ 100000) (hbase : base ≤ w.heap.size)
    (hK : ∀ v' w', w'.ownsRow base 23 1 v' (n + 1) (slVals (xs ++ [s])) → w.grownBy w' v.ownBlock → (v'.ownBlock = v.ownBlock ∨ v'.ownBlock = some w.heap.size) → K (a.put o.dst v') w') :
    if Region.wanted o (yielded ops a.tmps) = true then Oper.wp Try.prog o a w K Q else E := by
  have hw : Region.wanted o (yielded ops a.tmps) = true := by simp [Region.wanted, hgd]
  rw [if_pos hw]
  obtain ⟨v', w', hr, h2, h3, h4⟩ := run_append_one w o.type base v n xs hown g c s hc hsm hbase
  unfold Oper.wp execOp
  simp only [ho, resolve, invoke, builtin, Sem.run_bind, Sem.run_pure, Result.andThen_ok, List.map_toArray, List.map_cons, List.map_nil, hs, hx, hr]
  exact hK v' w' h2 h3 h4
end Go.Proofs.Ytihmbfapbkddeaa
