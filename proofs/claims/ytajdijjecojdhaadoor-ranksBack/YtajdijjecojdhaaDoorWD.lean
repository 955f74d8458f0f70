import Derived.Test.YtajdijjecojdhaaDoorWG2
import Derived.Deep.Upon
import Derived.Deep.AppendLies
import Derived.Deep.RegionLaw
import Derived.Lib.AppendZerosOnto
import Derived.Lib.SliceRun
import Derived.Lib.Walk
namespace Go.Proofs.YtajdijjecojdhaaDoor
open Go.RowKit
def flat (l : List Ag) : List Value := l.flatMap fun g => [.string g.name, .int .i64 g.room, .slice g.la g.ln g.lc]
theorem flat_length (l : List Ag) : (flat l).length = l.length * 3 := by
  induction l with
  | nil => rfl
  | cons g l ih => simp [flat, List.flatMap_cons] at ih ⊢; omega
theorem flat_append (a b : List Ag) : flat (a ++ b) = flat a ++ flat b := by simp [flat]
theorem flat_cons (g : Ag) (l : List Ag) : flat (g :: l) = .string g.name :: .int .i64 g.room :: .slice g.la g.ln g.lc :: flat l := by simp [flat]
theorem agAt_succ (g : Ag) (l : List Ag) (j : Nat) : agAt (g :: l) (j+1) = agAt l j := by simp [agAt]
theorem flat_at (l : List Ag) : ∀ j, j < l.length → (flat l)[j*3]? = some (.string (agAt l j).name) ∧ (flat l)[j*3+1]? = some (.int .i64 (agAt l j).room) ∧ (flat l)[j*3+2]? = some (.slice (agAt l j).la (agAt l j).ln (agAt l j).lc) := by
  induction l with
  | nil => intro j h; simp at h
  | cons g l ih =>
    intro j h
    rw [flat_cons]
    cases j with
    | zero => simp [agAt]
    | succ j =>
      rw [agAt_succ, show (j+1)*3 = j*3+1+1+1 by omega]
      simp only [List.getElem?_cons_succ]
      exact ih j (by simpa using h)
theorem flat_one (l : List Ag) : ∀ u ∈ flat l, u.oneCell' = true := by
  intro u hu
  simp only [flat, List.mem_flatMap] at hu
  obtain ⟨g, _, hg⟩ := hu
  simp at hg
  rcases hg with rfl | rfl | rfl <;> rfl
/-- What is known of every place of a list of threes. -/
theorem flat_all {l : List Ag} {q : Nat → Value → Prop} (h : ∀ j, j < l.length → q (j*3) (.string (agAt l j).name) ∧ q (j*3+1) (.int .i64 (agAt l j).room) ∧ q (j*3+2) (.slice (agAt l j).la (agAt l j).ln (agAt l j).lc)) :
    ∀ i u, (flat l)[i]? = some u → q i u := by
  intro i u hu
  have hlt : i < (flat l).length := by
    rcases Nat.lt_or_ge i (flat l).length with h' | h'
    · exact h'
    · rw [List.getElem?_eq_none h'] at hu; cases hu
  rw [flat_length] at hlt
  obtain ⟨h1, h2, h3⟩ := flat_at l (i/3) (by omega)
  obtain ⟨k1, k2, k3⟩ := h (i/3) (by omega)
  rcases (show i = i/3*3 ∨ i = i/3*3+1 ∨ i = i/3*3+2 by omega) with e | e | e
  · rw [e] at hu ⊢; rw [h1] at hu; cases hu; exact k1
  · rw [e] at hu ⊢; rw [h2] at hu; cases hu; exact k2
  · rw [e] at hu ⊢; rw [h3] at hu; cases hu; exact k3
theorem info27 : (Tryd.prog.info? 27).map (fun i => (i.zero, i.size, i.bytes)) = some (some (.agg #[.string ByteArray.empty, .int .i64 0, .slice none 0 0]), 3, 48) := by kernel_rfl
theorem Ags.src {w : World} {a : Option Addr} {m c : Nat} {l : List Ag} (h : Ags w a m c l) (hm : 0 < m) :
    ∃ ad, a = some ad ∧ ∀ j u, (flat l)[j]? = some u → w.cell? (ad.add j) = some u := by
  obtain ⟨hn, _, _, _, h0 | ⟨b, off, rfl, hb, hcell⟩⟩ := h
  · omega
  · refine ⟨_, rfl, ?_⟩
    refine flat_all (q := fun j u => w.cell? ((⟨b, off, none⟩ : Addr).add j) = some u) (fun j hj => ?_)
    obtain ⟨h1, h2, h3⟩ := hcell j (by omega)
    have e : ∀ i, (⟨b, off, none⟩ : Addr).add i = ⟨b, off + i, none⟩ := fun i => by unfold Addr.add; split <;> simp_all
    refine ⟨?_, ?_, ?_⟩
    · rw [e]; exact h1
    · rw [e, ← Nat.add_assoc]; exact h2
    · rw [e, ← Nat.add_assoc]; exact h3
theorem run_append_ags (w : World) (ty : TypeId) (base : Nat) (v : Value) (n : Nat) (xs : List Ag) (hown : w.ownsRow base 27 3 v n (flat xs)) (a : Option Addr) (m c : Nat) (l : List Ag) (h : Ags w a m c l)
    (hsm : n + m ≤ 1000) (hbase : base ≤ w.heap.size) :
    ∃ v' w', (Builtin.append_ #[22, 22] ty #[v, .slice a m c]).run Tryd.prog w = .ok v' w' ∧ w'.ownsRow base 27 3 v' (n + m) (flat (xs ++ l)) ∧ w.grownBy w' v.ownBlock := by
  obtain ⟨i0, hi, hz0, hz1, hz2⟩ := info_parts info27
  have hl : l.length = m := h.1.symm
  by_cases hm : 0 < m
  · obtain ⟨ad, rfl, hcell⟩ := h.src hm
    obtain ⟨v', w', hr, ho, hg, _⟩ := run_append_own (P := Tryd.prog) w base 22 ty 27 i0 _ 3 48 Tryd.underlying22 hi hz0 hz1 hz2 rfl (by decide) v n (flat xs) hown ad m c (flat l) (by rw [flat_length, hl]) hcell (flat_one l) (by unfold maxLen; omega) (by omega) hbase
    exact ⟨v', w', hr, by rw [flat_append]; exact ho, hg⟩
  · obtain rfl : m = 0 := by omega
    obtain rfl : l = [] := List.length_eq_zero_iff.1 hl
    have hs : Src Tryd.prog i0.size 22 (.slice a 0 c) 0 [] w := by
      cases a with
      | none => exact Src.ofNil w Tryd.underlying22 c
      | some ad => exact Src.ofSlice w Tryd.underlying22 ad 0 c [] (by simp) (by simp) (by simp)
    refine ⟨v, w, ?_, by simpa using hown, ⟨rfl, rfl, rfl, Nat.le_refl _, fun _ _ _ => rfl⟩⟩
    rcases hown.2 with ⟨rfl, rfl⟩ | ⟨g, cap, cur, rfl, _, _, hnc, _⟩
    · exact run_append_nothing w 22 22 ty 27 i0 Tryd.underlying22 hi none 0 0 (Nat.le_refl _) _ hs
    · exact run_append_nothing w 22 22 ty 27 i0 Tryd.underlying22 hi _ n cap hnc _ hs
theorem wp_append_ags (w : World) {o : Oper} {a : Act} {K : Act → World → Prop} {Q : Exit → Act → World → Prop} (s x : Operand)
    (ho : o.op = .call { callee := .builtin .append, args := #[s, x], argTypes := #[22, 22] })
    (base : Nat) (v : Value) (n : Nat) (xs : List Ag) (hs : a.eval s = v) (hown : w.ownsRow base 27 3 v n (flat xs))
    (ad : Option Addr) (m c : Nat) (l : List Ag) (hx : a.eval x = .slice ad m c) (h : Ags w ad m c l)
    (hsm : n + m ≤ 1000) (hbase : base ≤ w.heap.size)
    (hK : ∀ v' w', w'.ownsRow base 27 3 v' (n + m) (flat (xs ++ l)) → w.grownBy w' v.ownBlock → K (a.put o.dst v') w') : o.wp Tryd.prog a w K Q := by
  obtain ⟨v', w', hr, h2, h3⟩ := run_append_ags w o.type base v n xs hown ad m c l h hsm hbase
  unfold Oper.wp execOp
  simp only [ho, resolve, invoke, builtin, Sem.run_bind, Sem.run_pure, Result.andThen_ok, List.map_toArray, List.map_cons, List.map_nil, hs, hx, hr]
  exact hK v' w' h2 h3
theorem wpList_append_ags (w : World) {ops : Array Oper} {rest : List Oper} {o : Oper} {a : Act} {Q : Exit → Act → World → Prop} (hgd : o.guard = none) (s x : Operand)
    (ho : o.op = .call { callee := .builtin .append, args := #[s, x], argTypes := #[22, 22] })
    (base : Nat) (v : Value) (n : Nat) (xs : List Ag) (hs : a.eval s = v) (hown : w.ownsRow base 27 3 v n (flat xs))
    (ad : Option Addr) (m c : Nat) (l : List Ag) (hx : a.eval x = .slice ad m c) (h : Ags w ad m c l)
    (hsm : n + m ≤ 1000) (hbase : base ≤ w.heap.size)
    (hK : ∀ v' w', w'.ownsRow base 27 3 v' (n + m) (flat (xs ++ l)) → w.grownBy w' v.ownBlock → wpList Tryd.prog ops Q rest (a.put o.dst v') w') : wpList Tryd.prog ops Q (o :: rest) a w :=
  wpList_plain hgd fun _ hk => wp_append_ags w s x ho base v n xs hs hown ad m c l hx h hsm hbase fun v' w' h2 h3 => hk _ _ (hK v' w' h2 h3)
theorem step_append_ags (w : World) {ops : Array Oper} {o : Oper} {a : Act} {K : Act → World → Prop} {Q : Exit → Act → World → Prop} {E : Prop} (hgd : o.guard = none) (s x : Operand)
    (ho : o.op = .call { callee := .builtin .append, args := #[s, x], argTypes := #[22, 22] })
    (base : Nat) (v : Value) (n : Nat) (xs : List Ag) (hs : a.eval s = v) (hown : w.ownsRow base 27 3 v n (flat xs))
    (ad : Option Addr) (m c : Nat) (l : List Ag) (hx : a.eval x = .slice ad m c) (h : Ags w ad m c l)
    (hsm : n + m ≤ 1000) (hbase : base ≤ w.heap.size)
    (hK : ∀ v' w', w'.ownsRow base 27 3 v' (n + m) (flat (xs ++ l)) → w.grownBy w' v.ownBlock → K (a.put o.dst v') w') :
    if Region.wanted o (yielded ops a.tmps) = true then Oper.wp Tryd.prog o a w K Q else E := by
  have hw : Region.wanted o (yielded ops a.tmps) = true := by simp [Region.wanted, hgd]
  rw [if_pos hw]
  exact wp_append_ags w s x ho base v n xs hs hown ad m c l hx h hsm hbase hK
/-- What a row of agents that the call made reads as. -/
theorem Ags.of_owns {w : World} {base : Nat} {v : Value} {n : Nat} {l : List Ag} (h : w.ownsRow base 27 3 v n (flat l)) (hg : ∀ g ∈ l, Ints w g.la g.ln g.lc g.likes ∧ g.name.size ≤ maxLen) :
    ∃ a c, v = .slice a n c ∧ Ags w a n c l := by
  have hl : l.length = n := by have := h.1; rw [flat_length] at this; omega
  have h0 := h
  rcases h.2 with ⟨rfl, rfl⟩ | ⟨g, cap, cur, rfl, hbg, hgg, hnc, hcm, hcs, htake⟩
  · exact ⟨none, 0, rfl, hl.symm, Nat.le_refl _, by unfold maxLen; omega, hg, .inl rfl⟩
  · refine ⟨_, cap, rfl, hl.symm, hnc, hcm, hg, .inr ⟨g, 0, rfl, ?_, fun j hj => ?_⟩⟩
    · rcases Nat.lt_or_ge g w.heap.size with h' | h'
      · exact h'
      · rw [Array.getElem?_eq_none h'] at hgg; cases hgg
    · obtain ⟨h1, h2, h3⟩ := flat_at l j (by omega)
      simp only [Nat.zero_add]
      refine ⟨?_, ?_, ?_⟩
      · rw [h0.cellAt (j*3) (by omega)]; exact h1
      · rw [h0.cellAt (j*3+1) (by omega)]; exact h2
      · rw [h0.cellAt (j*3+2) (by omega)]; exact h3
set_option maxHeartbeats 1000000 in
theorem grow_nil (n : Nat) (w : World) (hn : n ≤ 1000) :
    Calls Tryd.prog 40 #[.slice none 0 0, .int .i64 n] w fun e w' => ∃ v, e = .returned v ∧ (w'.ownsRow w.heap.size 27 3 v 0 (flat [])) ∧ Below w.heap.size w w' := by
  obtain ⟨i0, hi, hz0, hz1, hz2⟩ := info_parts info27
  by_cases h0 : n = 0
  · subst h0
    go_enter Tryd.func40, Tryd.ntmps40
    go_wp2
    go_ret
    exact ⟨_, rfl, World.ownsRow_nil _ _ _ _, Below.refl _ _⟩
  · have hrz : ∀ ty, (Builtin.append_ #[22, 3] ty #[.slice none 0 0, .int .i64 (n : Int)]).run Tryd.prog w =
      .ok (.slice (some ⟨w.heap.size, 0, none⟩) n (grownCap w n 0 27)) (w.drew.alloc (.cells (Builtin.zeroCells (Value.agg #[.string ByteArray.empty, .int .i64 0, .slice none 0 0]).cells n ++ Builtin.zeroCells (Value.agg #[.string ByteArray.empty, .int .i64 0, .slice none 0 0]).cells (grownCap w n 0 27 - n)) 27)) := fun ty => by
      have h := Lib.run_append_grow_zeros w 22 3 ty 27 i0 _ .i64 .i64 Tryd.underlying22 Tryd.underlying3 hi hz0 none 0 0 [] (run_firstCells_none w.drew i0.size 0 0 0) n (by omega) (by omega) (by omega) (by omega)
        (by rw [hz2]; omega) (by rw [hz2]; exact growslice_fits (by omega) (by omega))
      simpa using h
    have hG := grownCap_ge w n 0 27
    have hG2 := grownCap_le_maxLen w n 0 27 (by unfold maxLen; omega)
    have hG3 := hG2
    unfold maxLen at hG3
    have hsz : (Builtin.zeroCells (Value.agg #[.string ByteArray.empty, .int .i64 0, .slice none 0 0]).cells n ++ Builtin.zeroCells (Value.agg #[.string ByteArray.empty, .int .i64 0, .slice none 0 0]).cells (grownCap w n 0 27 - n)).size = grownCap w n 0 27 * 3 := by
      simp only [Array.size_append, size_zeroCells]
      show n * 3 + (grownCap w n 0 27 - n) * 3 = _
      omega
    generalize Builtin.zeroCells (Value.agg #[.string ByteArray.empty, .int .i64 0, .slice none 0 0]).cells n ++ Builtin.zeroCells (Value.agg #[.string ByteArray.empty, .int .i64 0, .slice none 0 0]).cells (grownCap w n 0 27 - n) = cells at *
    generalize grownCap w n 0 27 = G at *
    have HS := hide hsz
    have hn0 : (0 : Int) < (n : Int) := by omega
    clear hsz hi hz0 hz1 hz2
    go_enter Tryd.func40, Tryd.ntmps40
    go_wp2_with (at_builtin; refine Lib.wpList_append_run _ rfl _ _ _ _ rfl _ _ rfl rfl _ _ (hrz _) ?_)
    go_ret
    refine ⟨_, rfl, World.ownsRow_made w.drew cells G (Nat.le_refl _) hG2 (unhide HS), ?_⟩
    go_grown
set_option maxHeartbeats 2000000 in
theorem concat_any (aL : Option Addr) (nL cL : Nat) (lL : List Ag) (aR : Option Addr) (nR cR : Nat) (lR : List Ag) (bb : Nat) (w : World) (hL : Ags w aL nL cL lL) (hR : Ags w aR nR cR lR) (hnL : nL ≤ 6) (hnR : nR ≤ 6)
    (hbb : bb < w.heap.size) (c0 : w.cell? ⟨bb, 0, none⟩ = some (.slice aL nL cL)) (c1 : w.cell? ⟨bb, 1, none⟩ = some (.slice aR nR cR)) :
    Calls Tryd.prog 19 #[.slice (some ⟨bb, 0, none⟩) 2 2] w fun e w' => ∃ a c, e = .returned (.slice a (nL + nR) c) ∧ Ags w' a (nL + nR) c (lL ++ lR) ∧ Below w.heap.size w w' := by
  go_enter Tryd.func19, Tryd.ntmps19
  go_wp2
  refine wp_loop_rounds 3 ?_
  rw [rounds_succ]
  go_wp2
  rw [rounds_succ]
  go_wp2
  rw [rounds_succ]
  go_wp2_with fail
  rw [show ((nL : Int) + (nR : Int)) = ((nL + nR : Nat) : Int) by simp]
  refine (grow_nil (nL + nR) w (by omega)).mono ?_
  rintro e w1 ⟨v1, rfl, ho1, hb1⟩
  have d0 := (hb1.cell (p := ⟨bb, 0, none⟩) hbb).trans c0
  have d1 := (hb1.cell (p := ⟨bb, 1, none⟩) hbb).trans c1
  have hL1 := hL.later hb1
  go_wp2_with fail
  refine wp_loop_rounds 3 ?_
  rw [rounds_succ]
  go_wp2_with (at_builtin; refine wpList_append_ags w1 rfl _ _ rfl w.heap.size v1 0 [] rfl ho1 aL nL cL lL rfl hL1 (by omega) hb1.size ?_; intro v2 w2 ho2 hg2)
  have hb2 : Below w.heap.size w w2 := hb1.grown hg2 hb1.size (fun k hk => (ho1.lt k hk).1)
  have d2 := (hb2.cell (p := ⟨bb, 1, none⟩) hbb).trans c1
  have hR2 := hR.later hb2
  rw [rounds_succ]
  go_wp2_with (at_builtin; refine wpList_append_ags w2 rfl _ _ rfl w.heap.size v2 (0 + nL) ([] ++ lL) rfl ho2 aR nR cR lR rfl hR2 (by omega) hb2.size ?_; intro v3 w3 ho3 hg3)
  have hb3 : Below w.heap.size w w3 := hb2.grown hg3 hb2.size (fun k hk => (ho2.lt k hk).1)
  rw [rounds_succ]
  go_wp2
  simp only [Nat.zero_add, List.nil_append] at ho3
  obtain ⟨a3, c3, hv3, hA⟩ := Ags.of_owns ho3 (fun g hg => by
    rcases List.mem_append.1 hg with hg | hg
    · exact ⟨((hL.2.2.2.1 g hg).1).later hb3, (hL.2.2.2.1 g hg).2⟩
    · exact ⟨((hR.2.2.2.1 g hg).1).later hb3, (hR.2.2.2.1 g hg).2⟩)
  rw [hv3]
  go_ret
  exact ⟨a3, c3, rfl, hA, hb3⟩
end Go.Proofs.YtajdijjecojdhaaDoor
