import Derived.Test.YtbcchbhchfdbiaaWS
namespace Go.Proofs.Ytbcchbhchfdbiaa
open Go.RowKit Go.Shelf
def flatN (l : List Nd) : List Value := l.flatMap fun d => [.int .i64 d.pl, .slice d.k.la d.k.ln d.k.lc, .slice d.p.la d.p.ln d.p.lc]
theorem flatN_length (l : List Nd) : (flatN l).length = l.length * 3 := by
  induction l with
  | nil => rfl
  | cons g l ih => simp [flatN, List.flatMap_cons] at ih ⊢; omega
theorem flatN_append (a b : List Nd) : flatN (a ++ b) = flatN a ++ flatN b := by simp [flatN]
theorem flatN_cons (d : Nd) (l : List Nd) : flatN (d :: l) = .int .i64 d.pl :: .slice d.k.la d.k.ln d.k.lc :: .slice d.p.la d.p.ln d.p.lc :: flatN l := by simp [flatN]
theorem ndAt_succ (d : Nd) (l : List Nd) (j : Nat) : ndAt (d :: l) (j+1) = ndAt l j := by simp [ndAt]
theorem flatN_at (l : List Nd) : ∀ j, j < l.length → (flatN l)[j*3]? = some (.int .i64 (ndAt l j).pl) ∧ (flatN l)[j*3+1]? = some (.slice (ndAt l j).k.la (ndAt l j).k.ln (ndAt l j).k.lc) ∧ (flatN l)[j*3+2]? = some (.slice (ndAt l j).p.la (ndAt l j).p.ln (ndAt l j).p.lc) := by
  induction l with
  | nil => intro j h; simp at h
  | cons g l ih =>
    intro j h
    rw [flatN_cons]
    cases j with
    | zero => simp [ndAt]
    | succ j =>
      rw [ndAt_succ, show (j+1)*3 = j*3+1+1+1 by omega]
      simp only [List.getElem?_cons_succ]
      exact ih j (by simpa using h)
theorem flatN_one (l : List Nd) : ∀ u ∈ flatN l, u.oneCell' = true := by
  intro u hu
  simp only [flatN, List.mem_flatMap] at hu
  obtain ⟨g, _, hg⟩ := hu
  simp at hg
  rcases hg with rfl | rfl | rfl <;> rfl
theorem info51 : (Try.prog.info? 51).map (fun i => (i.zero, i.size, i.bytes)) = some (some (.agg #[.int .i64 0, .slice none 0 0, .slice none 0 0]), 3, 56) := by kernel_rfl
theorem run_append_node (w : World) (ty : TypeId) (base : Nat) (v : Value) (n : Nat) (xs : List Nd) (hown : w.ownsRow base 51 3 v n (flatN xs)) (g : Nat) (d : Nd) (h0 : w.cell? ⟨g, 0, none⟩ = some (.int .i64 d.pl)) (h1 : w.cell? ⟨g, 1, none⟩ = some (.slice d.k.la d.k.ln d.k.lc)) (h2 : w.cell? ⟨g, 2, none⟩ = some (.slice d.p.la d.p.ln d.p.lc))
    (hsm : n ≤ 1000) (hbase : base ≤ w.heap.size) :
    ∃ v' w', (Builtin.append_ #[22, 22] ty #[v, .slice (some ⟨g, 0, none⟩) 1 1]).run Try.prog w = .ok v' w' ∧ w'.ownsRow base 51 3 v' (n + 1) (flatN (xs ++ [d])) ∧ w.grownBy w' v.ownBlock := by
  obtain ⟨i0, hi, hz0, hz1, hz2⟩ := info_parts info51
  have e : ∀ i, (⟨g, 0, none⟩ : Addr).add i = ⟨g, i, none⟩ := fun i => by unfold Addr.add; split <;> simp_all
  obtain ⟨v', w', hr, ho, hg, _⟩ := run_append_own (P := Try.prog) w base 22 ty 51 i0 _ 3 56 Try.underlying22 hi hz0 hz1 hz2 rfl (by decide) v n (flatN xs) hown ⟨g, 0, none⟩ 1 1 (flatN [d]) (by rw [flatN_length]; rfl) (fun j u hu => by
    rw [e, flatN_cons] at *
    match j, hu with
    | 0, hu => simp at hu; subst hu; exact h0
    | 1, hu => simp at hu; subst hu; exact h1
    | 2, hu => simp at hu; subst hu; exact h2
    | j + 3, hu => simp [flatN] at hu) (flatN_one [d]) (by unfold maxLen; omega) (by omega) hbase
  exact ⟨v', w', hr, by rw [flatN_append]; exact ho, hg⟩
theorem wpList_append_node (w : World) {ops : Array Oper} {rest : List Oper} {o : Oper} {a : Act} {Q : Exit → Act → World → Prop} (hgd : o.guard = none) (s x : Operand)
    (ho : o.op = .call { callee := .builtin .append, args := #[s, x], argTypes := #[22, 22] })
    (base : Nat) (v : Value) (n : Nat) (xs : List Nd) (hs : a.eval s = v) (hown : w.ownsRow base 51 3 v n (flatN xs))
    (g : Nat) (d : Nd) (hx : a.eval x = .slice (some ⟨g, 0, none⟩) 1 1) (h0 : w.cell? ⟨g, 0, none⟩ = some (.int .i64 d.pl)) (h1 : w.cell? ⟨g, 1, none⟩ = some (.slice d.k.la d.k.ln d.k.lc)) (h2 : w.cell? ⟨g, 2, none⟩ = some (.slice d.p.la d.p.ln d.p.lc))
    (hsm : n ≤ 1000) (hbase : base ≤ w.heap.size)
    (hK : ∀ v' w', w'.ownsRow base 51 3 v' (n + 1) (flatN (xs ++ [d])) → w.grownBy w' v.ownBlock → wpList Try.prog ops Q rest (a.put o.dst v') w') : wpList Try.prog ops Q (o :: rest) a w :=
  wpList_plain hgd fun _ hk => by
    obtain ⟨v', w', hr, h2, h3⟩ := run_append_node w o.type base v n xs hown g d h0 h1 h2 hsm hbase
    unfold Oper.wp execOp
    simp only [ho, resolve, invoke, builtin, Sem.run_bind, Sem.run_pure, Result.andThen_ok, List.map_toArray, List.map_cons, List.map_nil, hs, hx, hr]
    exact hk _ _ (hK v' w' h2 h3)
theorem T3.apartN {w : World} {base k : Nat} {v : Value} {xs : List Value} {b : Nat} {arr : Array Value} {fz : Nat × Nat} (ho : w.ownsRow base 51 3 v k xs) (h : w.heap[b]? = some (.cells arr 3 fz)) : some b ≠ v.ownBlock := by
  intro e
  have e := e.symm
  rcases ho.2 with ⟨rfl, _⟩ | ⟨g, cap, cur, rfl, _, hg, _⟩
  · cases e
  · have e2 : g = b := by simpa [Value.ownBlock] using e
    subst e2
    rw [hg] at h
    cases h
theorem T3.grownN {w w' : World} {base k : Nat} {v : Value} {xs : List Value} {a : Option Addr} {n c : Nat} {l : List Int} (h : T3 w a n) (hI : Ints w a n c l) (ho : w.ownsRow base 51 3 v k xs) (hg : w.grownBy w' v.ownBlock) : T3 w' a n ∧ Ints w' a n c l := by
  rcases h with h | ⟨b, off, arr, fz, h1, h2⟩
  · exact ⟨Or.inl h, hI.1, hI.2.1, hI.2.2.1, Or.inl h⟩
  · have hlt := (Array.getElem?_eq_some_iff.1 h2).1
    have hb := hg.block b hlt (T3.apartN ho h2)
    refine ⟨Or.inr ⟨b, off, arr, fz, h1, by rw [hb]; exact h2⟩, hI.1, hI.2.1, hI.2.2.1, ?_⟩
    rcases hI.2.2.2 with h0 | ⟨b', off', e, hlt', hc⟩
    · exact Or.inl h0
    · rw [h1] at e
      cases e
      exact Or.inr ⟨b, off, h1, Nat.lt_of_lt_of_le hlt hg.size, fun j hj => (World.cell?_of_block (a := ⟨b, off + j, none⟩) hb).trans (hc j hj)⟩
theorem Ints.other {w : World} {a : Option Addr} {n c g o : Nat} {l : List Int} {v : Value} (h : Ints w a n c l) (hne : ∀ b o, a = some ⟨b, o, none⟩ → b ≠ g) : Ints (w.setCell ⟨g, o, none⟩ v) a n c l := by
  obtain ⟨h1, h2, h3, h4⟩ := h
  refine ⟨h1, h2, h3, h4.imp id ?_⟩
  rintro ⟨b, off, e, hb, hc⟩
  exact ⟨b, off, e, by simpa using hb, fun j hj => by rw [World.cell?_setCell_other _ _ _ _ (by intro hh; cases hh; exact hne _ _ e rfl)]; exact hc j hj⟩
theorem T3.other {w : World} {a : Option Addr} {n g o : Nat} {v : Value} (h : T3 w a n) (hne : ∀ b o, a = some ⟨b, o, none⟩ → b ≠ g) : T3 (w.setCell ⟨g, o, none⟩ v) a n := by
  rcases h with h | ⟨b, off, arr, fz, e, hb⟩
  · exact .inl h
  · exact .inr ⟨b, off, arr, fz, e, by rw [Below.heap_setCell _ _ _ _ (hne b off e)]; exact hb⟩
theorem ownN_other {w : World} {base n g o : Nat} {v u : Value} {xs : List Value} (h : w.ownsRow base 51 3 v n xs) (hg : g < base) : (w.setCell ⟨g, o, none⟩ u).ownsRow base 51 3 v n xs := by
  refine ⟨h.1, ?_⟩
  rcases h.2 with e | ⟨g', cap, cur, e, hb, hh, h1, h2, h3, h4⟩
  · exact .inl e
  · refine .inr ⟨g', cap, cur, e, hb, ?_, h1, h2, h3, h4⟩
    rw [Below.heap_setCell _ _ _ _ (by show _ ≠ g; omega)]
    exact hh
/-- A slice that was made here: its ints, in a block of ints at lo or behind. -/
def Own3 (lo : Nat) (w : World) (s : Sl) : Prop := SlIn w s ∧ T3 w s.la s.ln ∧ ∀ b o, s.la = some ⟨b, o, none⟩ → lo ≤ b
theorem Own3.later {lo : Nat} {w w' : World} {s : Sl} (h : Own3 lo w s) (hb : Below w.heap.size w w') : Own3 lo w' s := ⟨h.1.later hb, h.2.1.later hb, h.2.2⟩
theorem Own3.other {lo g o : Nat} {w : World} {s : Sl} {u : Value} (h : Own3 lo w s) (hg : g < lo) : Own3 lo (w.setCell ⟨g, o, none⟩ u) s :=
  ⟨Ints.other h.1 (fun b o hb => by have := h.2.2 b o hb; omega), h.2.1.other (fun b o hb => by have := h.2.2 b o hb; omega), h.2.2⟩
theorem Own3.grown {lo base k : Nat} {w w' : World} {s : Sl} {v : Value} {xs : List Value} (h : Own3 lo w s) (ho : w.ownsRow base 51 3 v k xs) (hg : w.grownBy w' v.ownBlock) : Own3 lo w' s :=
  have := h.2.1.grownN h.1 ho hg
  ⟨this.2, this.1, h.2.2⟩
/-- A row of nodes that is being made. -/
def RowN (lo : Nat) (wr : World) (v : Value) (k : Nat) (L : List Nd) : Prop :=
  wr.ownsRow lo 51 3 v k (flatN L) ∧ ∀ d ∈ L, Own3 lo wr d.k ∧ Own3 lo wr d.p
theorem RowN.later {lo : Nat} {w w' : World} {v : Value} {k : Nat} {L : List Nd} (h : RowN lo w v k L) (hb : Below w.heap.size w w') : RowN lo w' v k L :=
  ⟨owns_later h.1 hb, fun d hd => ⟨(h.2 d hd).1.later hb, (h.2 d hd).2.later hb⟩⟩
theorem RowN.other {lo g o : Nat} {w : World} {v u : Value} {k : Nat} {L : List Nd} (h : RowN lo w v k L) (hg : g < lo) : RowN lo (w.setCell ⟨g, o, none⟩ u) v k L :=
  ⟨ownN_other h.1 hg, fun d hd => ⟨(h.2 d hd).1.other hg, (h.2 d hd).2.other hg⟩⟩
theorem RowN.next {lo : Nat} {w w' : World} {v v' : Value} {k : Nat} {L : List Nd} {d : Nd} (h : RowN lo w v k L) (hk : Own3 lo w d.k) (hp : Own3 lo w d.p)
    (ho : w'.ownsRow lo 51 3 v' (k + 1) (flatN (L ++ [d]))) (hg : w.grownBy w' v.ownBlock) : RowN lo w' v' (k + 1) (L ++ [d]) := by
  refine ⟨ho, fun x hx => ?_⟩
  rcases List.mem_append.1 hx with h' | h'
  · exact ⟨(h.2 x h').1.grown h.1 hg, (h.2 x h').2.grown h.1 hg⟩
  · rw [List.mem_singleton] at h'
    subst h'
    exact ⟨hk.grown h.1 hg, hp.grown h.1 hg⟩
theorem RowN.nodes {lo : Nat} {w : World} {v : Value} {n : Nat} {L : List Nd} (h : RowN lo w v n L) : ∃ a c, v = .slice a n c ∧ Nodes w a n c L := by
  have hl : L.length = n := by have := h.1.1; rw [flatN_length] at this; omega
  have h0 := h.1
  rcases h.1.2 with ⟨rfl, rfl⟩ | ⟨g, cap, cur, rfl, hbg, hgg, hnc, hcm, hcs, htake⟩
  · exact ⟨none, 0, rfl, hl.symm, Nat.le_refl _, by unfold maxLen; omega, fun d hd => ⟨(h.2 d hd).1.1, (h.2 d hd).2.1⟩, .inl rfl⟩
  · have hlt : g < w.heap.size := (Array.getElem?_eq_some_iff.1 hgg).1
    refine ⟨_, cap, rfl, hl.symm, hnc, hcm, fun d hd => ⟨(h.2 d hd).1.1, (h.2 d hd).2.1⟩, .inr ⟨g, 0, rfl, hlt, fun j hj => ?_⟩⟩
    obtain ⟨h1, h2, h3⟩ := flatN_at L j (by omega)
    refine ⟨?_, ?_, ?_⟩
    · rw [Nat.zero_add, h0.cellAt (j * 3) (by omega)]; exact h1
    · rw [Nat.zero_add, h0.cellAt (j * 3 + 1) (by omega)]; exact h2
    · rw [Nat.zero_add, h0.cellAt (j * 3 + 2) (by omega)]; exact h3
theorem ownN_slice {w : World} {base k : Nat} {v : Value} {xs : List Value} (h : w.ownsRow base 51 3 v k xs) (hk : 0 < k) : ∃ g cap, v = .slice (some ⟨g, 0, none⟩) k cap := by
  rcases h.2 with ⟨_, e⟩ | ⟨g, cap, cur, e, _⟩
  · omega
  · exact ⟨g, cap, e⟩
theorem own3_slice {w : World} {base k : Nat} {v : Value} {xs : List Value} (h : w.ownsRow base 3 1 v k xs) (hk : 0 < k) : ∃ g cap, v = .slice (some ⟨g, 0, none⟩) k cap := by
  rcases h.2 with ⟨_, e⟩ | ⟨g, cap, cur, e, _⟩
  · omega
  · exact ⟨g, cap, e⟩
theorem own3_of {w : World} {B lo : Nat} {v : Value} {n : Nat} {l : List Int} (h : w.ownsRow B 3 1 v n (intVals l)) (hn : n ≤ 1000) (hlo : lo ≤ B) : ∃ a c, v = .slice a n c ∧ Own3 lo w ⟨a, n, c, l⟩ := by
  obtain ⟨a2, c2, hv2, hI2, hl⟩ := Ints.of_owns h hn
  have hT2 := T3.of_owns (by rw [hv2] at h; exact h)
  refine ⟨a2, c2, hv2, hI2, hT2, fun b o e => ?_⟩
  dsimp only at e
  rcases h.2 with ⟨e1, e2⟩ | ⟨g, cap, cur, e1, hb, _⟩
  · rw [e1] at hv2; cases hv2; cases e
  · rw [e1] at hv2; cases hv2; cases e; omega
end Go.Proofs.Ytbcchbhchfdbiaa
