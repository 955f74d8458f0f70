import Derived.Test.YtkeanlpgnnikjaaA
namespace Go.Proofs.Ytkeanlpgnnikjaa
open Go.RowKit
section
variable {P : Program} {ops : Array Oper} {C : World → Prop} {l n : Nat}
/-- An operation, or a call, that leaves this value and a world of the class. -/
def upC (P : Program) (C : World → Prop) (v : Value) : Result Next → Prop
  | .ok (.value u) w' => C w' ∧ u = v
  | .ok .skip w' => C w' ∧ v = undef
  | .ok (.enter f args) w' => Calls P f args w' fun e w'' => e = .returned v ∧ C w''
  | _ => False
def OneC (P : Program) (ops : Array Oper) (C : World → Prop) (o : Oper) (v : Value) (a : Act) : Prop :=
  (Region.wanted o (yielded ops a.tmps) = true ∧ ∀ w, C w → upC P C v ((execOp a.eval o).run P w)) ∨ (Region.wanted o (yielded ops a.tmps) = false ∧ v = undef)
def walkC (P : Program) (ops : Array Oper) (C : World → Prop) (Q : Act → Prop) : List Oper → Act → Prop
  | [], a => Q a
  | o :: rest, a => ∃ v, OneC P ops C o v a ∧ walkC P ops C Q rest (a.put o.dst v)
theorem walkC_yes {Q : Act → Prop} {o : Oper} {rest : List Oper} {a : Act} (v : Value) (hw : Region.wanted o (yielded ops a.tmps) = true) (h : ∀ w, C w → upC P C v ((execOp a.eval o).run P w)) (hr : walkC P ops C Q rest (a.put o.dst v)) : walkC P ops C Q (o :: rest) a := ⟨v, .inl ⟨hw, h⟩, hr⟩
theorem walkC_no {Q : Act → Prop} {o : Oper} {rest : List Oper} {a : Act} (hw : Region.wanted o (yielded ops a.tmps) = false) (hr : walkC P ops C Q rest (a.put o.dst undef)) : walkC P ops C Q (o :: rest) a := ⟨undef, .inr ⟨hw, rfl⟩, hr⟩
/-- The first m in whatever order. -/
def anyC (P : Program) (ops : Array Oper) (C : World → Prop) (m : Nat) (L : Array Bool → Act → Prop) : Nat → Array Bool → Act → Prop
  | 0, listed, a => L listed a
  | f + 1, listed, a => Region.ready .any ops listed ≠ [] ∧
    ∀ i ∈ Region.ready .any ops listed, i < m ∧ ∃ o v, ops[i]? = some o ∧ OneC P ops C o v a ∧ anyC P ops C m L f (listed.setIfInBounds i true) (a.put o.dst v)
theorem OneC.same {o : Oper} {v : Value} {a a' : Act} (h : OneC P ops C o v a) (he : execOp a'.eval o = execOp a.eval o) (hw : Region.wanted o (yielded ops a'.tmps) = Region.wanted o (yielded ops a.tmps)) : OneC P ops C o v a' := by
  unfold OneC at *
  rw [he, hw]
  exact h
theorem anyC_first {m i : Nat} {oi : Oper} {v : Value} {L : Array Bool → Act → Prop} (hi : ops[i]? = some oi) (hsel : ∀ (j : Nat) (o : Oper) cs b, ops[j]? = some o → o.op ≠ .select cs b)
    (hs : Region.sinkB .any ops m = true) (hc : Region.chainB .any ops m = true) (hn : m < ops.size) (him : i < m) (hdone : ∀ listed a, L listed a → ∀ j ∈ Region.ready .any ops listed, m ≤ j) :
    ∀ (f : Nat) (listed : Array Bool) (a : Act), HeadInv .any ops m listed →
      (∀ j oj, ops[j]? = some oj → j ≠ i → listed.getD j true = false → (∀ e ∈ oj.after, Region.binds .any e = true → e.on ≠ i) → oi.apart ops oj = true) →
      i ∈ Region.ready .any ops listed → OneC P ops C oi v a → anyC P ops C m L f (listed.setIfInBounds i true) (a.put oi.dst v) → anyC P ops C m L (f + 1) listed a := by
  intro f
  induction f with
  | zero =>
    intro listed a inv _ hr hy H
    have hi0 := (mem_ready.1 hr).1
    refine ⟨fun h => (by rw [h] at hr; cases hr), fun j hj => ?_⟩
    have hjm : j < m := Nat.lt_of_not_le fun h => tail_waits hs hc hn inv _ i rfl him hi0 j h hj
    by_cases e : j = i
    · subst e; exact ⟨hjm, oi, v, hi, hy, H⟩
    · have := hdone _ _ H j (ready_mono hj e)
      omega
  | succ f ih =>
    intro listed a inv hfree hr hy H
    have hi0 := (mem_ready.1 hr).1
    refine ⟨fun h => (by rw [h] at hr; cases hr), fun j hj => ?_⟩
    have hjm : j < m := Nat.lt_of_not_le fun h => tail_waits hs hc hn inv _ i rfl him hi0 j h hj
    by_cases e : j = i
    · subst e; exact ⟨hjm, oi, v, hi, hy, H⟩
    · obtain ⟨_, oj, u, hoj, cj, hrest⟩ := H.2 j (ready_mono hj e)
      obtain ⟨hun, oj', hoj', hall⟩ := mem_ready.1 hj
      rw [hoj] at hoj'
      cases hoj'
      have hnot : ∀ e ∈ oj.after, Region.binds .any e = true → e.on ≠ i := fun e he hb heq => by
        have h1 := hall e he hb
        rw [heq] at h1
        rcases Nat.lt_or_ge i listed.size with h' | h'
        · simp [h'] at hi0 h1
          rw [hi0] at h1
          cases h1
        · simp [Array.getElem?_eq_none h'] at h1
      obtain ⟨h1, h2, h3⟩ := Oper.apart_spec (hfree j oj hoj e hun hnot)
      have si := fun cs b => hsel i oi cs b hi
      have sj := fun cs b => hsel j oj cs b hoj
      refine ⟨hjm, oj, u, hoj, cj.same (execOp_put oj sj a oi.dst v h1).symm (wanted_put oj a oi.dst v h1).symm, ih _ _ (inv.set hj hjm) ?_ (ready_mono hr (Ne.symm e)) (hy.same (execOp_put oi si a oj.dst u h3) (wanted_put oi a oj.dst u h3)) ?_⟩
      · intro k ok hk hki hu hno
        refine hfree k ok hk hki ?_ hno
        by_cases ejk : j = k
        · subst ejk; exact hun
        · rw [getD_set_ne true ejk] at hu; exact hu
      · rw [← Act.put_comm a v u h2, Array.setIfInBounds_comm _ _ e]
        exact hrest
theorem anyC_lex {m g : Nat} {Lq : Act → Prop} (hsel : Region.noSelect ops = true) (hs : Region.sinkB .any ops m = true) (hc : Region.chainB .any ops m = true) (hn : m < ops.size) :
    ∀ (os : List Oper) (k : Nat) (listed : Array Bool) (a : Act), (∀ j, j < os.length → os[j]? = ops[k + j]?) → k + os.length = m → HeadInv .any ops m listed →
    Region.lexHead .any ops g os.length k listed = true → walkC P ops C Lq os a →
    anyC P ops C m (fun listed' a' => Region.seqB .any ops g m listed' = true ∧ Lq a') os.length listed a
  | [], k, listed, a, _, hk, _, hB, h => by
    have : k = m := by simpa using hk
    subst this
    exact ⟨by simpa [Region.lexHead] using hB, h⟩
  | o :: os, k, listed, a, hl, hk, inv, hB, h => by
    have h0 : ops[k]? = some o := by simpa using (hl 0 (by simp)).symm
    simp only [List.length_cons, Region.lexHead, Bool.and_eq_true] at hB
    obtain ⟨⟨hr, hf⟩, hB'⟩ := hB
    have hkn : k < m := by simp only [List.length_cons] at hk; omega
    have hr' : k ∈ Region.ready .any ops listed := by simpa using hr
    obtain ⟨v, hy, hK⟩ := h
    exact anyC_first h0 (Region.noSelect_spec hsel) hs hc hn hkn (fun listed' a' hL => seqB_ready hL.1) os.length listed a inv (Region.free_spec h0 hf) hr' hy
      (anyC_lex hsel hs hc hn os (k + 1) _ _ (fun j hj => by have := hl (j + 1) (by simp; omega); simpa [Nat.add_assoc, Nat.add_comm 1 j] using this) (by simp only [List.length_cons] at hk; omega) (inv.set hr' hkn) hB' hK)
theorem head_plain {m g : Nat} {L : Array Bool → Act → Prop} {Q' : Exit → Act → World → Prop} (hL : ∀ listed a w, C w → L listed a → wpAny P .any ops Q' g listed a w) :
    ∀ (f : Nat) (listed : Array Bool) (a : Act) (w : World), C w → anyC P ops C m L f listed a → wpAny P .any ops Q' (f + g) listed a w
  | 0, listed, a, w, hw, h => by rw [Nat.zero_add]; exact hL _ _ _ hw h
  | f + 1, listed, a, w, hw, h => by
    rw [show f + 1 + g = (f + g) + 1 by omega]
    refine ⟨fun h0 => absurd h0 h.1, fun i hi => ?_⟩
    obtain ⟨_, o, v, ho, hc, hrest⟩ := h.2 i hi
    unfold wpOp
    rw [ho]
    dsimp only
    rcases hc with ⟨hx, hc⟩ | ⟨hx, rfl⟩
    · rw [if_pos hx]
      refine .inl ?_
      unfold Oper.wp
      have h3 := hc w hw
      revert h3
      generalize (execOp a.eval o).run P w = r
      intro h3
      rcases r with ⟨x, w'⟩ | ⟨x, w'⟩
      · cases x <;> first | (exact h3.elim) | skip
        · obtain ⟨h4, rfl⟩ := h3
          exact head_plain hL f _ _ _ h4 hrest
        · obtain ⟨h4, rfl⟩ := h3
          exact head_plain hL f _ _ _ h4 hrest
        · refine Calls.mono h3 ?_
          rintro e w2 ⟨rfl, hw2⟩
          exact head_plain hL f _ _ _ hw2 hrest
      · exact h3.elim
    · rw [if_neg (by rw [hx]; exact Bool.false_ne_true)]
      exact head_plain hL f _ _ _ hw hrest
theorem inv_first (os : List Oper) (m : Nat) : HeadInv .any os.toArray m (Array.replicate os.toArray.size false) :=
  ⟨by simp, fun j oj _ hl => (by rw [getD_replicate_false] at hl; cases hl), fun t _ ht => getD_in (by simpa using ht) (getD_replicate_false _ _)⟩
/-- A region that draws its order: it reads and calls, within a class of worlds; then it stores, one thing behind the other. -/
theorem wp_calm_tail {id : Nat} {Q : Exit → Act → World → Prop} {a : Act} {w : World} {os : List Oper} (C : World → Prop) (m : Nat) (hm : P.follows .mixedOrders = true) (hB : Region.lexTailB .any os.toArray m = true) (hC : C w.drew)
    (h : walkC P os.toArray C (fun a' => ∀ w', C w' → wpList P os.toArray Q (os.drop m) a' w') (os.take m) a) : (Code.region id os.toArray true).wp P Q a w := by
  simp only [Region.lexTailB, Bool.and_eq_true, decide_eq_true_eq] at hB
  obtain ⟨⟨⟨⟨hsel, hn⟩, hs⟩, hc⟩, hlex⟩ := hB
  have hn' : m < os.length := by simpa using hn
  have htl : (os.take m).length = m := by simp; omega
  have hdl : (os.drop m).length = os.toArray.size - m := by simp
  have H := anyC_lex (g := os.toArray.size - m) hsel hs hc hn (os.take m) 0 _ a (fun j hj => by
    have hj' : j < m := by rw [htl] at hj; exact hj
    simp [hj']) (by simpa using htl) (inv_first os m) (by rw [htl]; exact hlex) h
  refine wp_region_any hm ?_
  have := head_plain (Q' := Q) (g := os.toArray.size - m) (fun listed a' w' hw' hL => by
    have := wpAny_of_seq (md := .any) (Q' := Q) (os.drop m) m listed a' w' (fun j => by simp [List.getElem?_drop]) (by rw [hdl]; exact hL.1) (hL.2 w' hw')
    rwa [hdl] at this) _ _ _ _ hC H
  rw [htl, show m + (os.toArray.size - m) = os.toArray.size by omega] at this
  exact this
end
end Go.Proofs.Ytkeanlpgnnikjaa
