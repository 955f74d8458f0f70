import Derived.Test.YtbbbjpkomnhofaaGA
namespace Go.Proofs.Ytbbbjpkomnhofaa
open Go.RowKit Go.Shelf
section
variable {P : Program} {ops : Array Oper} {C : Array Bool → World → Prop} {l n : Nat}
/-- An operation that leaves this value, and a world of the class, in whatever world of the class it comes up. -/
def upI (C : World → Prop) (v : Value) : Result Next → Prop
  | .ok (.value u) w' => C w' ∧ u = v
  | .ok .skip w' => C w' ∧ v = undef
  | _ => False
def OneI (P : Program) (ops : Array Oper) (C : Array Bool → World → Prop) (i : Nat) (o : Oper) (v : Value) (a : Act) : Prop :=
  Region.wanted o (yielded ops a.tmps) = true ∧ ∀ listed w, listed.size = ops.size → C listed w → upI (C (listed.setIfInBounds i true)) v ((execOp a.eval o).run P w)
/-- One behind the other, as they stand. -/
def walkI (P : Program) (ops : Array Oper) (C : Array Bool → World → Prop) (Q : Act → Prop) : Nat → List Oper → Act → Prop
  | _, [], a => Q a
  | k, o :: rest, a => ∃ v, OneI P ops C k o v a ∧ walkI P ops C Q (k + 1) rest (a.put o.dst v)
/-- In whatever order. -/
def anyI (P : Program) (ops : Array Oper) (C : Array Bool → World → Prop) (Q : Array Bool → Act → Prop) : Nat → Array Bool → Act → Prop
  | 0, listed, a => Region.ready .any ops listed = [] ∧ Q listed a
  | fuel + 1, listed, a => Region.ready .any ops listed ≠ [] ∧
    ∀ i ∈ Region.ready .any ops listed, ∃ o v, ops[i]? = some o ∧ OneI P ops C i o v a ∧ anyI P ops C Q fuel (listed.setIfInBounds i true) (a.put o.dst v)
theorem OneI.same {i : Nat} {o : Oper} {v : Value} {a a' : Act} (h : OneI P ops C i o v a) (he : execOp a'.eval o = execOp a.eval o) (hw : Region.wanted o (yielded ops a'.tmps) = Region.wanted o (yielded ops a.tmps)) : OneI P ops C i o v a' := by
  unfold OneI at *
  rw [he, hw]
  exact h
theorem anyI_first {Q : Array Bool → Act → Prop} {i : Nat} {oi : Oper} {v : Value} (hi : ops[i]? = some oi) (hsel : ∀ (j : Nat) (o : Oper) cs b, ops[j]? = some o → o.op ≠ .select cs b) :
    ∀ (fuel : Nat) (listed : Array Bool) (a : Act),
      (∀ j oj, ops[j]? = some oj → j ≠ i → listed.getD j true = false → (∀ e ∈ oj.after, Region.binds .any e = true → e.on ≠ i) → oi.apart ops oj = true) →
      i ∈ Region.ready .any ops listed → OneI P ops C i oi v a → anyI P ops C Q fuel (listed.setIfInBounds i true) (a.put oi.dst v) → anyI P ops C Q (fuel + 1) listed a := by
  intro fuel
  induction fuel with
  | zero =>
    intro listed a _ hr hy H
    refine ⟨fun h => (by rw [h] at hr; cases hr), fun j hj => ?_⟩
    by_cases e : j = i
    · subst e; exact ⟨oi, v, hi, hy, H⟩
    · have := ready_mono hj e
      rw [H.1] at this
      cases this
  | succ fuel ih =>
    intro listed a hfree hr hy H
    refine ⟨fun h => (by rw [h] at hr; cases hr), fun j hj => ?_⟩
    by_cases e : j = i
    · subst e; exact ⟨oi, v, hi, hy, H⟩
    · obtain ⟨oj, u, hoj, cj, hrest⟩ := H.2 j (ready_mono hj e)
      obtain ⟨hun, oj', hoj', hall⟩ := mem_ready.1 hj
      rw [hoj] at hoj'
      cases hoj'
      have hi0 := (mem_ready.1 hr).1
      have hnot : ∀ e ∈ oj.after, Region.binds .any e = true → e.on ≠ i := fun e he hb heq => by
        have h1 := hall e he hb
        rw [heq] at h1
        rcases Nat.lt_or_ge i listed.size with h' | h'
        · simp [h'] at hi0 h1
          rw [hi0] at h1
          cases h1
        · simp [Array.getElem?_eq_none h'] at h1
      obtain ⟨h1, h2, h3⟩ := Oper.apart_spec (hfree j oj hoj e hun hnot)
      have si := fun cs b => hsel i oi cs b hi
      have sj := fun cs b => hsel j oj cs b hoj
      refine ⟨oj, u, hoj, cj.same (execOp_put oj sj a oi.dst v h1).symm (wanted_put oj a oi.dst v h1).symm, ih _ _ ?_ (ready_mono hr (Ne.symm e)) (hy.same (execOp_put oi si a oj.dst u h3) (wanted_put oi a oj.dst u h3)) ?_⟩
      · intro k ok hk hki hu hno
        refine hfree k ok hk hki ?_ hno
        by_cases ejk : j = k
        · subst ejk; exact hun
        · rw [getD_set_ne true ejk] at hu; exact hu
      · rw [← Act.put_comm a v u h2, Array.setIfInBounds_comm _ _ e]
        exact hrest
theorem anyI_lex {Q : Act → Prop} (hs : Region.noSelect ops = true) : ∀ (os : List Oper) (k : Nat) (listed : Array Bool) (a : Act), (∀ j, os[j]? = ops[k + j]?) → listed.size = ops.size → (∀ j, j < k → listed.getD j false = true) →
    Region.lexFrom .any ops os.length k listed = true → walkI P ops C Q k os a → anyI P ops C (fun listed a => (∀ j, j < ops.size → listed.getD j false = true) ∧ Q a) os.length listed a
  | [], k, listed, a, hl, hz, hj, hB, h => ⟨by simpa [Region.lexFrom] using hB, fun j hlt => hj j (by
      have h0 := hl 0
      simp only [List.getElem?_nil, Nat.add_zero] at h0
      rcases Nat.lt_or_ge k ops.size with h' | h'
      · rw [Array.getElem?_eq_getElem h'] at h0; cases h0
      · omega), h⟩
  | o :: os, k, listed, a, hl, hz, hj, hB, h => by
    have h0 : ops[k]? = some o := by simpa using (hl 0).symm
    have hk : k < ops.size := (Array.getElem?_eq_some_iff.1 h0).1
    simp only [List.length_cons, Region.lexFrom, Bool.and_eq_true] at hB
    obtain ⟨⟨hr, hf⟩, hB'⟩ := hB
    obtain ⟨v, hy, hK⟩ := h
    exact anyI_first h0 (Region.noSelect_spec hs) os.length listed a (Region.free_spec h0 hf) (by simpa using hr) hy
      (anyI_lex hs os (k + 1) _ _ (fun j => by have := hl (j + 1); simpa [Nat.add_assoc, Nat.add_comm 1 j] using this) (by simp [hz]) (fun j hjk => by
        by_cases e : k = j
        · subst e; simp [hz, hk]
        · rw [getD_set_ne false e]; exact hj j (by omega)) hB' hK)
theorem anyI_round (hd : noDefer ops = true) {Q : Array Bool → Act → Prop} {Q' : Exit → Act → World → Prop} (hQ : ∀ listed a w, C listed w → Q listed a → Q' .normal a w) : ∀ (fuel : Nat) (listed : Array Bool) (a : Act) (w : World), listed.size = ops.size → C listed w →
    anyI P ops C Q fuel listed a → wpAnyIn (Fence.wide.inRound l) n P .any ops Q' fuel listed a w
  | 0, _, _, _, _, hw, h => ⟨h.1, hQ _ _ _ hw h.2⟩
  | fuel + 1, listed, a, w, hz, hw, h => ⟨fun h0 => absurd h0 h.1, fun i hi => by
      obtain ⟨o, v, ho, ⟨hx, hc⟩, hrest⟩ := h.2 i hi
      unfold wpOpIn
      rw [ho]
      dsimp only
      rw [if_pos hx]
      refine ⟨fun _ _ => trivial, ?_⟩
      rw [Oper.semAt_eq _ _ _ (noDefer_at hd ho)]
      have h3 := hc listed w hz hw
      revert h3
      generalize (execOp a.eval o).run P w = r
      intro h3
      rcases r with ⟨x, w'⟩ | ⟨x, w'⟩
      · cases x <;> first | (exact h3.elim) | skip
        · obtain ⟨h4, rfl⟩ := h3
          exact anyI_round hd hQ fuel _ _ _ (by simp [hz]) h4 hrest
        · obtain ⟨h4, rfl⟩ := h3
          exact anyI_round hd hQ fuel _ _ _ (by simp [hz]) h4 hrest
      · exact h3.elim⟩
/-- A region in a round that draws its order: what is known of the world goes by what has come up. -/
theorem round_indexed {id : Nat} {Q : Exit → Act → World → Prop} {a : Act} {w : World} {os : List Oper} (C : Array Bool → World → Prop) (hm : P.follows .mixedOrders = true) (hB : Region.lexB .any os.toArray = true) (hd : noDefer os.toArray = true) (hC : C (Array.replicate os.toArray.size false) w.drew)
    (h : walkI P os.toArray C (fun a' => ∀ listed w', (∀ j, j < os.toArray.size → listed.getD j false = true) → C listed w' → Q .normal a' w') 0 os a) : (Code.region id os.toArray true).wpIn (Fence.wide.inRound l) n P Q a w := by
  simp only [Region.lexB, Bool.and_eq_true] at hB
  refine wpIn_region_any hm (anyI_round (C := C) (Q := fun listed a' => (∀ j, j < os.toArray.size → listed.getD j false = true) ∧ ∀ listed w', (∀ j, j < os.toArray.size → listed.getD j false = true) → C listed w' → Q .normal a' w') hd (fun listed _ w' hw' h => h.2 listed w' h.1 hw') _ _ _ _ (by simp) hC ?_)
  have := anyI_lex hB.1 os 0 (Array.replicate os.toArray.size false) a (by simp) (by simp) (fun j hj => by omega) (by simpa using hB.2) h
  simpa using this
end
end Go.Proofs.Ytbbbjpkomnhofaa
