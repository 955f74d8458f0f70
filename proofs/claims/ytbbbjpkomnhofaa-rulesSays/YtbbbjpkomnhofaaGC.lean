import Derived.Test.YtbbbjpkomnhofaaGA
namespace Go.Proofs.Ytbbbjpkomnhofaa
open Go.RowKit Go.Shelf
section
variable {P : Program} {ops : Array Oper} {C : World → Prop} {l n : Nat}
/-- An operation that leaves this value, and a world of the class, in whatever world of the class it comes up. -/
def calmUpon (C : World → Prop) (v : Value) : Result Next → Prop
  | .ok (.value u) w' => C w' ∧ u = v
  | .ok .skip w' => C w' ∧ v = undef
  | _ => False
def Calm (P : Program) (ops : Array Oper) (C : World → Prop) (o : Oper) (v : Value) (a : Act) : Prop :=
  (Region.wanted o (yielded ops a.tmps) = true ∧ ∀ w, C w → calmUpon C v ((execOp a.eval o).run P w)) ∨ (Region.wanted o (yielded ops a.tmps) = false ∧ v = undef)
/-- One behind the other, as they stand. -/
def wpCalm (P : Program) (ops : Array Oper) (C : World → Prop) (Q : Act → Prop) : List Oper → Act → Prop
  | [], a => Q a
  | o :: rest, a => ∃ v, Calm P ops C o v a ∧ wpCalm P ops C Q rest (a.put o.dst v)
/-- In whatever order. -/
def anyCalm (P : Program) (ops : Array Oper) (C : World → Prop) (Q : Act → Prop) : Nat → Array Bool → Act → Prop
  | 0, listed, a => Region.ready .any ops listed = [] ∧ Q a
  | fuel + 1, listed, a => (Region.ready .any ops listed = [] → Q a) ∧
    ∀ i ∈ Region.ready .any ops listed, ∃ o v, ops[i]? = some o ∧ Calm P ops C o v a ∧ anyCalm P ops C Q fuel (listed.setIfInBounds i true) (a.put o.dst v)
theorem Calm.same {o : Oper} {v : Value} {a a' : Act} (h : Calm P ops C o v a) (he : execOp a'.eval o = execOp a.eval o) (hw : Region.wanted o (yielded ops a'.tmps) = Region.wanted o (yielded ops a.tmps)) : Calm P ops C o v a' := by
  unfold Calm at *
  rw [he, hw]
  exact h
theorem calm_first {Q : Act → Prop} {i : Nat} {oi : Oper} {v : Value} (hi : ops[i]? = some oi) (hsel : ∀ (j : Nat) (o : Oper) cs b, ops[j]? = some o → o.op ≠ .select cs b) :
    ∀ (fuel : Nat) (listed : Array Bool) (a : Act),
      (∀ j oj, ops[j]? = some oj → j ≠ i → listed.getD j true = false → (∀ e ∈ oj.after, Region.binds .any e = true → e.on ≠ i) → oi.apart ops oj = true) →
      i ∈ Region.ready .any ops listed → Calm P ops C oi v a → anyCalm P ops C Q fuel (listed.setIfInBounds i true) (a.put oi.dst v) → anyCalm P ops C Q (fuel + 1) listed a := by
  intro fuel
  induction fuel with
  | zero =>
    intro listed a _ hr hy H
    refine ⟨fun h => (by rw [h] at hr; cases hr), fun j hj => ?_⟩
    by_cases e : j = i
    · subst e; exact ⟨oi, v, hi, hy, H⟩
    · have := ready_mono hj e
      rw [H.1] at this
      cases this
  | succ fuel ih =>
    intro listed a hfree hr hy H
    refine ⟨fun h => (by rw [h] at hr; cases hr), fun j hj => ?_⟩
    by_cases e : j = i
    · subst e; exact ⟨oi, v, hi, hy, H⟩
    · obtain ⟨oj, u, hoj, cj, hrest⟩ := H.2 j (ready_mono hj e)
      obtain ⟨hun, oj', hoj', hall⟩ := mem_ready.1 hj
      rw [hoj] at hoj'
      cases hoj'
      have hi0 := (mem_ready.1 hr).1
      have hnot : ∀ e ∈ oj.after, Region.binds .any e = true → e.on ≠ i := fun e he hb heq => by
        have h1 := hall e he hb
        rw [heq] at h1
        rcases Nat.lt_or_ge i listed.size with h' | h'
        · simp [h'] at hi0 h1
          rw [hi0] at h1
          cases h1
        · simp [Array.getElem?_eq_none h'] at h1
      obtain ⟨h1, h2, h3⟩ := Oper.apart_spec (hfree j oj hoj e hun hnot)
      have si := fun cs b => hsel i oi cs b hi
      have sj := fun cs b => hsel j oj cs b hoj
      refine ⟨oj, u, hoj, cj.same (execOp_put oj sj a oi.dst v h1).symm (wanted_put oj a oi.dst v h1).symm, ih _ _ ?_ (ready_mono hr (Ne.symm e)) (hy.same (execOp_put oi si a oj.dst u h3) (wanted_put oi a oj.dst u h3)) ?_⟩
      · intro k ok hk hki hu hno
        refine hfree k ok hk hki ?_ hno
        by_cases ejk : j = k
        · subst ejk; exact hun
        · rw [getD_set_ne true ejk] at hu; exact hu
      · rw [← Act.put_comm a v u h2, Array.setIfInBounds_comm _ _ e]
        exact hrest
theorem calm_lex {Q : Act → Prop} (hs : Region.noSelect ops = true) : ∀ (os : List Oper) (k : Nat) (listed : Array Bool) (a : Act), (∀ j, os[j]? = ops[k + j]?) →
    Region.lexFrom .any ops os.length k listed = true → wpCalm P ops C Q os a → anyCalm P ops C Q os.length listed a
  | [], _, _, _, _, hB, h => ⟨by simpa [Region.lexFrom] using hB, h⟩
  | o :: os, k, listed, a, hl, hB, h => by
    have h0 : ops[k]? = some o := by simpa using (hl 0).symm
    simp only [List.length_cons, Region.lexFrom, Bool.and_eq_true] at hB
    obtain ⟨⟨hr, hf⟩, hB'⟩ := hB
    obtain ⟨v, hy, hK⟩ := h
    exact calm_first h0 (Region.noSelect_spec hs) os.length listed a (Region.free_spec h0 hf) (by simpa using hr) hy
      (calm_lex hs os (k + 1) _ _ (fun j => by have := hl (j + 1); simpa [Nat.add_assoc, Nat.add_comm 1 j] using this) hB' hK)
theorem calm_any (hd : noDefer ops = true) {Q : Act → Prop} {Q' : Exit → Act → World → Prop} (hQ : ∀ a w, C w → Q a → Q' .normal a w) : ∀ (fuel : Nat) (listed : Array Bool) (a : Act) (w : World), C w →
    anyCalm P ops C Q fuel listed a → wpAnyIn (Fence.wide.inRound l) n P .any ops Q' fuel listed a w
  | 0, _, _, _, hw, h => ⟨h.1, hQ _ _ hw h.2⟩
  | fuel + 1, _, a, w, hw, h => ⟨fun h0 => hQ _ _ hw (h.1 h0), fun i hi => by
      obtain ⟨o, v, ho, hc, hrest⟩ := h.2 i hi
      unfold wpOpIn
      rw [ho]
      dsimp only
      rcases hc with ⟨hx, hc⟩ | ⟨hx, rfl⟩
      · rw [if_pos hx]
        refine ⟨fun _ _ => trivial, ?_⟩
        rw [Oper.semAt_eq _ _ _ (noDefer_at hd ho)]
        have h3 := hc w hw
        revert h3
        generalize (execOp a.eval o).run P w = r
        intro h3
        rcases r with ⟨x, w'⟩ | ⟨x, w'⟩
        · cases x <;> first | (exact h3.elim) | skip
          · obtain ⟨h4, rfl⟩ := h3
            exact calm_any hd hQ fuel _ _ _ h4 hrest
          · obtain ⟨h4, rfl⟩ := h3
            exact calm_any hd hQ fuel _ _ _ h4 hrest
        · exact h3.elim
      · rw [if_neg (by rw [hx]; exact Bool.false_ne_true)]
        exact ⟨fun _ _ => trivial, calm_any hd hQ fuel _ _ _ hw hrest⟩⟩
/-- A region in a round that draws its order, whose operations keep to a class of worlds. -/
theorem round_calm {id : Nat} {Q : Exit → Act → World → Prop} {a : Act} {w : World} {os : List Oper} (C : World → Prop) (hm : P.follows .mixedOrders = true) (hB : Region.lexB .any os.toArray = true) (hd : noDefer os.toArray = true) (hC : C w.drew)
    (h : wpCalm P os.toArray C (fun a' => ∀ w', C w' → Q .normal a' w') os a) : (Code.region id os.toArray true).wpIn (Fence.wide.inRound l) n P Q a w := by
  simp only [Region.lexB, Bool.and_eq_true] at hB
  refine wpIn_region_any hm (calm_any (C := C) (Q := fun a' => ∀ w', C w' → Q .normal a' w') hd (fun _ w' hw' h => h w' hw') _ _ _ _ hC ?_)
  have := calm_lex hB.1 os 0 (Array.replicate os.toArray.size false) a (by simp) (by simpa using hB.2) h
  simpa using this
end
end Go.Proofs.Ytbbbjpkomnhofaa
