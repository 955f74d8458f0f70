import Derived.Test.YtbbbjpkomnhofaaGA
namespace Go.Proofs.Ytbbbjpkomnhofaa
open Go.RowKit Go.Shelf
section
variable {P : Program} {ops : Array Oper} {l n : Nat} {w : World}
theorem round_still {o : Oper} {a : Act} {K : Act → Prop} {K' : Act → World → Prop} {Q' : Exit → Act → World → Prop} (hd : ∀ c, o.op ≠ .defer c) (h : ∀ a, K a → K' a w) (h3 : o.still P a w K) :
    o.wpIn (Fence.wide.inRound l) n P a w K' Q' := by
  unfold Oper.still at h3
  refine ⟨fun _ _ => trivial, ?_⟩
  rw [Oper.semAt_eq _ _ _ hd]
  revert h3
  generalize (execOp a.eval o).run P w = r
  intro h3
  rcases r with ⟨x, w'⟩ | ⟨x, w'⟩
  · cases x <;> first | (exact h3.elim) | skip
    · obtain ⟨rfl, h2⟩ := h3
      exact h _ h2
    · obtain ⟨rfl, h2⟩ := h3
      exact h _ h2
    · obtain ⟨rfl, v, hc, h2⟩ := h3
      refine ⟨(fun e => by cases e), (CallsIn.inRound l (callsIn_wide.2 hc)).mono ?_⟩
      rintro e w2 ⟨rfl, rfl⟩
      exact h _ h2
  · exact h3.elim
theorem round_head (hd : noDefer ops = true) {m g : Nat} {L : Array Bool → Act → Prop} {Q' : Exit → Act → World → Prop} (hL : ∀ listed a, L listed a → wpAnyIn (Fence.wide.inRound l) n P .any ops Q' g listed a w) :
    ∀ (f : Nat) (listed : Array Bool) (a : Act), wpAnyL P .any ops w m L f listed a → wpAnyIn (Fence.wide.inRound l) n P .any ops Q' (f + g) listed a w
  | 0, listed, a, h => by rw [Nat.zero_add]; exact hL _ _ h
  | f + 1, listed, a, h => by
    rw [show f + 1 + g = (f + g) + 1 by omega]
    refine ⟨fun h0 => absurd h0 h.1, fun i hi => ?_⟩
    have h2 := (h.2 i hi).2
    unfold stOp at h2
    unfold wpOpIn
    cases ho : ops[i]? with
    | none => rw [ho] at h2; exact round_head hd hL f _ _ h2
    | some o =>
      rw [ho] at h2
      dsimp only at h2 ⊢
      split
      · rename_i hx
        rw [if_pos hx] at h2
        exact round_still (noDefer_at hd ho) (fun a' h' => round_head hd hL f _ a' h') h2
      · rename_i hx
        rw [if_neg hx] at h2
        exact ⟨fun _ _ => trivial, round_head hd hL f _ _ h2⟩
theorem round_seq {Q' : Exit → Act → World → Prop} : ∀ (os : List Oper) (k : Nat) (listed : Array Bool) (a : Act) (w : World), (∀ j, os[j]? = ops[k + j]?) →
    Region.seqB .any ops os.length k listed = true → wpListIn (Fence.wide.inRound l) n P ops Q' os a w → wpAnyIn (Fence.wide.inRound l) n P .any ops Q' os.length listed a w
  | [], _, _, _, _, _, hB, h => ⟨by simpa [Region.seqB] using hB, h⟩
  | o :: os, k, listed, a, w, hl, hB, h => by
    have h0 : ops[k]? = some o := by simpa using (hl 0).symm
    simp only [List.length_cons, Region.seqB, Bool.and_eq_true, decide_eq_true_eq] at hB
    refine ⟨fun h1 => (by rw [hB.1] at h1; cases h1), fun i hi => ?_⟩
    rw [hB.1] at hi
    obtain rfl : i = k := by simpa using hi
    have nx : ∀ a' w', wpListIn (Fence.wide.inRound l) n P ops Q' os a' w' → wpAnyIn (Fence.wide.inRound l) n P .any ops Q' os.length (listed.setIfInBounds i true) a' w' := fun a' w' h' =>
      round_seq os (i + 1) _ a' w' (fun j => by have := hl (j + 1); simpa [Nat.add_assoc, Nat.add_comm 1 j] using this) hB.2 h'
    unfold wpOpIn
    rw [h0]
    unfold wpListIn at h
    dsimp only
    split
    · rename_i hx
      rw [if_pos hx] at h
      exact Oper.wpIn_mono nx h
    · rename_i hx
      rw [if_neg hx] at h
      exact ⟨h.1, nx _ _ h.2⟩
/-- A region in a round that draws its order: it reads, then it stores one thing behind the other. -/
theorem round_tail {id : Nat} {Q : Exit → Act → World → Prop} {a : Act} {os : List Oper} (m : Nat) (hm : P.follows .mixedOrders = true) (hB : Region.lexTailB .any os.toArray m = true) (hd : noDefer os.toArray = true)
    (h : wpStill P os.toArray { w with drawn := w.drawn + 1 } (fun a' => wpListIn (Fence.wide.inRound l) n P os.toArray Q (os.drop m) a' { w with drawn := w.drawn + 1 }) (os.take m) a) : (Code.region id os.toArray true).wpIn (Fence.wide.inRound l) n P Q a w := by
  simp only [Region.lexTailB, Bool.and_eq_true, decide_eq_true_eq] at hB
  obtain ⟨⟨⟨⟨hsel, hn⟩, hs⟩, hc⟩, hlex⟩ := hB
  have hn' : m < os.length := by simpa using hn
  have htl : (os.take m).length = m := by simp; omega
  have hdl : (os.drop m).length = os.toArray.size - m := by simp
  have inv0 : HeadInv .any os.toArray m (Array.replicate os.toArray.size false) :=
    ⟨by simp, fun j oj _ hl => (by rw [getD_replicate_false] at hl; cases hl), fun t _ ht => getD_in (by simpa using ht) (getD_replicate_false _ _)⟩
  have H := wpAnyL_lex (md := .any) (g := os.toArray.size - m) hsel hs hc hn (os.take m) 0 _ a (fun j hj => by
    have hj' : j < m := by rw [htl] at hj; exact hj
    simp [hj']) (by simpa using htl) inv0 (by rw [htl]; exact hlex) h
  refine wpIn_region_any hm ?_
  have := round_head (l := l) (n := n) (Q' := Q) (g := os.toArray.size - m) hd (fun listed a' hL => by
    have := round_seq (l := l) (n := n) (Q' := Q) (P := P) (os.drop m) m listed a' { w with drawn := w.drawn + 1 } (fun j => by simp [List.getElem?_drop]) (by rw [hdl]; exact hL.1) hL.2
    rwa [hdl] at this) _ _ _ H
  rw [htl, show m + (os.toArray.size - m) = os.toArray.size by omega] at this
  exact this
end
end Go.Proofs.Ytbbbjpkomnhofaa
