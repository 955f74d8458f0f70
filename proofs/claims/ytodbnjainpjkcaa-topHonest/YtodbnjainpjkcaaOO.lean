import Derived.Test.YtodbnjainpjkcaaNN
import Derived.Deep.RegionLaw
namespace Go.Proofs.Ytodbnjainpjkcaa
open Go.RowKit
theorem prog_len {lL lR : List Ag} : ∀ f ws, (progF lL lR f ws).length ≤ (lR.length + 1) ^ f := by
  intro f
  induction f with
  | zero => intro ws; rw [progF]; split <;> simp
  | succ f ih =>
    intro ws
    rw [progF, List.length_append, Nat.pow_succ]
    have h1 := ih (ws ++ [-1])
    have h2 : ∀ n, ((List.range n).flatMap fun r => if (likeB lL lR ws.length r && decide ((ws.count (r : Int) : Int) < (agAt lR r).room)) = true then progF lL lR f (ws ++ [(r : Int)]) else []).length ≤ n * (lR.length + 1) ^ f := by
      intro n
      induction n with
      | zero => simp
      | succ n ihn =>
        rw [List.range_succ, List.flatMap_append, List.length_append, Nat.succ_mul]
        refine Nat.add_le_add ihn ?_
        rw [List.flatMap_cons, List.flatMap_nil, List.append_nil]
        split
        · exact ih _
        · exact Nat.zero_le _
    have := h2 lR.length
    rw [Nat.mul_comm ((lR.length + 1) ^ f), Nat.add_mul, Nat.one_mul]
    omega
theorem owns_form {w : World} {B s n : Nat} {e : TypeId} {v : Value} {xs : List Value} (h : w.ownsRow B e s v n xs) : ∃ a c, v = .slice a n c := by
  rcases h.2 with ⟨rfl, rfl⟩ | ⟨g, cap, cur, rfl, _⟩
  · exact ⟨none, 0, rfl⟩
  · exact ⟨_, cap, rfl⟩
/-- One more was found. -/
theorem St.found {w0 W W6 : World} {nL g Bw Bp Ba Bs B1 : Nat} {full : List Int} {v v6 : Value} {L : List Sl} {s : Sl} (h : St w0 nL g Bw Bp Ba Bs B1 W full v L) (h1 : g < B1) (h2 : Ba < B1) (h3 : Bw < B1) (h4 : Bs < B1) (h5 : Ba ≠ g) (h6 : Ba ≠ Bw) (h7 : Ba ≠ Bs) (h8 : w0.heap.size ≤ Ba)
    (ho : W6.ownsRow B1 22 1 v6 (L.length + 1) (slVals (L ++ [s]))) (hg : W.grownBy W6 v.ownBlock) (hs : Ints W s.la s.ln s.lc s.ints ∧ T4 B1 W s.la s.ln) :
    W6.cell? ⟨Ba, 0, none⟩ = some v ∧ W6.frozen? ⟨Ba, 0, none⟩ = false ∧ St w0 nL g Bw Bp Ba Bs B1 (W6.setCell ⟨Ba, 0, none⟩ v6) full v6 (L ++ [s]) := by
  have hno : ∀ q, q < B1 → some q ≠ v.ownBlock := fun q hq e => by have := (h.own.lt q e.symm).1; omega
  have hc : ∀ (q : Nat) (u : Value), q < B1 → W.cell? ⟨q, 0, none⟩ = some u → W6.cell? ⟨q, 0, none⟩ = some u := fun q u hq hu => (hg.cell_far ⟨q, 0, none⟩ (World.block_lt_of_cell? W _ hu) (hno q hq)).trans hu
  have ca := hc Ba v h2 h.ca
  have fa : W6.frozen? ⟨Ba, 0, none⟩ = false := (hg.frozen_far ⟨Ba, 0, none⟩ (World.block_lt_of_cell? W _ h.ca) (hno Ba h2)).trans h.fa
  have hb6 : Below w0.heap.size w0 W6 := h.below.grown hg h.below.size (fun q hq => by have := (h.own.lt q hq).1; omega)
  have hrow : Row w0.heap.size W6 (some ⟨g, 0, none⟩) nL (atL full) := by
    rcases h.row with hr | ⟨q, e, r2, r3, r4, r5⟩
    · exact .inl hr
    · cases e
      have hb : W6.heap[g]? = W.heap[g]? := hg.block g r3 (hno g h1)
      exact .inr ⟨g, rfl, r2, Nat.lt_of_lt_of_le r3 hg.size, fun j hj => (World.cell?_of_block (a := ⟨g, j, none⟩) hb).trans (r4 j hj), fun j hj => (World.frozen?_of_block (a := ⟨g, j, none⟩) hb).trans (r5 j hj)⟩
  refine ⟨ca, fa, hb6.setCell h8 _, ?_, ?_, hrow.far (grownBy_set W6 Ba 0 v6) (fun e => h5 e.symm), World.cell?_setCell_same' W6 ⟨Ba, 0, none⟩ v6 (by rw [ca]; rfl), by rw [World.frozen?_setCell]; exact fa, by rw [List.length_append]; exact ownsRow_setCell_below ho h2 _, Nat.le_trans (Nat.le_trans h.size hg.size) (by simp [World.setCell]), fun t ht => ?_⟩
  · rw [World.cell?_setCell_far _ _ _ _ h6]; exact hc Bw _ h3 h.cw
  · rw [World.cell?_setCell_far _ _ _ _ h7]; exact hc Bs _ h4 h.cs
  · have h0 : Ints W6 t.la t.ln t.lc t.ints ∧ T4 B1 W6 t.la t.ln := by
      rcases List.mem_append.1 ht with ht | ht
      · exact (h.lst t ht).2.grown (h.lst t ht).1 h.own hg
      · rw [List.mem_singleton] at ht
        subst ht
        exact hs.2.grown hs.1 h.own hg
    exact h0.2.set h0.1 h2
set_option maxRecDepth 100000 in
set_option maxHeartbeats 8000000 in
/-- A leaf: all have been asked about. -/
theorem settle_leaf (lL lR : List Ag) (w0 : World) (aL : Option Addr) (nL cL : Nat) (aR : Option Addr) (nR cR : Nat) (hL : Ags w0 aL nL cL lL) (hR : Ags w0 aR nR cR lR) (hfL : ∀ g ∈ lL, g.ln ≤ 500) (hfR : ∀ g ∈ lR, g.ln ≤ 500) (hsix : nL ≤ 6)
    (g Bw Bp Ba Bs B1 : Nat) (hp0 : w0.cell? ⟨Bp, 0, none⟩ = some (.slice aL nL cL)) (hp1 : w0.cell? ⟨Bp, 1, none⟩ = some (.slice aR nR cR)) (h1 : g < B1) (h2 : Ba < B1) (h3 : Bw < B1) (h4 : Bs < B1) (h5 : Ba ≠ g) (h6 : Ba ≠ Bw) (h7 : Ba ≠ Bs) (h8 : w0.heap.size ≤ Ba)
    (pre : List Int) (W : World) (v : Value) (L : List Sl) (hlen : pre.length = lL.length) (hS : St w0 nL g Bw Bp Ba Bs B1 W pre v L) (hbd : L.length + 1 ≤ 1000000) :
    Calls Try.prog 39 #[.int .i64 pre.length, .pointer (some ⟨Bw, 0, none⟩), .pointer (some ⟨Bp, 0, none⟩), .pointer (some ⟨Ba, 0, none⟩), .pointer (some ⟨Bs, 0, none⟩)] W fun e W' =>
      e = .returned (.tuple #[]) ∧ ∃ v' L', St w0 nL g Bw Bp Ba Bs B1 W' pre v' L' ∧ lists L' = lists L ++ progF lL lR 0 pre := by
  have hlL := hide hL.1
  have hnl : pre.length = nL := by have := unhide hlL; omega
  rw [hnl]
  have HNL := hide hnl
  have HLEN := hide hlen
  clear hnl hlen
  have c1 := hS.cw
  have ca := hS.ca
  have q0 := (hS.below.cell (p := ⟨Bp, 0, none⟩) (World.block_lt_of_cell? w0 _ hp0)).trans hp0
  have q1 := (hS.below.cell (p := ⟨Bp, 1, none⟩) (World.block_lt_of_cell? w0 _ hp1)).trans hp1
  have hI := hS.row.ints' (cap := nL) (unhide HNL).symm (Nat.le_refl _) (by unfold maxLen; omega)
  have HP : Hid (progF lL lR 0 pre = if calmB lL lR pre = true then [pre] else []) := rfl
  go_enter Try.func39, Try.ntmps39
  go_wp2_with fail
  refine (tempted_any aL nL cL lL aR nR cR lR (some ⟨g, 0, none⟩) nL nL pre W (hL.later hS.below) (hR.later hS.below) hI (unhide HLEN) hfL hfR).mono ?_
  rintro e w1 ⟨rfl, hb1⟩
  have hS1 := hS.later hb1
  clear c1 ca q0 q1
  cases ht : twoOf (badB lL lR pre) lL.length lR.length with
  | some l =>
    have HC : Hid (calmB lL lR pre = false) := by show _ = _; unfold calmB; rw [ht]; rfl
    rw [show optI (some l) = (l : Int) from rfl]
    clear ht
    have hne : ((l : Int) == -1) = false := by simp
    generalize twoR (badB lL lR pre) lL.length lR.length = R at *
    go_wp2
    (try simp only [Exit.inBlock, Exit.then])
    refine bodyPost_ret (results_none rfl _ _ _) rfl ?_
    exact ⟨rfl, v, L, hS1, by rw [unhide HP, unhide HC]; simp⟩
  | none =>
    have HC : Hid (calmB lL lR pre = true) := by show _ = _; unfold calmB; rw [ht]; rfl
    rw [show optI none = (-1 : Int) from rfl]
    clear ht
    generalize twoR (badB lL lR pre) lL.length lR.length = R at *
    have ca := hS1.ca
    have fa := hS1.fa
    have cw := hS1.cw
    have hI1 := hI.later hb1
    have hI1d : Ints w1.drew (some ⟨g, 0, none⟩) nL nL pre := hI1.later (Below.refl _ _).drew
    have hSd := hS1.later (W' := w1.drew) (Below.refl _ _).drew
    have HSD := hide hSd
    clear hSd
    go_wp2_with fail
    go_region_law (first
      | (refine step_clone _ rfl (.tmp 23) rfl (some ⟨g, 0, none⟩) nL nL pre (by simp [Act.eval]) hI1d (by omega) ?_; intro v3 w3 ho3 hb3; have hS3 := (unhide HSD).later hb3; have ca3 := hS3.ca; have hBa3 := World.block_lt_of_cell? w3 _ ca3; obtain ⟨a3, c3, hv3, hI3, _⟩ := Ints.of_owns ho3 (by omega); subst hv3; have hT3 := T4.of_owns (B1 := B1) ho3 (unhide HSD).size; have hS4 := fun o => hS3.later (show Below w3.heap.size w3 (w3.alloc o) by go_grown); have hI4 := fun o => hI3.later (show Below w3.heap.size w3 (w3.alloc o) by go_grown); have hT4 := fun o => hT3.later (show Below w3.heap.size w3 (w3.alloc o) by go_grown); have ca4 := fun o => (hS4 o).ca; have HS4 := hide hS4; have HI4 := hide hI4; have HT4 := hide hT4; clear hS4 hI4 hT4 hS3)
      | (refine step_append_lsts _ rfl (.tmp 22) (.tmp 25) rfl B1 v L.length L (by simp [Act.eval]) (unhide HS4 _).own (some ⟨w3.heap.size, 0, none⟩) 1 1 [⟨a3, nL, c3, pre⟩] (by simp [Act.eval]) (lsts_one (by simp) (unhide HI4 _)) hbd (unhide HS4 _).size ?_; intro v6 w6 ho6 hg6; obtain ⟨a6, c6, hv6⟩ := owns_form ho6; subst hv6; obtain ⟨ca6, fa6, hSF⟩ := (unhide HS4 _).found h1 h2 h3 h4 h5 h6 h7 h8 ho6 hg6 ⟨unhide HI4 _, unhide HT4 _⟩; have HSF := hide hSF; clear hSF))
    all_goals
      go_wp2
      (try simp only [Exit.inBlock, Exit.then])
      refine bodyPost_ret (results_none rfl _ _ _) rfl ?_
      exact ⟨rfl, _, L ++ [⟨a3, nL, c3, pre⟩], unhide HSF, by rw [unhide HP, unhide HC]; simp [lists]⟩
end Go.Proofs.Ytodbnjainpjkcaa
