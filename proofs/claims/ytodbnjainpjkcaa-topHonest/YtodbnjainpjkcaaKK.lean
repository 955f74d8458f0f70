import Derived.Test.YtodbnjainpjkcaaJJ
import Derived.Test.YtodbnjainpjkcaaU
namespace Go.Proofs.Ytodbnjainpjkcaa
open Go.RowKit
def T3 (w : World) (a : Option Addr) (n : Nat) : Prop := n = 0 ∨ ∃ b off arr fz, a = some ⟨b, off, none⟩ ∧ w.heap[b]? = some (.cells arr 3 fz)
theorem T3.later {w w' : World} {a : Option Addr} {n : Nat} (h : T3 w a n) (hb : Below w.heap.size w w') : T3 w' a n := by
  rcases h with h | ⟨b, off, arr, fz, h1, h2⟩
  · exact Or.inl h
  · exact Or.inr ⟨b, off, arr, fz, h1, by rw [hb.block b (Array.getElem?_eq_some_iff.1 h2).1]; exact h2⟩
theorem T3.apart {w : World} {base n : Nat} {v : Value} {xs : List Value} (ho : w.ownsRow base 22 1 v n xs) {b : Nat} {arr : Array Value} {fz : Nat × Nat} (hb : w.heap[b]? = some (.cells arr 3 fz)) : some b ≠ v.ownBlock := by
  rcases ho.2 with ⟨rfl, _⟩ | ⟨g, cap, cur, rfl, _, hg, _⟩
  · intro h; cases h
  · intro h
    cases h
    rw [hg] at hb
    cases hb
theorem T3.grown {w w' : World} {base k : Nat} {v : Value} {xs : List Value} {a : Option Addr} {n c : Nat} {l : List Int} (h : T3 w a n) (hI : Ints w a n c l) (ho : w.ownsRow base 22 1 v k xs) (hg : w.grownBy w' v.ownBlock) : T3 w' a n ∧ Ints w' a n c l := by
  rcases h with h | ⟨b, off, arr, fz, h1, h2⟩
  · exact ⟨Or.inl h, hI.1, hI.2.1, hI.2.2.1, Or.inl h⟩
  · have hlt := (Array.getElem?_eq_some_iff.1 h2).1
    have hb := hg.block b hlt (T3.apart ho h2)
    refine ⟨Or.inr ⟨b, off, arr, fz, h1, by rw [hb]; exact h2⟩, hI.1, hI.2.1, hI.2.2.1, ?_⟩
    rcases hI.2.2.2 with h0 | ⟨b', off', e, hlt', hc⟩
    · exact Or.inl h0
    · rw [h1] at e
      cases e
      exact Or.inr ⟨b, off, h1, Nat.lt_of_lt_of_le hlt hg.size, fun j hj => (World.cell?_of_block (a := ⟨b, off + j, none⟩) hb).trans (hc j hj)⟩
theorem T3.of_owns {w : World} {B n m : Nat} {a : Option Addr} {c : Nat} {xs : List Value} (h : w.ownsRow B 3 1 (.slice a n c) m xs) : T3 w a n := by
  rcases h.2 with ⟨e, _⟩ | ⟨g, cap, cur, e, _, hg, _⟩
  · cases e; exact Or.inl rfl
  · cases e; exact Or.inr ⟨g, 0, cur, (0, 0), rfl, hg⟩
theorem own_empty (W : World) (base : Nat) (h : base ≤ W.heap.size) : (W.alloc (.cells #[] 3)).ownsRow base 3 1 (.slice (some ⟨W.heap.size, 0, none⟩) 0 0) 0 (intVals []) :=
  World.ownsRow_made (base := base) (e := 3) (size := 1) W #[] 0 h (by unfold maxLen; omega) rfl
theorem own_empty2 (W : World) (o : Obj) (base : Nat) (h : base ≤ W.heap.size) : ((W.alloc o).alloc (.cells #[] 3)).ownsRow base 3 1 (.slice (some ⟨W.heap.size + 1, 0, none⟩) 0 0) 0 (intVals []) := by
  have h2 := own_empty (W.alloc o) base (by rw [World.size_alloc]; omega)
  rw [World.size_alloc] at h2
  exact h2
def Gives (lL lR : List Ag) (f : Nat) (ws : List Int) (w : World) (e : Ending) (w' : World) : Prop :=
  ∃ v n L, e = .returned v ∧ w'.ownsRow w.heap.size 22 1 v n (slVals L) ∧ (∀ s ∈ L, Ints w' s.la s.ln s.lc s.ints ∧ T3 w' s.la s.ln) ∧ lists L = docF lL lR f ws ∧ Below w.heap.size w w'
set_option maxRecDepth 100000 in
set_option maxHeartbeats 8000000 in
theorem stableFrom_any (lL lR : List Ag) (hsixL : lL.length ≤ 6) (hsixR : lR.length ≤ 6) : ∀ (f : Nat) (aL : Option Addr) (nL cL : Nat) (aR : Option Addr) (nR cR : Nat) (aw : Option Addr) (nw cw : Nat) (ws : List Int) (w : World), Ags w aL nL cL lL → Ags w aR nR cR lR → Ints w aw nw cw ws → T3 w aw nw → ws.length + f = lL.length →
    Calls Try.prog 47 #[.agg #[.slice aL nL cL, .slice aR nR cR], .slice aw nw cw] w fun e w' => Gives lL lR f ws w e w' := by
  intro f
  induction f with
  | zero =>
    intro aL nL cL aR nR cR aw nw cw ws w hL hR hw ht3 hlen
    have hnw := hide hw.1
    have hlL := hide hL.1
    have hcw := hw.2.1
    have hmw := hw.2.2.1
    unfold maxLen at hmw
    have hnn : nw = nL := by have := unhide hnw; have := unhide hlL; omega
    have hs : nw ≤ 1000 := by have := unhide hnw; omega
    subst hnn
    clear hlen
    obtain ⟨wA, hwA⟩ : ∃ y, y = w.alloc (.cells #[.slice aL nw cL, .slice aR nR cR] 26) := ⟨_, rfl⟩
    have hbA : Below w.heap.size w wA := by rw [hwA]; go_grown
    have HW := hide hwA
    clear hwA
    go_enter Try.func47, Try.ntmps47
    go_wp2_with fail
    rw [← unhide HW]
    refine (stableD_any aL nw cL lL aR nR cR lR aw nw cw ws wA (hL.later hbA) (hR.later hbA) (hw.later hbA) hs).mono ?_
    rintro e w1 ⟨rfl, hb1⟩
    have hbw1 := hbA.trans (hb1.mono hbA.size)
    obtain ⟨sb, sx, sy, sz, hst⟩ := stab_form lL lR ws (wouldB lL lR ws)
    rw [hst]
    have HTV := hide (stabV_true (lL := lL) (lR := lR) (ws := ws))
    rw [hst] at HTV
    clear hst
    have hd0 : docF lL lR 0 ws = if stabB lL lR ws = true then [ws] else [] := rfl
    have HD0 := hide hd0
    clear hd0
    unfold four
    cases sb with
    | false =>
      have HN : Hid (stabB lL lR ws = false) := by
        show _ = _
        cases hq : stabB lL lR ws with
        | false => rfl
        | true => obtain ⟨x, y, h⟩ := (unhide HTV).2 hq; simp [four] at h
      clear HTV
      go_wp2
      go_ret
      exact ⟨_, 0, [], rfl, World.ownsRow_nil _ _ _ _, fun s hs => (by cases hs), by rw [unhide HD0, unhide HN]; rfl, hbw1⟩
    | true =>
      by_cases hz : sz = 0
      · subst hz
        have HY : Hid (stabB lL lR ws = true) := (unhide HTV).1 ⟨sx, sy, rfl⟩
        clear HTV
        have hmade : (w1.alloc (.cells #[.slice aw nw cw] 22)).ownsRow w.heap.size 22 1 (.slice (some ⟨w1.heap.size, 0, none⟩) 1 1) 1 (slVals [⟨aw, nw, cw, ws⟩]) := ⟨rfl, Or.inr ⟨w1.heap.size, 1, #[.slice aw nw cw], rfl, hbw1.size, by show (w1.heap.push _)[w1.heap.size]? = _; simp, Nat.le_refl _, by unfold maxLen; omega, rfl, rfl⟩⟩
        have HMD := hide hmade
        clear hmade
        go_wp2
        go_ret
        have hbx : Below w1.heap.size w1 (w1.alloc (.cells #[.slice aw nw cw] 22)) := by go_grown
        refine ⟨_, 1, [⟨aw, nw, cw, ws⟩], rfl, unhide HMD, fun s hs => ?_, by rw [unhide HD0, unhide HY]; rfl, hbw1.trans (hbx.mono hbw1.size)⟩
        rw [List.mem_singleton] at hs
        subst hs
        exact ⟨hw.later (hbw1.trans (hbx.mono hbw1.size)), ht3.later (hbw1.trans (hbx.mono hbw1.size))⟩
      · have hzb : (sz == 0) = false := by simpa using hz
        have HN : Hid (stabB lL lR ws = false) := by
          show _ = _
          cases hq : stabB lL lR ws with
          | false => rfl
          | true => obtain ⟨x, y, h⟩ := (unhide HTV).2 hq; simp [four] at h; exact absurd h.2.2 hz
        clear HTV hz
        go_wp2
        go_ret
        exact ⟨_, 0, [], rfl, World.ownsRow_nil _ _ _ _, fun s hs => (by cases hs), by rw [unhide HD0, unhide HN]; rfl, hbw1⟩
  | succ f ih =>
    intro aL nL cL aR nR cR aw nw cw ws w hL hR hw ht3 hlen
    have hnw := hide hw.1
    have hlL := hide hL.1
    have hlR := hide hR.1
    have hcw := hw.2.1
    have hmw := hw.2.2.1
    unfold maxLen at hmw
    have hnR := hR.2.1
    have hcR := hR.2.2.1
    unfold maxLen at hcR
    have hs : nw ≤ 6 := by have := unhide hnw; omega
    have hltn : nw < nL := by have := unhide hnw; have := unhide hlL; omega
    have hne : ((nw : Int) == (nL : Int)) = false := by simp; omega
    have hR6 : nR ≤ 6 := by have := unhide hlR; omega
    have HLEN := hide hlen
    clear hlen
    obtain ⟨wA, hwA⟩ : ∃ y, y = w.alloc (.cells #[.slice aL nL cL, .slice aR nR cR] 26) := ⟨_, rfl⟩
    have hbA : Below w.heap.size w wA := by rw [hwA]; go_grown
    have p0a : wA.cell? ⟨w.heap.size, 0, none⟩ = some (.slice aL nL cL) := by rw [hwA]; simp
    have p1a : wA.cell? ⟨w.heap.size, 1, none⟩ = some (.slice aR nR cR) := by rw [hwA]; simp
    have HW := hide hwA
    clear hwA
    have hbound : ∀ k, k ≤ nR + 1 → (docPart lL lR f ws k).length ≤ k * 7 ^ 6 := by
      have hone : ∀ y, (docF lL lR f y).length ≤ 7 ^ 6 := fun y => Nat.le_trans (doc_len f y) (Nat.le_trans (Nat.pow_le_pow_left (show lR.length + 1 ≤ 7 by omega) f) (Nat.pow_le_pow_right (by omega) (show f ≤ 6 by have := unhide HLEN; omega)))
      intro k
      induction k with
      | zero => intro _; simp [docPart]
      | succ k ihk =>
        intro hk
        cases k with
        | zero => have := hone (ws ++ [-1]); simpa [docPart] using this
        | succ k =>
          have h1 := ihk (by omega)
          rw [docPart, List.length_append]
          have h2 : (if likeB lL lR ws.length k = true then docF lL lR f (ws ++ [(k : Int)]) else []).length ≤ 7 ^ 6 := by
            split
            · exact hone _
            · exact Nat.zero_le _
          omega
    have HBD := hide hbound
    clear hbound
    go_enter Try.func47, Try.ntmps47
    go_wp2_with fail
    rw [← unhide HW]
    go_loopw [10, 9] (fun i v wr => Below wA.heap.size wA wr ∧ ∃ (k : Nat) (L : List Sl), k ≤ nR + 1 ∧ i = .int .i64 ((k : Int) - 1) ∧ wr.ownsRow wA.heap.size 22 1 v L.length (slVals L) ∧ (∀ s ∈ L, Ints wr s.la s.ln s.lc s.ints ∧ T3 wr s.la s.ln) ∧ lists L = docPart lL lR f ws k) (fun i _ _ => nR + 1 - (intOf i + 1).toNat)
    case atStart => exact ⟨Below.refl _ _, 0, [], Nat.zero_le _, rfl, World.ownsRow_nil _ _ _ _, fun s hs => (by cases hs), rfl⟩
    case round =>
      obtain ⟨hbr, k, L, hk, rfl, hown, hints, hlist⟩ := hrel
      have hbwr : Below w.heap.size w wr := hbA.trans (hbr.mono hbA.size)
      have HINT := hide hints
      have HLST := hide hlist
      clear hints hlist
      have p0r := (hbr.cell (p := ⟨w.heap.size, 0, none⟩) (World.block_lt_of_cell? wA _ p0a)).trans p0a
      have p1r := (hbr.cell (p := ⟨w.heap.size, 1, none⟩) (World.block_lt_of_cell? wA _ p1a)).trans p1a
      by_cases hlt : k < nR + 1
      · cases k with
        | zero =>
          have hd : decide (((0 : Nat) : Int) - 1 < (nR : Int)) = true := by simp; omega
          have hg0 : decide (0 ≤ ((0 : Nat) : Int) - 1) = false := by simp
          have hL0 : L = [] := by have h := congrArg List.length (unhide HLST); simpa [lists, docPart] using h
          have HP : Hid (docPart lL lR f ws 1 = docPart lL lR f ws 0 ++ docF lL lR f (ws ++ [-1])) := rfl
          have hbwW : Below w.heap.size w wr := hbA.trans (hbr.mono hbA.size)
          have HCL : Hid (∀ W, Below wr.heap.size wr W → (Below wr.heap.size wr W ∧ W.cell? ⟨w.heap.size, 0, none⟩ = some (.slice aL nL cL) ∧ W.cell? ⟨w.heap.size, 1, none⟩ = some (.slice aR nR cR))) := fun W hb => ⟨hb, (hb.cell (p := ⟨w.heap.size, 0, none⟩) (World.block_lt_of_cell? wr _ p0r)).trans p0r, (hb.cell (p := ⟨w.heap.size, 1, none⟩) (World.block_lt_of_cell? wr _ p1r)).trans p1r⟩
          have BW : Hid (∀ W, (Below wr.heap.size wr W ∧ W.cell? ⟨w.heap.size, 0, none⟩ = some (.slice aL nL cL) ∧ W.cell? ⟨w.heap.size, 1, none⟩ = some (.slice aR nR cR)) → Below w.heap.size w W) := fun W h => hbwW.trans (h.1.mono hbwW.size)
          have IHc := hide (fun (a : Option Addr) (c : Nat) (W : World) (hW : Below w.heap.size w W) (hI : Ints W a (nw + 1) c (ws ++ [-1])) (hT : T3 W a (nw + 1)) => ih aL nL cL aR nR cR a (nw + 1) c (ws ++ [-1]) W (hL.later hW) (hR.later hW) hI hT (by have := unhide HLEN; simp; omega))
          have HOWN := hide hown
          have HBAW := hide hbr
          go_wp2_with fail
          go_region_held3 (fun W => (Below wr.heap.size wr W ∧ W.cell? ⟨w.heap.size, 0, none⟩ = some (.slice aL nL cL) ∧ W.cell? ⟨w.heap.size, 1, none⟩ = some (.slice aR nR cR)))
            (first | exact unhide HCL _ (Below.refl _ _).drew | exact unhide HCL _ (Below.refl _ _) | assumption | exact unhide HCL _ (by assumption) | exact unhide HCL _ (Below.alloc (by first | assumption | exact (‹Below wr.heap.size wr _ ∧ _›.1)) (‹Below wr.heap.size wr _ ∧ _›.1).size _))
            (first
              | (refine step_append_ints _ rfl (.tmp 50) (.tmp 51) rfl wr.heap.size _ 0 [] (by simp [Act.eval]; rfl) (by first | exact own_empty _ _ (by simp) | exact (own_empty _ _ (by simp)).alloc _ | exact own_empty2 _ _ _ (by simp)) aw nw cw ws (by simp [Act.eval]) (hw.later (unhide BW _ (by assumption))) (by omega) (‹Below wr.heap.size wr _ ∧ _›.1).size ?_; intro v2 w2 ho2 hg2; have hbn := (‹Below wr.heap.size wr _ ∧ _›.1).grown hg2 (‹Below wr.heap.size wr _ ∧ _›.1).size (fun q hq => by cases hq; simp))
              | (refine step_append_ints _ rfl (.tmp 52) (.tmp 54) rfl wr.heap.size _ (0 + nw) ([] ++ ws) (by simp [Act.eval]; rfl) (by first | exact ho2 | exact ho2.alloc _) _ 1 1 [-1] (by simp [Act.eval]; rfl) (ints_one (by first | (simp; done) | (rw [hg2.cell_far _ (by simp <;> omega) (by simp [Value.ownBlock])]; simp))) (by omega) (‹Below wr.heap.size wr _ ∧ _›.1).size ?_; intro v3 w3 ho3 hg3; have hbn := (‹Below wr.heap.size wr _ ∧ _›.1).grown hg3 (‹Below wr.heap.size wr _ ∧ _›.1).size (fun q hq => (ho2.lt q hq).1); simp only [Nat.zero_add, List.nil_append] at ho3; obtain ⟨a3, c3, hv3, hI3, _⟩ := Ints.of_owns ho3 (by omega); subst hv3; have hT3 := T3.of_owns ho3)
              | (go_at_call 47; refine (unhide IHc a3 c3 _ (unhide BW _ (by assumption)) hI3 hT3).mono ?_; rintro e wn ⟨v4, n4, L4, rfl, ho4, hi4, hl4, hb4⟩; have hbn := (‹Below wr.heap.size wr _ ∧ _›.1).trans (hb4.mono (‹Below wr.heap.size wr _ ∧ _›.1).size); obtain ⟨a5, c5, hv5, hL5⟩ := Lsts.of_owns ho4 (fun s hs => (hi4 s hs).1); subst hv5))
          all_goals
            have hbW := (‹Below wr.heap.size wr _ ∧ _›.1)
            have hbAn := (unhide HBAW).trans (hbW.mono (unhide HBAW).size)
            have hbWn := hbwW.trans (hbW.mono hbwW.size)
            have hnl : n4 = L4.length := hL5.1
            have HL4 := hide hl4
            have hownN := hide (owns_later (unhide HOWN) hbW)
            have HB3 : Hid (L.length + n4 ≤ 1000000) := by
              show _ ≤ _
              have h1 := unhide HBD 1 (by omega)
              have h2 : (docPart lL lR f ws 1).length = L.length + L4.length := by rw [unhide HP, List.length_append, ← unhide HLST, ← unhide HL4]; simp [lists]
              have h3 : 1 * 7 ^ 6 ≤ 1000000 := Nat.le_trans (Nat.mul_le_mul_right _ (show 1 ≤ 7 by omega)) (by decide)
              omega
            have HINn := hide (fun s (hs : s ∈ L) => And.intro ((unhide HINT s hs).1.later hbW) ((unhide HINT s hs).2.later hbW))
            have HI4 := hide hi4
            clear hl4 hi4 ho4
            go_wp2_with (at_builtin; refine wpList_append_lsts _ rfl _ _ rfl wA.heap.size _ L.length L rfl (unhide hownN) a5 n4 c5 L4 rfl hL5 (unhide HB3) hbAn.size ?_; intro v6 w6 ho6 hg6)
            go_roundw
            case rel =>
              have hb6 := (Below.refl wA.heap.size _).grown hg6 hbAn.size (fun q hq => ((unhide hownN).lt q hq).1)
              refine ⟨hbAn.trans hb6, 1, L ++ L4, by omega, by simp, by rw [List.length_append, ← hnl]; exact ho6, fun s hs => ?_, ?_⟩
              · rcases List.mem_append.1 hs with h | h
                · have := (unhide HINn s h).2.grown (unhide HINn s h).1 (unhide hownN) hg6; exact ⟨this.2, this.1⟩
                · have := (unhide HI4 s h).2.grown (unhide HI4 s h).1 (unhide hownN) hg6; exact ⟨this.2, this.1⟩
              · unfold lists at HLST HL4 ⊢
                rw [List.map_append, unhide HLST, unhide HL4]
                exact (unhide HP).symm
            case measure => simp [intOf]
        | succ k =>
          rw [show (((k + 1 : Nat) : Int) - 1) = (k : Int) by omega]
          have hkR : k < nR := by omega
          have hd : decide ((k : Int) < (nR : Int)) = true := by simp; omega
          have hg0 : decide (0 ≤ (k : Int)) = true := by simp
          go_wp2_with fail
          refine (likes_any aL nL cL lL aR nR cR lR nw k wr (hL.later hbwr) (hR.later hbwr) hltn hkR).mono ?_
          rintro e wx ⟨rfl, hb1⟩
          have hbr1 := hbr.trans (hb1.mono hbr.size)
          have p0x := (hb1.cell (p := ⟨w.heap.size, 0, none⟩) (World.block_lt_of_cell? wr _ p0r)).trans p0r
          have p1x := (hb1.cell (p := ⟨w.heap.size, 1, none⟩) (World.block_lt_of_cell? wr _ p1r)).trans p1r
          have hown1 := owns_later hown hb1
          have HINT1 := hide (fun s (hs : s ∈ L) => And.intro ((unhide HINT s hs).1.later hb1) ((unhide HINT s hs).2.later hb1))
          clear p0r p1r hown
          cases hq : likeB lL lR nw k with
          | false =>
            have HP : Hid (docPart lL lR f ws (k + 2) = docPart lL lR f ws (k + 1)) := by show _ = _; rw [docPart, ← unhide hnw, hq, if_neg (by decide), List.append_nil]
            have HOWN := hide hown1
            clear hown1
            go_wp2
            go_roundw
            case rel => exact ⟨hbr1, k + 2, L, by omega, by first | (simp; done) | go_num | (congr 1; omega), unhide HOWN, unhide HINT1, by rw [unhide HP]; exact unhide HLST⟩
            case measure => first | (simp [intOf]; done) | (simp [intOf]; omega)
          | true =>
            have HP : Hid (docPart lL lR f ws (k + 2) = docPart lL lR f ws (k + 1) ++ docF lL lR f (ws ++ [(k : Int)])) := by show _ = _; rw [docPart, ← unhide hnw, hq, if_pos rfl]
            have hbwW : Below w.heap.size w wx := hbA.trans (hbr1.mono hbA.size)
            have HCL : Hid (∀ W, Below wx.heap.size wx W → (Below wx.heap.size wx W ∧ W.cell? ⟨w.heap.size, 0, none⟩ = some (.slice aL nL cL) ∧ W.cell? ⟨w.heap.size, 1, none⟩ = some (.slice aR nR cR))) := fun W hb => ⟨hb, (hb.cell (p := ⟨w.heap.size, 0, none⟩) (World.block_lt_of_cell? wx _ p0x)).trans p0x, (hb.cell (p := ⟨w.heap.size, 1, none⟩) (World.block_lt_of_cell? wx _ p1x)).trans p1x⟩
            have BW : Hid (∀ W, (Below wx.heap.size wx W ∧ W.cell? ⟨w.heap.size, 0, none⟩ = some (.slice aL nL cL) ∧ W.cell? ⟨w.heap.size, 1, none⟩ = some (.slice aR nR cR)) → Below w.heap.size w W) := fun W h => hbwW.trans (h.1.mono hbwW.size)
            have IHc := hide (fun (a : Option Addr) (c : Nat) (W : World) (hW : Below w.heap.size w W) (hI : Ints W a (nw + 1) c (ws ++ [(k : Int)])) (hT : T3 W a (nw + 1)) => ih aL nL cL aR nR cR a (nw + 1) c (ws ++ [(k : Int)]) W (hL.later hW) (hR.later hW) hI hT (by have := unhide HLEN; simp; omega))
            have HOWN := hide hown1
            have HBAW := hide hbr1
            go_wp2_with fail
            go_region_held3 (fun W => (Below wx.heap.size wx W ∧ W.cell? ⟨w.heap.size, 0, none⟩ = some (.slice aL nL cL) ∧ W.cell? ⟨w.heap.size, 1, none⟩ = some (.slice aR nR cR)))
              (first | exact unhide HCL _ (Below.refl _ _).drew | exact unhide HCL _ (Below.refl _ _) | assumption | exact unhide HCL _ (by assumption) | exact unhide HCL _ (Below.alloc (by first | assumption | exact (‹Below wx.heap.size wx _ ∧ _›.1)) (‹Below wx.heap.size wx _ ∧ _›.1).size _))
              (first
                | (refine step_append_ints _ rfl (.tmp 50) (.tmp 51) rfl wx.heap.size _ 0 [] (by simp [Act.eval]; rfl) (by first | exact own_empty _ _ (by simp) | exact (own_empty _ _ (by simp)).alloc _ | exact own_empty2 _ _ _ (by simp)) aw nw cw ws (by simp [Act.eval]) (hw.later (unhide BW _ (by assumption))) (by omega) (‹Below wx.heap.size wx _ ∧ _›.1).size ?_; intro v2 w2 ho2 hg2; have hbn := (‹Below wx.heap.size wx _ ∧ _›.1).grown hg2 (‹Below wx.heap.size wx _ ∧ _›.1).size (fun q hq => by cases hq; simp))
                | (refine step_append_ints _ rfl (.tmp 52) (.tmp 54) rfl wx.heap.size _ (0 + nw) ([] ++ ws) (by simp [Act.eval]; rfl) (by first | exact ho2 | exact ho2.alloc _) _ 1 1 [(k : Int)] (by simp [Act.eval]; rfl) (ints_one (by first | (simp; done) | (rw [hg2.cell_far _ (by simp <;> omega) (by simp [Value.ownBlock])]; simp))) (by omega) (‹Below wx.heap.size wx _ ∧ _›.1).size ?_; intro v3 w3 ho3 hg3; have hbn := (‹Below wx.heap.size wx _ ∧ _›.1).grown hg3 (‹Below wx.heap.size wx _ ∧ _›.1).size (fun q hq => (ho2.lt q hq).1); simp only [Nat.zero_add, List.nil_append] at ho3; obtain ⟨a3, c3, hv3, hI3, _⟩ := Ints.of_owns ho3 (by omega); subst hv3; have hT3 := T3.of_owns ho3)
                | (go_at_call 47; refine (unhide IHc a3 c3 _ (unhide BW _ (by assumption)) hI3 hT3).mono ?_; rintro e wn ⟨v4, n4, L4, rfl, ho4, hi4, hl4, hb4⟩; have hbn := (‹Below wx.heap.size wx _ ∧ _›.1).trans (hb4.mono (‹Below wx.heap.size wx _ ∧ _›.1).size); obtain ⟨a5, c5, hv5, hL5⟩ := Lsts.of_owns ho4 (fun s hs => (hi4 s hs).1); subst hv5))
            all_goals
              have hbW := (‹Below wx.heap.size wx _ ∧ _›.1)
              have hbAn := (unhide HBAW).trans (hbW.mono (unhide HBAW).size)
              have hbWn := hbwW.trans (hbW.mono hbwW.size)
              have hnl : n4 = L4.length := hL5.1
              have HL4 := hide hl4
              have hownN := hide (owns_later (unhide HOWN) hbW)
              have HB3 : Hid (L.length + n4 ≤ 1000000) := by
                show _ ≤ _
                have h1 := unhide HBD (k + 2) (by omega)
                have h2 : (docPart lL lR f ws (k + 2)).length = L.length + L4.length := by rw [unhide HP, List.length_append, ← unhide HLST, ← unhide HL4]; simp [lists]
                have h3 : (k + 2) * 7 ^ 6 ≤ 1000000 := Nat.le_trans (Nat.mul_le_mul_right _ (show k + 2 ≤ 7 by omega)) (by decide)
                omega
              have HINn := hide (fun s (hs : s ∈ L) => And.intro ((unhide HINT1 s hs).1.later hbW) ((unhide HINT1 s hs).2.later hbW))
              have HI4 := hide hi4
              clear hl4 hi4 ho4
              go_wp2_with (at_builtin; refine wpList_append_lsts _ rfl _ _ rfl wA.heap.size _ L.length L rfl (unhide hownN) a5 n4 c5 L4 rfl hL5 (unhide HB3) hbAn.size ?_; intro v6 w6 ho6 hg6)
              go_roundw
              case rel =>
                have hb6 := (Below.refl wA.heap.size _).grown hg6 hbAn.size (fun q hq => ((unhide hownN).lt q hq).1)
                refine ⟨hbAn.trans hb6, k + 2, L ++ L4, by omega, by first | (simp; done) | go_num | (congr 1; omega), by rw [List.length_append, ← hnl]; exact ho6, fun s hs => ?_, ?_⟩
                · rcases List.mem_append.1 hs with h | h
                  · have := (unhide HINn s h).2.grown (unhide HINn s h).1 (unhide hownN) hg6; exact ⟨this.2, this.1⟩
                  · have := (unhide HI4 s h).2.grown (unhide HI4 s h).1 (unhide hownN) hg6; exact ⟨this.2, this.1⟩
                · unfold lists at HLST HL4 ⊢
                  rw [List.map_append, unhide HLST, unhide HL4]
                  exact (unhide HP).symm
              case measure => first | (simp [intOf]; done) | (simp [intOf]; omega)
      · have hkn : k = nR + 1 := by omega
        subst hkn
        have hd : decide (((nR + 1 : Nat) : Int) - 1 < (nR : Int)) = false := by simp
        have HO := hide hown
        clear hown
        go_wp2
        go_ret
        refine ⟨_, L.length, L, rfl, ?_, unhide HINT, ?_, hbwr⟩
        · have h := unhide HO
          refine ⟨h.1, ?_⟩
          rcases h.2 with h' | ⟨g, cap, cur, h1, h2, h3⟩
          · exact Or.inl h'
          · exact Or.inr ⟨g, cap, cur, h1, Nat.le_trans hbA.size h2, h3⟩
        · rw [unhide HLST, docPart_all, docF, unhide hlR]
end Go.Proofs.Ytodbnjainpjkcaa
