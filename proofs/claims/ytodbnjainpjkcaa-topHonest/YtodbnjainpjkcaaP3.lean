import Derived.Test.YtodbnjainpjkcaaP1
import Derived.Test.YtodbnjainpjkcaaFT
import Derived.Test.YtodbnjainpjkcaaTB
import Derived.Lib.BufferWrite
namespace Go.Proofs.Ytodbnjainpjkcaa
open Go.RowKit
theorem upL_len (n : Nat) : (upL n).length = n := by simp [upL]
theorem likes_perm {l : List Int} {n : Nat} (h : l.Perm (upL n)) : Likes l n ∧ l.length = n := by
  have hlen : l.length = n := by rw [h.length_eq, upL_len]
  have hmem : ∀ x, x ∈ l → 0 ≤ x ∧ x < n := fun x hx => by
    have := (h.mem_iff).1 hx
    simp [upL] at this
    obtain ⟨j, hj, rfl⟩ := this
    omega
  have hnd : l.Nodup := (h.nodup_iff).2 (by
    unfold upL
    rw [List.nodup_iff_pairwise_ne, List.pairwise_map]
    exact (List.nodup_iff_pairwise_ne.1 List.nodup_range).imp fun hne e => hne (by omega))
  have hat : ∀ i (hi : i < l.length), atL l i = l[i] := fun i hi => by unfold atL; rw [List.getElem?_eq_getElem hi]; rfl
  refine ⟨⟨fun i hi => ?_, fun i j hij hj => ?_⟩, hlen⟩
  · rw [hat i hi]; exact hmem _ (List.getElem_mem hi)
  · rw [hat i (by omega), hat j hj]
    intro e
    have := (List.getElem_inj hnd).1 e
    omega
/-- Two cells that are written. -/
structure Two (W : World) (p : Nat) (x y : Value) : Prop where
  c0 : W.cell? ⟨p, 0, none⟩ = some x
  c1 : W.cell? ⟨p, 1, none⟩ = some y
  f0 : W.frozen? ⟨p, 0, none⟩ = false
  f1 : W.frozen? ⟨p, 1, none⟩ = false
theorem Two.lt {W : World} {p : Nat} {x y : Value} (h : Two W p x y) : p < W.heap.size := World.block_lt_of_cell? W _ h.c0
theorem Two.later {W W' : World} {p : Nat} {x y : Value} (h : Two W p x y) (hb : Below W.heap.size W W') : Two W' p x y :=
  ⟨(hb.cell (p := ⟨p, 0, none⟩) h.lt).trans h.c0, (hb.cell (p := ⟨p, 1, none⟩) h.lt).trans h.c1, (hb.frozen (p := ⟨p, 0, none⟩) h.lt).trans h.f0, (hb.frozen (p := ⟨p, 1, none⟩) h.lt).trans h.f1⟩
theorem Two.grown {W W' : World} {p : Nat} {x y : Value} {row : Option Nat} (h : Two W p x y) (hg : W.grownBy W' row) (hne : some p ≠ row) : Two W' p x y :=
  ⟨(hg.cell_far ⟨p, 0, none⟩ h.lt hne).trans h.c0, (hg.cell_far ⟨p, 1, none⟩ h.lt hne).trans h.c1, (hg.frozen_far ⟨p, 0, none⟩ h.lt hne).trans h.f0, (hg.frozen_far ⟨p, 1, none⟩ h.lt hne).trans h.f1⟩
theorem Two.set0 {W : World} {p : Nat} {x y : Value} (h : Two W p x y) (v : Value) : Two (W.setCell ⟨p, 0, none⟩ v) p v y := by
  obtain ⟨h1, h2, h3, h4⟩ := h
  refine ⟨?_, ?_, ?_, ?_⟩
  · exact World.cell?_setCell_same _ _ _ h1
  · rw [World.cell?_setCell_other _ _ _ _ (by intro h; cases h)]; exact h2
  · simpa using h3
  · simpa using h4
theorem Two.set1 {W : World} {p : Nat} {x y : Value} (h : Two W p x y) (v : Value) : Two (W.setCell ⟨p, 1, none⟩ v) p x v := by
  obtain ⟨h1, h2, h3, h4⟩ := h
  refine ⟨?_, ?_, ?_, ?_⟩
  · rw [World.cell?_setCell_other _ _ _ _ (by intro h; cases h)]; exact h1
  · exact World.cell?_setCell_same _ _ _ h2
  · simpa using h3
  · simpa using h4
theorem Two.apart {W : World} {p q : Nat} {x y : Value} (h : Two W p x y) (hne : p ≠ q) (i : Nat) (v : Value) : Two (W.setCell ⟨q, i, none⟩ v) p x y := by
  obtain ⟨h1, h2, h3, h4⟩ := h
  refine ⟨?_, ?_, ?_, ?_⟩
  · rw [World.cell?_setCell_other _ _ _ _ (by intro h; cases h; exact hne rfl)]; exact h1
  · rw [World.cell?_setCell_other _ _ _ _ (by intro h; cases h; exact hne rfl)]; exact h2
  · simpa using h3
  · simpa using h4
/-- Ints in a block of ints are far from a row of agents. -/
theorem T3.grownA {w w' : World} {base k : Nat} {v : Value} {xs : List Value} {a : Option Addr} {n c : Nat} {l : List Int} (h : T3 w a n) (hI : Ints w a n c l) (ho : w.ownsRow base 37 3 v k xs) (hg : w.grownBy w' v.ownBlock) : T3 w' a n ∧ Ints w' a n c l := by
  rcases h with h0 | ⟨b, off, arr, fz, rfl, h2⟩
  · exact ⟨.inl h0, hI.1, hI.2.1, hI.2.2.1, .inl h0⟩
  · have hne : some b ≠ v.ownBlock := by
      intro e
      rcases ho.2 with ⟨rfl, _⟩ | ⟨g, cap, cur, rfl, _, hgg, _⟩
      · cases e
      · simp [Value.ownBlock] at e
        subst e
        rw [hgg] at h2
        simp at h2
    have hlt : b < w.heap.size := by
      rcases Nat.lt_or_ge b w.heap.size with h' | h'
      · exact h'
      · rw [Array.getElem?_eq_none h'] at h2; cases h2
    refine ⟨.inr ⟨b, off, arr, fz, rfl, (hg.block b hlt hne).trans h2⟩, hI.1, hI.2.1, hI.2.2.1, ?_⟩
    rcases hI.2.2.2 with h0 | ⟨b', off', e, hb', hc⟩
    · exact .inl h0
    · cases e
      exact .inr ⟨b, off, rfl, Nat.lt_of_lt_of_le hlt hg.size, fun j hj => (hg.cell_far ⟨b, off + j, none⟩ hlt hne).trans (hc j hj)⟩
/-- How one that Sides made lies: its likes in a block of ints, behind p. -/
structure Lies (p : Nat) (W : World) (g : Ag) : Prop where
  ints : Ints W g.la g.ln g.lc g.likes
  t3 : T3 W g.la g.ln
  over : g.ln = 0 ∨ ∃ b off, g.la = some ⟨b, off, none⟩ ∧ p < b
  nm : g.name.size ≤ 500
theorem Lies.later {p : Nat} {W W' : World} {g : Ag} (h : Lies p W g) (hb : Below W.heap.size W W') : Lies p W' g := ⟨h.ints.later hb, h.t3.later hb, h.over, h.nm⟩
theorem Lies.grown {p : Nat} {W W' : World} {g : Ag} (h : Lies p W g) {base k : Nat} {v : Value} {xs : List Value} (ho : W.ownsRow base 37 3 v k xs) (hg : W.grownBy W' v.ownBlock) : Lies p W' g :=
  ⟨(h.t3.grownA h.ints ho hg).2, (h.t3.grownA h.ints ho hg).1, h.over, h.nm⟩
theorem Lies.set {p : Nat} {W : World} {g : Ag} (h : Lies p W g) {s : Nat} (hs : s ≤ p) (i : Nat) (v : Value) : Lies p (W.setCell ⟨s, i, none⟩ v) g := by
  have hg := Lib.grownBy_setCell W s i v
  rcases h.over with h0 | ⟨b, off, e, hb⟩
  · exact ⟨⟨h.ints.1, h.ints.2.1, h.ints.2.2.1, .inl h0⟩, .inl h0, .inl h0, h.nm⟩
  · have hne : some b ≠ some s := by intro e; cases e; omega
    refine ⟨⟨h.ints.1, h.ints.2.1, h.ints.2.2.1, ?_⟩, ?_, h.over, h.nm⟩
    · rcases h.ints.2.2.2 with h0 | ⟨b', off', e', hb', hc⟩
      · exact .inl h0
      · rw [e] at e'; cases e'
        exact .inr ⟨b, off, e, Nat.lt_of_lt_of_le hb' hg.size, fun j hj => (hg.cell_far ⟨b, off + j, none⟩ hb' hne).trans (hc j hj)⟩
    · rcases h.t3 with h0 | ⟨b', off', arr, fz, e', h2⟩
      · exact .inl h0
      · rw [e] at e'; cases e'
        have hlt : b < W.heap.size := by
          rcases Nat.lt_or_ge b W.heap.size with h' | h'
          · exact h'
          · rw [Array.getElem?_eq_none h'] at h2; cases h2
        exact .inr ⟨b, off, arr, fz, e, (hg.block b hlt hne).trans h2⟩
/-- What Sides makes, one by one. -/
def nameOf (c : UInt8) (i : Nat) : ByteArray := ⟨#[c]⟩ ++ ⟨#[48 + UInt8.ofNat i]⟩
theorem nameOf_size (c : UInt8) (i : Nat) : (nameOf c i).size = 2 := by simp [nameOf]; rfl
theorem agAt_snoc_lt (l : List Ag) (g : Ag) {q : Nat} (h : q < l.length) : agAt (l ++ [g]) q = agAt l q := by unfold agAt; rw [List.getElem?_append_left h]
theorem agAt_snoc (l : List Ag) (g : Ag) : agAt (l ++ [g]) l.length = g := by unfold agAt; simp
structure Made (c : UInt8) (i o : Nat) (one : Bool) (g : Ag) : Prop where
  name : g.name = nameOf c i
  room : 1 ≤ g.room ∧ g.room ≤ 2 ∧ (one = true → g.room = 1)
  likes : Likes g.likes o
  ln : g.ln ≤ 6
theorem ags_one {W : World} {g : Ag} {b : Nat} (hI : Ints W g.la g.ln g.lc g.likes) (hn : g.name.size ≤ 500) (h0 : W.cell? ⟨b, 0, none⟩ = some (.string g.name)) (h1 : W.cell? ⟨b, 1, none⟩ = some (.int .i64 g.room)) (h2 : W.cell? ⟨b, 2, none⟩ = some (.slice g.la g.ln g.lc)) : Ags W (some ⟨b, 0, none⟩) 1 1 [g] := by
  refine ⟨rfl, Nat.le_refl _, by unfold maxLen; omega, fun x hx => ?_, .inr ⟨b, 0, rfl, World.block_lt_of_cell? W _ h0, fun j hj => ?_⟩⟩
  · rw [List.mem_singleton] at hx; subst hx; exact ⟨hI, by unfold maxLen; omega⟩
  · obtain rfl : j = 0 := by omega
    exact ⟨h0, h1, h2⟩
set_option maxRecDepth 100000 in
set_option maxHeartbeats 8000000 in
theorem sides_any (a : Option Addr) (m c : Nat) (raw : List Int) (li ri : Int) (most : Nat) (one : Bool) (w : World) (h : Ints w a m c raw) (hr : ∀ x ∈ raw, InR x) (hli : InR li) (hri : InR ri) (hm : m ≤ 256) (hm0 : 0 < most) (hm6 : most ≤ 6) :
    Calls Try.prog 9 #[.slice a m c, .int .i64 li, .int .i64 ri, .int .i64 most, .bool one] w fun e w' => ∃ aL nL cL lL aR nR cR lR, e = .returned (.agg #[.slice aL nL cL, .slice aR nR cR]) ∧ Ags w' aL nL cL lL ∧ Ags w' aR nR cR lR ∧
      0 < nL ∧ nL ≤ most ∧ 0 < nR ∧ nR ≤ most ∧ (∀ j, j < nL → Made 108 j nR true (agAt lL j)) ∧ (∀ j, j < nR → Made 114 j nL one (agAt lR j)) ∧ Below w.heap.size w w' := by
  have HR := hide hr
  clear hr
  go_enter Try.func9, Try.ntmps9
  go_wp2_with fail
  refine (pick_any li most hli hm0 (by omega) _).mono ?_
  rintro e w1 ⟨l0, hl0, rfl, hw1⟩
  subst w1
  go_wp2_with fail
  refine (pick_any ri most hri hm0 (by omega) _).mono ?_
  rintro e w1 ⟨r0, hr0, rfl, hw1⟩
  subst w1
  rw [show (1 + (l0 : Int)) = ((l0 + 1 : Nat) : Int) by omega]
  obtain ⟨nL, hnL⟩ : ∃ x, x = l0 + 1 := ⟨_, rfl⟩
  rw [← hnL]
  have hnL0 : 0 < nL := by omega
  have hnLm : nL ≤ most := by omega
  clear hnL hl0
  go_wp2_with fail
  rw [show (1 + (r0 : Int)) = ((r0 + 1 : Nat) : Int) by omega]
  obtain ⟨nR, hnR⟩ : ∃ x, x = r0 + 1 := ⟨_, rfl⟩
  rw [← hnR]
  have hnR0 : 0 < nR := by omega
  have hnRm : nR ≤ most := by omega
  clear hnR hr0
  obtain ⟨w3, hw3⟩ : ∃ y, y = ((w.alloc (.cells #[.slice none 0 0, .slice none 0 0] 26)).alloc (.cells #[.slice none 0 0, .slice none 0 0] 26)) := ⟨_, rfl⟩
  have hb3 : Below w.heap.size w w3 := by rw [hw3]; go_grown
  have tP : Two w3 (w.heap.size + 1) (.slice none 0 0) (.slice none 0 0) := by rw [hw3]; exact ⟨by simp, by simp, by simp, by simp⟩
  have tR : Two w3 w.heap.size (.slice none 0 0) (.slice none 0 0) := by rw [hw3]; exact ⟨by simp, by simp, by simp, by simp⟩
  rw [← hw3]
  have HW := hide hw3
  clear hw3
  go_loopw [13, 12] (fun i kv wr => (Below w.heap.size w wr ∧ Two wr w.heap.size (.slice none 0 0) (.slice none 0 0)) ∧ ∃ (j k : Nat) (vL : Value) (lL : List Ag), j ≤ nL ∧ i = .int .i64 j ∧ kv = .int .i64 k ∧ k ≤ 7 * j ∧ Two wr (w.heap.size + 1) vL (.slice none 0 0) ∧ wr.ownsRow (w.heap.size + 2) 37 3 vL j (flat lL) ∧ (∀ g ∈ lL, Lies (w.heap.size + 1) wr g) ∧ (∀ q, q < j → Made 108 q nR true (agAt lL q))) (fun i _ _ => nL - (intOf i).toNat)
  case atStart => exact ⟨⟨hb3, tR⟩, 0, 0, _, [], Nat.zero_le _, rfl, rfl, Nat.zero_le _, tP, World.ownsRow_nil _ _ _ _, fun g hg => (by cases hg), fun q hq => (by omega)⟩
  case round =>
    obtain ⟨⟨hbr, tRr⟩, j, k, vL, lL, hj, rfl, rfl, hk, tPr, hown, hlies, hmade⟩ := hrel
    have HOWN := hide hown
    have HLIES := hide hlies
    have HMADE := hide hmade
    clear hown hlies hmade
    by_cases hlt : j < nL
    · go_wp2_with fail
      refine (perm_any a m c raw k nR wr (h.later hbr) (unhide HR) (by omega) (by omega) hm (by omega)).mono ?_
      rintro e w4 ⟨v4, lo, rfl, ho4, hp4, hb4⟩
      obtain ⟨a4, c4, hv4, hI4, hg4⟩ := Ints.of_owns ho4 (by omega)
      subst hv4
      have hT4 := T3.of_owns ho4
      rcases hg4 with h0 | ⟨g4, hg4, hlt4, rfl⟩
      · omega
      have hc4 := hI4.2.1
      have hcm4 := hI4.2.2.1
      unfold maxLen at hcm4
      have HLK := hide (likes_perm hp4).1
      have HI4 := hide hI4
      have HG4 := hide hg4
      clear hI4 ho4 hp4 hg4
      have hbr4 := hbr.trans (hb4.mono hbr.size)
      go_wp2_with fail
      refine (at_any a m c raw (k + nR) w4 (h.later hbr4) (unhide HR) (by omega) (by omega) hm).mono ?_
      rintro e w5 ⟨x, hx, rfl, hw5⟩
      subst w5
      go_wp2_with fail
      rw [show (2 * (nR : Int)) = ((2 * nR : Nat) : Int) by omega]
      refine (pick_any x (2 * nR) hx (by omega) (by omega) w4).mono ?_
      rintro e w5 ⟨i2, hi2, rfl, hw5⟩
      subst w5
      obtain ⟨fv, hOf, hTx⟩ := text_of j (by omega) w4
      have HTX := hide hTx
      clear hTx
      have z0 : (0 : Int) ≤ (i2 : Int) := by omega
      by_cases hc2 : i2 < nR
      · have z1 : (i2 : Int) ≤ (c4 : Int) := by omega
        go_wp2_with fail
        refine hOf.mono ?_
        rintro e w5 ⟨rfl, hb5⟩
        go_wp2_with fail
        refine (unhide HTX w5).mono ?_
        rintro e w6 ⟨rfl, hb6⟩
        have hb46 := hb5.trans (hb6.mono hb5.size)
        have hbr6 := hb4.trans (hb46.mono hb4.size)
        have tP6 := tPr.later hbr6
        have tR6 := tRr.later hbr6
        have p0 := tP6.c0
        have hIg := ((unhide HI4).take i2 (by omega)).later hb46
        have hTg : T3 w6 (some ⟨g4, 0, none⟩) i2 := by
          rcases hT4.later hb46 with h0 | h1
          · omega
          · exact .inr h1
        have hbw6 := hbr.trans (hbr6.mono hbr.size)
        have HO6 := hide (owns_later (unhide HOWN) hbr6)
        have HL6 := hide (fun g (hg : g ∈ lL) => (unhide HLIES g hg).later hbr6)
        have hbx : Below w6.heap.size w6 (w6.alloc (.cells #[.string (⟨#[108]⟩ ++ ⟨#[48 + UInt8.ofNat j]⟩), .int .i64 1, .slice (some ⟨g4, 0, none⟩) i2 c4] 37)) := by go_grown
        have HLEN : Hid (lL.length = j) := by
          have := (unhide HO6).1
          rw [flat_length] at this
          show _ = _
          omega
        go_wp2_with (at_builtin; refine wpList_append_ags _ rfl _ _ rfl (w.heap.size + 2) _ j lL rfl ((unhide HO6).alloc _) (some ⟨w6.heap.size, 0, none⟩) 1 1 [⟨nameOf 108 j, 1, some ⟨g4, 0, none⟩, i2, c4, lo.take i2⟩] rfl (ags_one (hIg.later hbx) (by show (nameOf 108 j).size ≤ 500; rw [nameOf_size]; omega) (by simp; rfl) (by simp) (by simp)) (by omega) (by have := hbw6.size; have := tP6.lt; simp; omega) ?_; intro v7 w7 ho7 hg7; obtain ⟨g7, c7, rfl, _, _⟩ := ho7.form (by omega); have tP7 := (tP6.later hbx).grown hg7 (fun e => by have := (unhide HO6).lt _ e.symm; omega); have q0 := tP7.c0; have r0' := tP7.f0)
        have ho7' : w7.ownsRow (w.heap.size + 2) 37 3 (.slice (some ⟨g7, 0, none⟩) (j + 1) c7) (j + 1) (flat (lL ++ [⟨nameOf 108 j, 1, some ⟨g4, 0, none⟩, i2, c4, lo.take i2⟩])) := ho7
        go_roundw
        case rel =>
          have tR7 := (tR6.later hbx).grown hg7 (fun e => by have := (unhide HO6).lt _ e.symm; omega)
          have hbx7 := (((Below.refl w.heap.size w6).trans (hbx.mono hbw6.size)).grown hg7 (by have := hbw6.size; have := hbx.size; omega) (fun q hq => by have := ((unhide HO6).lt q hq).1; omega)).setCell (p := ⟨w.heap.size + 1, 0, none⟩) (by show w.heap.size ≤ w.heap.size + 1; omega) (.slice (some ⟨g7, 0, none⟩) (j + 1) c7)
          have HK : ∀ g ∈ lL ++ [⟨nameOf 108 j, 1, some ⟨g4, 0, none⟩, i2, c4, lo.take i2⟩], Lies (w.heap.size + 1) w6 g := fun g hg => by
            rcases List.mem_append.1 hg with h1 | h1
            · exact unhide HL6 g h1
            · rw [List.mem_singleton] at h1
              subst h1
              exact ⟨hIg, hTg, .inr ⟨g4, 0, rfl, by have := unhide HG4; have := tPr.lt; omega⟩, by rw [nameOf_size]; omega⟩
          refine ⟨⟨hbw6.trans hbx7, tR7.apart (Nat.ne_of_lt (Nat.lt_succ_self _)) 0 (.slice (some ⟨g7, 0, none⟩) (j + 1) c7)⟩, j + 1, k + nR + 1, (.slice (some ⟨g7, 0, none⟩) (j + 1) c7), lL ++ [⟨nameOf 108 j, 1, some ⟨g4, 0, none⟩, i2, c4, lo.take i2⟩], by omega, by go_num, by go_num, by omega, tP7.set0 (.slice (some ⟨g7, 0, none⟩) (j + 1) c7), ownsRow_setCell_below ho7' (by show w.heap.size + 1 < w.heap.size + 2; omega) (.slice (some ⟨g7, 0, none⟩) (j + 1) c7), fun g hg => ?_, fun q hq => ?_⟩
          · exact (((HK g hg).later hbx).grown ((unhide HO6).alloc _) hg7).set (Nat.le_refl _) 0 (.slice (some ⟨g7, 0, none⟩) (j + 1) c7)
          · by_cases hqj : q < j
            · rw [agAt_snoc_lt _ _ (by have := unhide HLEN; omega)]
              exact unhide HMADE q hqj
            · obtain rfl : q = j := by omega
              have e := agAt_snoc lL ⟨nameOf 108 q, 1, some ⟨g4, 0, none⟩, i2, c4, lo.take i2⟩
              rw [unhide HLEN] at e
              rw [e]
              exact ⟨rfl, ⟨by show (1 : Int) ≤ 1; omega, by show (1 : Int) ≤ 2; omega, fun _ => rfl⟩, (unhide HLK).take _, by show i2 ≤ 6; omega⟩
        case measure => simp [intOf]; omega
      · skip
        go_wp2_with fail
        refine hOf.mono ?_
        rintro e w5 ⟨rfl, hb5⟩
        go_wp2_with fail
        refine (unhide HTX w5).mono ?_
        rintro e w6 ⟨rfl, hb6⟩
        have hb46 := hb5.trans (hb6.mono hb5.size)
        have hbr6 := hb4.trans (hb46.mono hb4.size)
        have tP6 := tPr.later hbr6
        have tR6 := tRr.later hbr6
        have p0 := tP6.c0
        have hIg := ((unhide HI4).take nR (by omega)).later hb46
        have hTg : T3 w6 (some ⟨g4, 0, none⟩) nR := by
          rcases hT4.later hb46 with h0 | h1
          · omega
          · exact .inr h1
        have hbw6 := hbr.trans (hbr6.mono hbr.size)
        have HO6 := hide (owns_later (unhide HOWN) hbr6)
        have HL6 := hide (fun g (hg : g ∈ lL) => (unhide HLIES g hg).later hbr6)
        have hbx : Below w6.heap.size w6 (w6.alloc (.cells #[.string (⟨#[108]⟩ ++ ⟨#[48 + UInt8.ofNat j]⟩), .int .i64 1, .slice (some ⟨g4, 0, none⟩) nR c4] 37)) := by go_grown
        have HLEN : Hid (lL.length = j) := by
          have := (unhide HO6).1
          rw [flat_length] at this
          show _ = _
          omega
        go_wp2_with (at_builtin; refine wpList_append_ags _ rfl _ _ rfl (w.heap.size + 2) _ j lL rfl ((unhide HO6).alloc _) (some ⟨w6.heap.size, 0, none⟩) 1 1 [⟨nameOf 108 j, 1, some ⟨g4, 0, none⟩, nR, c4, lo.take nR⟩] rfl (ags_one (hIg.later hbx) (by show (nameOf 108 j).size ≤ 500; rw [nameOf_size]; omega) (by simp; rfl) (by simp) (by simp)) (by omega) (by have := hbw6.size; have := tP6.lt; simp; omega) ?_; intro v7 w7 ho7 hg7; obtain ⟨g7, c7, rfl, _, _⟩ := ho7.form (by omega); have tP7 := (tP6.later hbx).grown hg7 (fun e => by have := (unhide HO6).lt _ e.symm; omega); have q0 := tP7.c0; have r0' := tP7.f0)
        have ho7' : w7.ownsRow (w.heap.size + 2) 37 3 (.slice (some ⟨g7, 0, none⟩) (j + 1) c7) (j + 1) (flat (lL ++ [⟨nameOf 108 j, 1, some ⟨g4, 0, none⟩, nR, c4, lo.take nR⟩])) := ho7
        go_roundw
        case rel =>
          have tR7 := (tR6.later hbx).grown hg7 (fun e => by have := (unhide HO6).lt _ e.symm; omega)
          have hbx7 := (((Below.refl w.heap.size w6).trans (hbx.mono hbw6.size)).grown hg7 (by have := hbw6.size; have := hbx.size; omega) (fun q hq => by have := ((unhide HO6).lt q hq).1; omega)).setCell (p := ⟨w.heap.size + 1, 0, none⟩) (by show w.heap.size ≤ w.heap.size + 1; omega) (.slice (some ⟨g7, 0, none⟩) (j + 1) c7)
          have HK : ∀ g ∈ lL ++ [⟨nameOf 108 j, 1, some ⟨g4, 0, none⟩, nR, c4, lo.take nR⟩], Lies (w.heap.size + 1) w6 g := fun g hg => by
            rcases List.mem_append.1 hg with h1 | h1
            · exact unhide HL6 g h1
            · rw [List.mem_singleton] at h1
              subst h1
              exact ⟨hIg, hTg, .inr ⟨g4, 0, rfl, by have := unhide HG4; have := tPr.lt; omega⟩, by rw [nameOf_size]; omega⟩
          refine ⟨⟨hbw6.trans hbx7, tR7.apart (Nat.ne_of_lt (Nat.lt_succ_self _)) 0 (.slice (some ⟨g7, 0, none⟩) (j + 1) c7)⟩, j + 1, k + nR + 1, (.slice (some ⟨g7, 0, none⟩) (j + 1) c7), lL ++ [⟨nameOf 108 j, 1, some ⟨g4, 0, none⟩, nR, c4, lo.take nR⟩], by omega, by go_num, by go_num, by omega, tP7.set0 (.slice (some ⟨g7, 0, none⟩) (j + 1) c7), ownsRow_setCell_below ho7' (by show w.heap.size + 1 < w.heap.size + 2; omega) (.slice (some ⟨g7, 0, none⟩) (j + 1) c7), fun g hg => ?_, fun q hq => ?_⟩
          · exact (((HK g hg).later hbx).grown ((unhide HO6).alloc _) hg7).set (Nat.le_refl _) 0 (.slice (some ⟨g7, 0, none⟩) (j + 1) c7)
          · by_cases hqj : q < j
            · rw [agAt_snoc_lt _ _ (by have := unhide HLEN; omega)]
              exact unhide HMADE q hqj
            · obtain rfl : q = j := by omega
              have e := agAt_snoc lL ⟨nameOf 108 q, 1, some ⟨g4, 0, none⟩, nR, c4, lo.take nR⟩
              rw [unhide HLEN] at e
              rw [e]
              exact ⟨rfl, ⟨by show (1 : Int) ≤ 1; omega, by show (1 : Int) ≤ 2; omega, fun _ => rfl⟩, (unhide HLK).take _, by show nR ≤ 6; omega⟩
        case measure => simp [intOf]; omega
    · obtain rfl : j = nL := by omega
      rename World => wq
      have HVL : Hid (∀ q, vL.ownBlock = some q → w.heap.size + 2 ≤ q ∧ q < wq.heap.size) := (unhide HOWN).lt
      go_wp2_with fail
      go_loopw [17, 12] (fun i kv wr => (Below w.heap.size w wr ∧ wq.heap.size ≤ wr.heap.size ∧ Two wr w.heap.size (.slice none 0 0) (.slice none 0 0)) ∧ ∃ (j2 k2 : Nat) (vR : Value) (lR : List Ag), j2 ≤ nR ∧ i = .int .i64 j2 ∧ kv = .int .i64 k2 ∧ k2 ≤ 42 + 8 * j2 ∧ Two wr (w.heap.size + 1) vL vR ∧ wr.ownsRow (w.heap.size + 2) 37 3 vL j (flat lL) ∧ (∀ g ∈ lL, Lies (w.heap.size + 1) wr g) ∧ wr.ownsRow wq.heap.size 37 3 vR j2 (flat lR) ∧ (∀ g ∈ lR, Lies (w.heap.size + 1) wr g) ∧ (∀ q, q < j2 → Made 114 q j one (agAt lR q))) (fun i _ _ => nR - (intOf i).toNat)
      case atStart => exact ⟨⟨hbr, Nat.le_refl _, tRr⟩, 0, k, _, [], Nat.zero_le _, rfl, rfl, by omega, tPr, unhide HOWN, unhide HLIES, World.ownsRow_nil _ _ _ _, fun g hg => (by cases hg), fun q hq => (by omega)⟩
      case round =>
        obtain ⟨⟨hbr2, hwq, tRr2⟩, j2, k2, vR, lR, hj2, rfl, rfl, hk2, tPr2, hownL, hliesL, hownR, hliesR, hmadeR⟩ := hrel
        have HOWL := hide hownL
        have HLIL := hide hliesL
        have HOWR := hide hownR
        have HLIR := hide hliesR
        have HMAR := hide hmadeR
        clear hownL hliesL hownR hliesR hmadeR
        by_cases hlt2 : j2 < nR
        · go_wp2_with fail
          refine (perm_any a m c raw k2 j wr (h.later hbr2) (unhide HR) (by omega) (by omega) hm (by omega)).mono ?_
          rintro e w4 ⟨v4, lo, rfl, ho4, hp4, hb4⟩
          obtain ⟨a4, c4, hv4, hI4, hg4⟩ := Ints.of_owns ho4 (by omega)
          subst hv4
          have hT4 := T3.of_owns ho4
          rcases hg4 with h0 | ⟨g4, hg4, hlt4, rfl⟩
          · omega
          have hc4 := hI4.2.1
          have hcm4 := hI4.2.2.1
          unfold maxLen at hcm4
          have HLK := hide (likes_perm hp4).1
          have HI4 := hide hI4
          have HG4 := hide hg4
          clear hI4 ho4 hp4 hg4
          have hbr4 := hbr2.trans (hb4.mono hbr2.size)
          go_wp2_with fail
          refine (at_any a m c raw (k2 + j) w4 (h.later hbr4) (unhide HR) (by omega) (by omega) hm).mono ?_
          rintro e w5 ⟨x, hx, rfl, hw5⟩
          subst w5
          go_wp2_with fail
          rw [show (2 * (j : Int)) = ((2 * j : Nat) : Int) by omega]
          refine (pick_any x (2 * j) hx (by omega) (by omega) w4).mono ?_
          rintro e w5 ⟨i2, hi2, rfl, hw5⟩
          subst w5
          obtain ⟨fv, hOf, hTx⟩ := text_of j2 (by omega) w4
          have HTX := hide hTx
          clear hTx
          have z0 : (0 : Int) ≤ (i2 : Int) := by omega
          by_cases hc2 : i2 < j
          · cases one with
            | true =>
              have z1 : (i2 : Int) ≤ (c4 : Int) := by omega
              go_wp2_with fail
              refine (at_any a m c raw (k2 + j + 1) w4 (h.later hbr4) (unhide HR) (by omega) (by omega) hm).mono ?_
              rintro e w5 ⟨y, hy, rfl, hw5⟩
              subst w5
              go_wp2_with fail
              refine (pick_any y 2 hy (by omega) (by omega) w4).mono ?_
              rintro e w5 ⟨i4, hi4, rfl, hw5⟩
              subst w5
              go_wp2_with fail
              refine hOf.mono ?_
              rintro e w5 ⟨rfl, hb5⟩
              go_wp2_with fail
              refine (unhide HTX w5).mono ?_
              rintro e w6 ⟨rfl, hb6⟩
              have hb46 := hb5.trans (hb6.mono hb5.size)
              have hbr6 := hb4.trans (hb46.mono hb4.size)
              have tP6 := tPr2.later hbr6
              have tR6 := tRr2.later hbr6
              have p0 := tP6.c1
              have hIg := ((unhide HI4).take i2 (by omega)).later hb46
              have hTg : T3 w6 (some ⟨g4, 0, none⟩) i2 := by
                rcases hT4.later hb46 with h0 | h1
                · omega
                · exact .inr h1
              have hbw6 := hbr2.trans (hbr6.mono hbr2.size)
              have HO6 := hide (owns_later (unhide HOWR) hbr6)
              have HOL6 := hide (owns_later (unhide HOWL) hbr6)
              have HL6 := hide (fun g (hg : g ∈ lR) => (unhide HLIR g hg).later hbr6)
              have HLL6 := hide (fun g (hg : g ∈ lL) => (unhide HLIL g hg).later hbr6)
              have hbx : Below w6.heap.size w6 (w6.alloc (.cells #[.string (⟨#[114]⟩ ++ ⟨#[48 + UInt8.ofNat j2]⟩), .int .i64 1, .slice (some ⟨g4, 0, none⟩) i2 c4] 37)) := by go_grown
              have HLEN : Hid (lR.length = j2) := by
                have := (unhide HO6).1
                rw [flat_length] at this
                show _ = _
                omega
              go_wp2_with (at_builtin; refine wpList_append_ags _ rfl _ _ rfl wq.heap.size _ j2 lR rfl ((unhide HO6).alloc _) (some ⟨w6.heap.size, 0, none⟩) 1 1 [⟨nameOf 114 j2, 1, some ⟨g4, 0, none⟩, i2, c4, lo.take i2⟩] rfl (ags_one (hIg.later hbx) (by show (nameOf 114 j2).size ≤ 500; rw [nameOf_size]; omega) (by simp; rfl) (by simp) (by simp)) (by omega) (by have := hbr6.size; simp; omega) ?_; intro v7 w7 ho7 hg7; obtain ⟨g7, c7, rfl, _, _⟩ := ho7.form (by omega); have tP7 := (tP6.later hbx).grown hg7 (fun e => by have := (unhide HO6).lt _ e.symm; have := tPr.lt; omega); have q0 := tP7.c1; have r0' := tP7.f1)
              have ho7' : w7.ownsRow wq.heap.size 37 3 (.slice (some ⟨g7, 0, none⟩) (j2 + 1) c7) (j2 + 1) (flat (lR ++ [⟨nameOf 114 j2, 1, some ⟨g4, 0, none⟩, i2, c4, lo.take i2⟩])) := ho7
              go_roundw
              case rel =>
                have tR7 := (tR6.later hbx).grown hg7 (fun e => by have := (unhide HO6).lt _ e.symm; have := tRr.lt; omega)
                have hbx7 := (((Below.refl w.heap.size w6).trans (hbx.mono hbw6.size)).grown hg7 (by have := hbw6.size; have := hbx.size; omega) (fun q hq => by have := ((unhide HO6).lt q hq).1; have := tRr.lt; omega)).setCell (p := ⟨w.heap.size + 1, 1, none⟩) (by show w.heap.size ≤ w.heap.size + 1; omega) (.slice (some ⟨g7, 0, none⟩) (j2 + 1) c7)
                have HK : ∀ g ∈ lR ++ [⟨nameOf 114 j2, 1, some ⟨g4, 0, none⟩, i2, c4, lo.take i2⟩], Lies (w.heap.size + 1) w6 g := fun g hg => by
                  rcases List.mem_append.1 hg with h1 | h1
                  · exact unhide HL6 g h1
                  · rw [List.mem_singleton] at h1
                    subst h1
                    exact ⟨hIg, hTg, .inr ⟨g4, 0, rfl, by have := unhide HG4; have := tPr2.lt; omega⟩, by rw [nameOf_size]; omega⟩
                have hoL := (owns_later (unhide HOL6) hbx).kept hg7 (by
                  rcases hv : vL.ownBlock with _ | q
                  · exact .inl rfl
                  · right
                    intro e
                    have h1 := unhide HVL q hv
                    have h2 := (unhide HO6).lt q e.symm
                    omega)
                refine ⟨⟨hbw6.trans hbx7, by have := hbr6.size; have := hbx.size; have := hg7.size; simp; omega, tR7.apart (Nat.ne_of_lt (Nat.lt_succ_self _)) 1 (.slice (some ⟨g7, 0, none⟩) (j2 + 1) c7)⟩, j2 + 1, k2 + j + 2, (.slice (some ⟨g7, 0, none⟩) (j2 + 1) c7), lR ++ [⟨nameOf 114 j2, 1, some ⟨g4, 0, none⟩, i2, c4, lo.take i2⟩], by omega, by go_num, by go_num, by omega, tP7.set1 (.slice (some ⟨g7, 0, none⟩) (j2 + 1) c7), ownsRow_setCell_below hoL (by show w.heap.size + 1 < w.heap.size + 2; omega) (.slice (some ⟨g7, 0, none⟩) (j2 + 1) c7), fun g hg => ?_, ownsRow_setCell_below ho7' (by have := tPr.lt; show w.heap.size + 1 < _; omega) (.slice (some ⟨g7, 0, none⟩) (j2 + 1) c7), fun g hg => ?_, fun q hq => ?_⟩
                · exact (((unhide HLL6 g hg).later hbx).grown ((unhide HO6).alloc _) hg7).set (Nat.le_refl _) 1 (.slice (some ⟨g7, 0, none⟩) (j2 + 1) c7)
                · exact (((HK g hg).later hbx).grown ((unhide HO6).alloc _) hg7).set (Nat.le_refl _) 1 (.slice (some ⟨g7, 0, none⟩) (j2 + 1) c7)
                · by_cases hqj : q < j2
                  · rw [agAt_snoc_lt _ _ (by have := unhide HLEN; omega)]
                    exact unhide HMAR q hqj
                  · obtain rfl : q = j2 := by omega
                    have e := agAt_snoc lR ⟨nameOf 114 q, 1, some ⟨g4, 0, none⟩, i2, c4, lo.take i2⟩
                    rw [unhide HLEN] at e
                    rw [e]
                    exact ⟨rfl, ⟨by show (1 : Int) ≤ 1; omega, by show (1 : Int) ≤ 2; omega, fun _ => rfl⟩, (unhide HLK).take _, by show i2 ≤ 6; omega⟩
              case measure => simp [intOf]; omega
            | false =>
              have z1 : (i2 : Int) ≤ (c4 : Int) := by omega
              go_wp2_with fail
              refine (at_any a m c raw (k2 + j + 1) w4 (h.later hbr4) (unhide HR) (by omega) (by omega) hm).mono ?_
              rintro e w5 ⟨y, hy, rfl, hw5⟩
              subst w5
              go_wp2_with fail
              refine (pick_any y 2 hy (by omega) (by omega) w4).mono ?_
              rintro e w5 ⟨i4, hi4, rfl, hw5⟩
              subst w5
              go_wp2_with fail
              refine hOf.mono ?_
              rintro e w5 ⟨rfl, hb5⟩
              go_wp2_with fail
              refine (unhide HTX w5).mono ?_
              rintro e w6 ⟨rfl, hb6⟩
              have hb46 := hb5.trans (hb6.mono hb5.size)
              have hbr6 := hb4.trans (hb46.mono hb4.size)
              have tP6 := tPr2.later hbr6
              have tR6 := tRr2.later hbr6
              have p0 := tP6.c1
              have hIg := ((unhide HI4).take i2 (by omega)).later hb46
              have hTg : T3 w6 (some ⟨g4, 0, none⟩) i2 := by
                rcases hT4.later hb46 with h0 | h1
                · omega
                · exact .inr h1
              have hbw6 := hbr2.trans (hbr6.mono hbr2.size)
              have HO6 := hide (owns_later (unhide HOWR) hbr6)
              have HOL6 := hide (owns_later (unhide HOWL) hbr6)
              have HL6 := hide (fun g (hg : g ∈ lR) => (unhide HLIR g hg).later hbr6)
              have HLL6 := hide (fun g (hg : g ∈ lL) => (unhide HLIL g hg).later hbr6)
              have hbx : Below w6.heap.size w6 (w6.alloc (.cells #[.string (⟨#[114]⟩ ++ ⟨#[48 + UInt8.ofNat j2]⟩), .int .i64 (1 + (i4 : Int)), .slice (some ⟨g4, 0, none⟩) i2 c4] 37)) := by go_grown
              have HLEN : Hid (lR.length = j2) := by
                have := (unhide HO6).1
                rw [flat_length] at this
                show _ = _
                omega
              go_wp2_with (at_builtin; refine wpList_append_ags _ rfl _ _ rfl wq.heap.size _ j2 lR rfl ((unhide HO6).alloc _) (some ⟨w6.heap.size, 0, none⟩) 1 1 [⟨nameOf 114 j2, (1 + (i4 : Int)), some ⟨g4, 0, none⟩, i2, c4, lo.take i2⟩] rfl (ags_one (hIg.later hbx) (by show (nameOf 114 j2).size ≤ 500; rw [nameOf_size]; omega) (by simp; rfl) (by simp) (by simp)) (by omega) (by have := hbr6.size; simp; omega) ?_; intro v7 w7 ho7 hg7; obtain ⟨g7, c7, rfl, _, _⟩ := ho7.form (by omega); have tP7 := (tP6.later hbx).grown hg7 (fun e => by have := (unhide HO6).lt _ e.symm; have := tPr.lt; omega); have q0 := tP7.c1; have r0' := tP7.f1)
              have ho7' : w7.ownsRow wq.heap.size 37 3 (.slice (some ⟨g7, 0, none⟩) (j2 + 1) c7) (j2 + 1) (flat (lR ++ [⟨nameOf 114 j2, (1 + (i4 : Int)), some ⟨g4, 0, none⟩, i2, c4, lo.take i2⟩])) := ho7
              go_roundw
              case rel =>
                have tR7 := (tR6.later hbx).grown hg7 (fun e => by have := (unhide HO6).lt _ e.symm; have := tRr.lt; omega)
                have hbx7 := (((Below.refl w.heap.size w6).trans (hbx.mono hbw6.size)).grown hg7 (by have := hbw6.size; have := hbx.size; omega) (fun q hq => by have := ((unhide HO6).lt q hq).1; have := tRr.lt; omega)).setCell (p := ⟨w.heap.size + 1, 1, none⟩) (by show w.heap.size ≤ w.heap.size + 1; omega) (.slice (some ⟨g7, 0, none⟩) (j2 + 1) c7)
                have HK : ∀ g ∈ lR ++ [⟨nameOf 114 j2, (1 + (i4 : Int)), some ⟨g4, 0, none⟩, i2, c4, lo.take i2⟩], Lies (w.heap.size + 1) w6 g := fun g hg => by
                  rcases List.mem_append.1 hg with h1 | h1
                  · exact unhide HL6 g h1
                  · rw [List.mem_singleton] at h1
                    subst h1
                    exact ⟨hIg, hTg, .inr ⟨g4, 0, rfl, by have := unhide HG4; have := tPr2.lt; omega⟩, by rw [nameOf_size]; omega⟩
                have hoL := (owns_later (unhide HOL6) hbx).kept hg7 (by
                  rcases hv : vL.ownBlock with _ | q
                  · exact .inl rfl
                  · right
                    intro e
                    have h1 := unhide HVL q hv
                    have h2 := (unhide HO6).lt q e.symm
                    omega)
                refine ⟨⟨hbw6.trans hbx7, by have := hbr6.size; have := hbx.size; have := hg7.size; simp; omega, tR7.apart (Nat.ne_of_lt (Nat.lt_succ_self _)) 1 (.slice (some ⟨g7, 0, none⟩) (j2 + 1) c7)⟩, j2 + 1, k2 + j + 2, (.slice (some ⟨g7, 0, none⟩) (j2 + 1) c7), lR ++ [⟨nameOf 114 j2, (1 + (i4 : Int)), some ⟨g4, 0, none⟩, i2, c4, lo.take i2⟩], by omega, by go_num, by go_num, by omega, tP7.set1 (.slice (some ⟨g7, 0, none⟩) (j2 + 1) c7), ownsRow_setCell_below hoL (by show w.heap.size + 1 < w.heap.size + 2; omega) (.slice (some ⟨g7, 0, none⟩) (j2 + 1) c7), fun g hg => ?_, ownsRow_setCell_below ho7' (by have := tPr.lt; show w.heap.size + 1 < _; omega) (.slice (some ⟨g7, 0, none⟩) (j2 + 1) c7), fun g hg => ?_, fun q hq => ?_⟩
                · exact (((unhide HLL6 g hg).later hbx).grown ((unhide HO6).alloc _) hg7).set (Nat.le_refl _) 1 (.slice (some ⟨g7, 0, none⟩) (j2 + 1) c7)
                · exact (((HK g hg).later hbx).grown ((unhide HO6).alloc _) hg7).set (Nat.le_refl _) 1 (.slice (some ⟨g7, 0, none⟩) (j2 + 1) c7)
                · by_cases hqj : q < j2
                  · rw [agAt_snoc_lt _ _ (by have := unhide HLEN; omega)]
                    exact unhide HMAR q hqj
                  · obtain rfl : q = j2 := by omega
                    have e := agAt_snoc lR ⟨nameOf 114 q, (1 + (i4 : Int)), some ⟨g4, 0, none⟩, i2, c4, lo.take i2⟩
                    rw [unhide HLEN] at e
                    rw [e]
                    exact ⟨rfl, ⟨by show 1 ≤ 1 + (i4 : Int); omega, by show 1 + (i4 : Int) ≤ 2; omega, fun h => by cases h⟩, (unhide HLK).take _, by show i2 ≤ 6; omega⟩
              case measure => simp [intOf]; omega
          · cases one with
            | true =>
              skip
              go_wp2_with fail
              refine (at_any a m c raw (k2 + j + 1) w4 (h.later hbr4) (unhide HR) (by omega) (by omega) hm).mono ?_
              rintro e w5 ⟨y, hy, rfl, hw5⟩
              subst w5
              go_wp2_with fail
              refine (pick_any y 2 hy (by omega) (by omega) w4).mono ?_
              rintro e w5 ⟨i4, hi4, rfl, hw5⟩
              subst w5
              go_wp2_with fail
              refine hOf.mono ?_
              rintro e w5 ⟨rfl, hb5⟩
              go_wp2_with fail
              refine (unhide HTX w5).mono ?_
              rintro e w6 ⟨rfl, hb6⟩
              have hb46 := hb5.trans (hb6.mono hb5.size)
              have hbr6 := hb4.trans (hb46.mono hb4.size)
              have tP6 := tPr2.later hbr6
              have tR6 := tRr2.later hbr6
              have p0 := tP6.c1
              have hIg := ((unhide HI4).take j (by omega)).later hb46
              have hTg : T3 w6 (some ⟨g4, 0, none⟩) j := by
                rcases hT4.later hb46 with h0 | h1
                · omega
                · exact .inr h1
              have hbw6 := hbr2.trans (hbr6.mono hbr2.size)
              have HO6 := hide (owns_later (unhide HOWR) hbr6)
              have HOL6 := hide (owns_later (unhide HOWL) hbr6)
              have HL6 := hide (fun g (hg : g ∈ lR) => (unhide HLIR g hg).later hbr6)
              have HLL6 := hide (fun g (hg : g ∈ lL) => (unhide HLIL g hg).later hbr6)
              have hbx : Below w6.heap.size w6 (w6.alloc (.cells #[.string (⟨#[114]⟩ ++ ⟨#[48 + UInt8.ofNat j2]⟩), .int .i64 1, .slice (some ⟨g4, 0, none⟩) j c4] 37)) := by go_grown
              have HLEN : Hid (lR.length = j2) := by
                have := (unhide HO6).1
                rw [flat_length] at this
                show _ = _
                omega
              go_wp2_with (at_builtin; refine wpList_append_ags _ rfl _ _ rfl wq.heap.size _ j2 lR rfl ((unhide HO6).alloc _) (some ⟨w6.heap.size, 0, none⟩) 1 1 [⟨nameOf 114 j2, 1, some ⟨g4, 0, none⟩, j, c4, lo.take j⟩] rfl (ags_one (hIg.later hbx) (by show (nameOf 114 j2).size ≤ 500; rw [nameOf_size]; omega) (by simp; rfl) (by simp) (by simp)) (by omega) (by have := hbr6.size; simp; omega) ?_; intro v7 w7 ho7 hg7; obtain ⟨g7, c7, rfl, _, _⟩ := ho7.form (by omega); have tP7 := (tP6.later hbx).grown hg7 (fun e => by have := (unhide HO6).lt _ e.symm; have := tPr.lt; omega); have q0 := tP7.c1; have r0' := tP7.f1)
              have ho7' : w7.ownsRow wq.heap.size 37 3 (.slice (some ⟨g7, 0, none⟩) (j2 + 1) c7) (j2 + 1) (flat (lR ++ [⟨nameOf 114 j2, 1, some ⟨g4, 0, none⟩, j, c4, lo.take j⟩])) := ho7
              go_roundw
              case rel =>
                have tR7 := (tR6.later hbx).grown hg7 (fun e => by have := (unhide HO6).lt _ e.symm; have := tRr.lt; omega)
                have hbx7 := (((Below.refl w.heap.size w6).trans (hbx.mono hbw6.size)).grown hg7 (by have := hbw6.size; have := hbx.size; omega) (fun q hq => by have := ((unhide HO6).lt q hq).1; have := tRr.lt; omega)).setCell (p := ⟨w.heap.size + 1, 1, none⟩) (by show w.heap.size ≤ w.heap.size + 1; omega) (.slice (some ⟨g7, 0, none⟩) (j2 + 1) c7)
                have HK : ∀ g ∈ lR ++ [⟨nameOf 114 j2, 1, some ⟨g4, 0, none⟩, j, c4, lo.take j⟩], Lies (w.heap.size + 1) w6 g := fun g hg => by
                  rcases List.mem_append.1 hg with h1 | h1
                  · exact unhide HL6 g h1
                  · rw [List.mem_singleton] at h1
                    subst h1
                    exact ⟨hIg, hTg, .inr ⟨g4, 0, rfl, by have := unhide HG4; have := tPr2.lt; omega⟩, by rw [nameOf_size]; omega⟩
                have hoL := (owns_later (unhide HOL6) hbx).kept hg7 (by
                  rcases hv : vL.ownBlock with _ | q
                  · exact .inl rfl
                  · right
                    intro e
                    have h1 := unhide HVL q hv
                    have h2 := (unhide HO6).lt q e.symm
                    omega)
                refine ⟨⟨hbw6.trans hbx7, by have := hbr6.size; have := hbx.size; have := hg7.size; simp; omega, tR7.apart (Nat.ne_of_lt (Nat.lt_succ_self _)) 1 (.slice (some ⟨g7, 0, none⟩) (j2 + 1) c7)⟩, j2 + 1, k2 + j + 2, (.slice (some ⟨g7, 0, none⟩) (j2 + 1) c7), lR ++ [⟨nameOf 114 j2, 1, some ⟨g4, 0, none⟩, j, c4, lo.take j⟩], by omega, by go_num, by go_num, by omega, tP7.set1 (.slice (some ⟨g7, 0, none⟩) (j2 + 1) c7), ownsRow_setCell_below hoL (by show w.heap.size + 1 < w.heap.size + 2; omega) (.slice (some ⟨g7, 0, none⟩) (j2 + 1) c7), fun g hg => ?_, ownsRow_setCell_below ho7' (by have := tPr.lt; show w.heap.size + 1 < _; omega) (.slice (some ⟨g7, 0, none⟩) (j2 + 1) c7), fun g hg => ?_, fun q hq => ?_⟩
                · exact (((unhide HLL6 g hg).later hbx).grown ((unhide HO6).alloc _) hg7).set (Nat.le_refl _) 1 (.slice (some ⟨g7, 0, none⟩) (j2 + 1) c7)
                · exact (((HK g hg).later hbx).grown ((unhide HO6).alloc _) hg7).set (Nat.le_refl _) 1 (.slice (some ⟨g7, 0, none⟩) (j2 + 1) c7)
                · by_cases hqj : q < j2
                  · rw [agAt_snoc_lt _ _ (by have := unhide HLEN; omega)]
                    exact unhide HMAR q hqj
                  · obtain rfl : q = j2 := by omega
                    have e := agAt_snoc lR ⟨nameOf 114 q, 1, some ⟨g4, 0, none⟩, j, c4, lo.take j⟩
                    rw [unhide HLEN] at e
                    rw [e]
                    exact ⟨rfl, ⟨by show (1 : Int) ≤ 1; omega, by show (1 : Int) ≤ 2; omega, fun _ => rfl⟩, (unhide HLK).take _, by show j ≤ 6; omega⟩
              case measure => simp [intOf]; omega
            | false =>
              skip
              go_wp2_with fail
              refine (at_any a m c raw (k2 + j + 1) w4 (h.later hbr4) (unhide HR) (by omega) (by omega) hm).mono ?_
              rintro e w5 ⟨y, hy, rfl, hw5⟩
              subst w5
              go_wp2_with fail
              refine (pick_any y 2 hy (by omega) (by omega) w4).mono ?_
              rintro e w5 ⟨i4, hi4, rfl, hw5⟩
              subst w5
              go_wp2_with fail
              refine hOf.mono ?_
              rintro e w5 ⟨rfl, hb5⟩
              go_wp2_with fail
              refine (unhide HTX w5).mono ?_
              rintro e w6 ⟨rfl, hb6⟩
              have hb46 := hb5.trans (hb6.mono hb5.size)
              have hbr6 := hb4.trans (hb46.mono hb4.size)
              have tP6 := tPr2.later hbr6
              have tR6 := tRr2.later hbr6
              have p0 := tP6.c1
              have hIg := ((unhide HI4).take j (by omega)).later hb46
              have hTg : T3 w6 (some ⟨g4, 0, none⟩) j := by
                rcases hT4.later hb46 with h0 | h1
                · omega
                · exact .inr h1
              have hbw6 := hbr2.trans (hbr6.mono hbr2.size)
              have HO6 := hide (owns_later (unhide HOWR) hbr6)
              have HOL6 := hide (owns_later (unhide HOWL) hbr6)
              have HL6 := hide (fun g (hg : g ∈ lR) => (unhide HLIR g hg).later hbr6)
              have HLL6 := hide (fun g (hg : g ∈ lL) => (unhide HLIL g hg).later hbr6)
              have hbx : Below w6.heap.size w6 (w6.alloc (.cells #[.string (⟨#[114]⟩ ++ ⟨#[48 + UInt8.ofNat j2]⟩), .int .i64 (1 + (i4 : Int)), .slice (some ⟨g4, 0, none⟩) j c4] 37)) := by go_grown
              have HLEN : Hid (lR.length = j2) := by
                have := (unhide HO6).1
                rw [flat_length] at this
                show _ = _
                omega
              go_wp2_with (at_builtin; refine wpList_append_ags _ rfl _ _ rfl wq.heap.size _ j2 lR rfl ((unhide HO6).alloc _) (some ⟨w6.heap.size, 0, none⟩) 1 1 [⟨nameOf 114 j2, (1 + (i4 : Int)), some ⟨g4, 0, none⟩, j, c4, lo.take j⟩] rfl (ags_one (hIg.later hbx) (by show (nameOf 114 j2).size ≤ 500; rw [nameOf_size]; omega) (by simp; rfl) (by simp) (by simp)) (by omega) (by have := hbr6.size; simp; omega) ?_; intro v7 w7 ho7 hg7; obtain ⟨g7, c7, rfl, _, _⟩ := ho7.form (by omega); have tP7 := (tP6.later hbx).grown hg7 (fun e => by have := (unhide HO6).lt _ e.symm; have := tPr.lt; omega); have q0 := tP7.c1; have r0' := tP7.f1)
              have ho7' : w7.ownsRow wq.heap.size 37 3 (.slice (some ⟨g7, 0, none⟩) (j2 + 1) c7) (j2 + 1) (flat (lR ++ [⟨nameOf 114 j2, (1 + (i4 : Int)), some ⟨g4, 0, none⟩, j, c4, lo.take j⟩])) := ho7
              go_roundw
              case rel =>
                have tR7 := (tR6.later hbx).grown hg7 (fun e => by have := (unhide HO6).lt _ e.symm; have := tRr.lt; omega)
                have hbx7 := (((Below.refl w.heap.size w6).trans (hbx.mono hbw6.size)).grown hg7 (by have := hbw6.size; have := hbx.size; omega) (fun q hq => by have := ((unhide HO6).lt q hq).1; have := tRr.lt; omega)).setCell (p := ⟨w.heap.size + 1, 1, none⟩) (by show w.heap.size ≤ w.heap.size + 1; omega) (.slice (some ⟨g7, 0, none⟩) (j2 + 1) c7)
                have HK : ∀ g ∈ lR ++ [⟨nameOf 114 j2, (1 + (i4 : Int)), some ⟨g4, 0, none⟩, j, c4, lo.take j⟩], Lies (w.heap.size + 1) w6 g := fun g hg => by
                  rcases List.mem_append.1 hg with h1 | h1
                  · exact unhide HL6 g h1
                  · rw [List.mem_singleton] at h1
                    subst h1
                    exact ⟨hIg, hTg, .inr ⟨g4, 0, rfl, by have := unhide HG4; have := tPr2.lt; omega⟩, by rw [nameOf_size]; omega⟩
                have hoL := (owns_later (unhide HOL6) hbx).kept hg7 (by
                  rcases hv : vL.ownBlock with _ | q
                  · exact .inl rfl
                  · right
                    intro e
                    have h1 := unhide HVL q hv
                    have h2 := (unhide HO6).lt q e.symm
                    omega)
                refine ⟨⟨hbw6.trans hbx7, by have := hbr6.size; have := hbx.size; have := hg7.size; simp; omega, tR7.apart (Nat.ne_of_lt (Nat.lt_succ_self _)) 1 (.slice (some ⟨g7, 0, none⟩) (j2 + 1) c7)⟩, j2 + 1, k2 + j + 2, (.slice (some ⟨g7, 0, none⟩) (j2 + 1) c7), lR ++ [⟨nameOf 114 j2, (1 + (i4 : Int)), some ⟨g4, 0, none⟩, j, c4, lo.take j⟩], by omega, by go_num, by go_num, by omega, tP7.set1 (.slice (some ⟨g7, 0, none⟩) (j2 + 1) c7), ownsRow_setCell_below hoL (by show w.heap.size + 1 < w.heap.size + 2; omega) (.slice (some ⟨g7, 0, none⟩) (j2 + 1) c7), fun g hg => ?_, ownsRow_setCell_below ho7' (by have := tPr.lt; show w.heap.size + 1 < _; omega) (.slice (some ⟨g7, 0, none⟩) (j2 + 1) c7), fun g hg => ?_, fun q hq => ?_⟩
                · exact (((unhide HLL6 g hg).later hbx).grown ((unhide HO6).alloc _) hg7).set (Nat.le_refl _) 1 (.slice (some ⟨g7, 0, none⟩) (j2 + 1) c7)
                · exact (((HK g hg).later hbx).grown ((unhide HO6).alloc _) hg7).set (Nat.le_refl _) 1 (.slice (some ⟨g7, 0, none⟩) (j2 + 1) c7)
                · by_cases hqj : q < j2
                  · rw [agAt_snoc_lt _ _ (by have := unhide HLEN; omega)]
                    exact unhide HMAR q hqj
                  · obtain rfl : q = j2 := by omega
                    have e := agAt_snoc lR ⟨nameOf 114 q, (1 + (i4 : Int)), some ⟨g4, 0, none⟩, j, c4, lo.take j⟩
                    rw [unhide HLEN] at e
                    rw [e]
                    exact ⟨rfl, ⟨by show 1 ≤ 1 + (i4 : Int); omega, by show 1 + (i4 : Int) ≤ 2; omega, fun h => by cases h⟩, (unhide HLK).take _, by show j ≤ 6; omega⟩
              case measure => simp [intOf]; omega
        · obtain rfl : j2 = nR := by omega
          have p0 := tPr2.c0
          have p1 := tPr2.c1
          have p2 := tRr2.c0
          have p3 := tRr2.c1
          have p4 := tRr2.f0
          have p5 := tRr2.f1
          have hbF := (hbr2.setCell (p := ⟨w.heap.size, 0, none⟩) (Nat.le_refl _) vL).setCell (p := ⟨w.heap.size, 1, none⟩) (Nat.le_refl _) vR
          obtain ⟨gL, cL, rfl, _, _⟩ := (unhide HOWL).form (by omega)
          obtain ⟨gR, cR, rfl, _, _⟩ := (unhide HOWR).form (by omega)
          have hoL := ownsRow_setCell_below (ownsRow_setCell_below (unhide HOWL) (a := ⟨w.heap.size, 0, none⟩) (by show w.heap.size < w.heap.size + 2; omega) (.slice (some ⟨gL, 0, none⟩) j cL)) (a := ⟨w.heap.size, 1, none⟩) (by show w.heap.size < w.heap.size + 2; omega) (.slice (some ⟨gR, 0, none⟩) j2 cR)
          have hoR := ownsRow_setCell_below (ownsRow_setCell_below (unhide HOWR) (a := ⟨w.heap.size, 0, none⟩) (by have := tPr.lt; show w.heap.size < _; omega) (.slice (some ⟨gL, 0, none⟩) j cL)) (a := ⟨w.heap.size, 1, none⟩) (by have := tPr.lt; show w.heap.size < _; omega) (.slice (some ⟨gR, 0, none⟩) j2 cR)
          obtain ⟨aL, dL, eL, hAL⟩ := Ags.of_owns hoL (fun g hg => ⟨(((unhide HLIL g hg).set (Nat.le_succ _) 0 _).set (Nat.le_succ _) 1 _).ints, by have := (unhide HLIL g hg).nm; unfold maxLen; omega⟩)
          obtain ⟨aR, dR, eR, hAR⟩ := Ags.of_owns hoR (fun g hg => ⟨(((unhide HLIR g hg).set (Nat.le_succ _) 0 _).set (Nat.le_succ _) 1 _).ints, by have := (unhide HLIR g hg).nm; unfold maxLen; omega⟩)
          cases eL
          cases eR
          clear hoL hoR
          go_wp2
          refine bodyPost_ret (v := .agg #[.slice (some ⟨gL, 0, none⟩) j cL, .slice (some ⟨gR, 0, none⟩) j2 cR]) (by simp [results, Try.results9, go_sem, p2, p3]) rfl ⟨_, j, cL, lL, _, j2, cR, lR, rfl, hAL, hAR, hnL0, hnLm, hnR0, hnRm, unhide HMADE, unhide HMAR, hbF⟩
end Go.Proofs.Ytodbnjainpjkcaa
