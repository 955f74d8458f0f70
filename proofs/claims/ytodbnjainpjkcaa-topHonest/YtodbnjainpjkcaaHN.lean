import Derived.Test.YtodbnjainpjkcaaSA
import Derived.Test.YtodbnjainpjkcaaHO
import Derived.StillTailTactics
namespace Go.Proofs.Ytodbnjainpjkcaa
open Go.RowKit
theorem quiet_skip {Pr : Program} {ops : Array Oper} {C : World → Prop} {Q : Act → Prop} {a : Act} {o : Oper} {rest : List Oper} (hw : Region.wanted o (yielded ops a.tmps) = false) (h : wpQuiet Pr ops C Q rest (a.put o.dst undef)) : wpQuiet Pr ops C Q (o :: rest) a := by
  unfold wpQuiet
  rw [if_neg (by rw [hw]; exact Bool.false_ne_true)]
  exact h
theorem own_emptyA (W : World) (base : Nat) (h : base ≤ W.heap.size) : (W.alloc (.cells #[] 37)).ownsRow base 37 3 (.slice (some ⟨W.heap.size, 0, none⟩) 0 0) 0 (flat []) :=
  World.ownsRow_made (base := base) (e := 37) (size := 3) W #[] 0 h (by unfold maxLen; omega) rfl
theorem own_emptyA2 (W : World) (o : Obj) (base : Nat) (h : base ≤ W.heap.size) : ((W.alloc o).alloc (.cells #[] 37)).ownsRow base 37 3 (.slice (some ⟨W.heap.size + 1, 0, none⟩) 0 0) 0 (flat []) := by
  have h2 := own_emptyA (W.alloc o) base (by rw [World.size_alloc]; omega)
  rw [World.size_alloc] at h2
  exact h2
theorem Two.drew {W : World} {p : Nat} {x y : Value} (h : Two W p x y) : Two W.drew p x y := ⟨h.c0, h.c1, h.f0, h.f1⟩
theorem own_ne {W : World} {base n g c : Nat} {xs : List Value} (ho : W.ownsRow base 37 3 (.slice (some ⟨g, 0, none⟩) n c) n xs) {Q : Nat} {arr : Array Value} {fz : Nat × Nat} (hq : W.heap[Q]? = some (.cells arr 26 fz)) : Q ≠ g := by
  intro e
  subst e
  rcases ho.2 with ⟨e, _⟩ | ⟨g, cap, cur, e, _, hgg, _⟩
  · cases e
  · cases e
    rw [hgg] at hq
    simp at hq
theorem Ints.setFar {W : World} {a : Option Addr} {n c : Nat} {l : List Int} (h : Ints W a n c l) {p : Addr} (v : Value) (hne : ∀ ad, a = some ad → p.block ≠ ad.block) : Ints (W.setCell p v) a n c l := by
  obtain ⟨h1, h2, h3, h4⟩ := h
  refine ⟨h1, h2, h3, ?_⟩
  rcases h4 with h0 | ⟨b, off, rfl, hb, hc⟩
  · exact .inl h0
  · exact .inr ⟨b, off, rfl, by rw [World.size_setCell]; exact hb, fun j hj => (World.cell?_setCell_far W p ⟨b, off + j, none⟩ v (show p.block ≠ b from hne ⟨b, off, none⟩ rfl)).trans (hc j hj)⟩
/-- One's likes are written anew. -/
theorem Ags.setLikes {W : World} {g n c : Nat} {l : List Ag} (h : Ags W (some ⟨g, 0, none⟩) n c l) {who : Nat} (hw : who < n) {la : Option Addr} {ln lc : Nat} {likes : List Int}
    (hm : ∀ x ∈ l, Ints (W.setCell ⟨g, who * 3 + 2, none⟩ (.slice la ln lc)) x.la x.ln x.lc x.likes) (hI : Ints (W.setCell ⟨g, who * 3 + 2, none⟩ (.slice la ln lc)) la ln lc likes) :
    Ags (W.setCell ⟨g, who * 3 + 2, none⟩ (.slice la ln lc)) (some ⟨g, 0, none⟩) n c (l.set who ⟨(agAt l who).name, (agAt l who).room, la, ln, lc, likes⟩) := by
  have hwl : who < l.length := by have := h.1; omega
  obtain ⟨h1, h2, h3, h4, h5⟩ := h
  refine ⟨by rw [List.length_set]; exact h1, h2, h3, fun x hx => ?_, ?_⟩
  · rcases List.mem_or_eq_of_mem_set hx with c | c
    · exact ⟨hm x c, (h4 x c).2⟩
    · subst c
      exact ⟨hI, (h4 (agAt l who) (by unfold agAt; rw [List.getElem?_eq_getElem hwl]; simp)).2⟩
  · rcases h5 with h0 | ⟨b, off, e, hb, hc⟩
    · omega
    · cases e
      refine .inr ⟨g, 0, rfl, by rw [World.size_setCell]; exact hb, fun j hj => ?_⟩
      obtain ⟨c1, c2, c3⟩ := hc j hj
      obtain ⟨d1, d2, d3⟩ := hc who hw
      rw [agAt_set _ _ _ hwl]
      refine ⟨?_, ?_, ?_⟩
      · rw [World.cell?_setCell_other _ _ _ _ (by intro e; injection e with e1 e2; omega), c1]
        by_cases e : j = who
        · rw [if_pos e, e]
        · rw [if_neg e]
      · rw [World.cell?_setCell_other _ _ _ _ (by intro e; injection e with e1 e2; omega), c2]
        by_cases e : j = who
        · rw [if_pos e, e]
        · rw [if_neg e]
      · by_cases e : j = who
        · subst e
          rw [if_pos rfl, Nat.zero_add]
          rw [Nat.zero_add] at c3
          exact World.cell?_setCell_same _ _ _ c3
        · rw [World.cell?_setCell_other _ _ _ _ (by intro e'; injection e' with e1 e2; omega), c3, if_neg e]
theorem box_set {w2 w3 : World} {Q g3 c3 nL : Nat} {lL : List Ag} {x y : Value} {arr : Array Value} {fz : Nat × Nat} (tq : Two w3 Q x y) (kq : w3.heap[Q]? = some (.cells arr 26 fz)) (ho : w3.ownsRow w2.heap.size 37 3 (.slice (some ⟨g3, 0, none⟩) nL c3) nL (flat lL)) (hQ : w2.heap.size ≤ Q) (hb : Below w2.heap.size w2 w3) (v2 : Value) :
    ∃ Q' g' c', Value.pointer (some ⟨Q, 0, none⟩) = .pointer (some ⟨Q', 0, none⟩) ∧ Two ((w3.setCell ⟨Q, 0, none⟩ (.slice (some ⟨g3, 0, none⟩) nL c3)).setCell ⟨Q, 1, none⟩ v2) Q' (.slice (some ⟨g', 0, none⟩) nL c') v2 ∧ ((w3.setCell ⟨Q, 0, none⟩ (.slice (some ⟨g3, 0, none⟩) nL c3)).setCell ⟨Q, 1, none⟩ v2).ownsRow w2.heap.size 37 3 (.slice (some ⟨g', 0, none⟩) nL c') nL (flat lL) ∧ Q' ≠ g' ∧ w2.heap.size ≤ Q' ∧ Below w2.heap.size w2 ((w3.setCell ⟨Q, 0, none⟩ (.slice (some ⟨g3, 0, none⟩) nL c3)).setCell ⟨Q, 1, none⟩ v2) := by
  have hne := own_ne ho kq
  refine ⟨Q, g3, c3, rfl, (tq.set0 _).set1 _, ownsRow_setCell_other (ownsRow_setCell_other ho (fun e => hne (Option.some.inj e).symm) _) (fun e => hne (Option.some.inj e).symm) _, hne, hQ, (hb.setCell (p := ⟨Q, 0, none⟩) hQ _).setCell (p := ⟨Q, 1, none⟩) hQ _⟩
theorem box_new {w2 w3 : World} {g3 c3 nL : Nat} {lL : List Ag} (ho : w3.ownsRow w2.heap.size 37 3 (.slice (some ⟨g3, 0, none⟩) nL c3) nL (flat lL)) (hg : g3 < w3.heap.size) (hb : Below w2.heap.size w2 w3) (v2 : Value) :
    ∃ Q' g' c', Value.pointer (some ⟨w3.heap.size, 0, none⟩) = .pointer (some ⟨Q', 0, none⟩) ∧ Two (w3.alloc (.cells #[.slice (some ⟨g3, 0, none⟩) nL c3, v2] 26)) Q' (.slice (some ⟨g', 0, none⟩) nL c') v2 ∧ (w3.alloc (.cells #[.slice (some ⟨g3, 0, none⟩) nL c3, v2] 26)).ownsRow w2.heap.size 37 3 (.slice (some ⟨g', 0, none⟩) nL c') nL (flat lL) ∧ Q' ≠ g' ∧ w2.heap.size ≤ Q' ∧ Below w2.heap.size w2 (w3.alloc (.cells #[.slice (some ⟨g3, 0, none⟩) nL c3, v2] 26)) :=
  ⟨w3.heap.size, g3, c3, rfl, ⟨by simp, by simp, by simp, by simp⟩, ho.alloc _, Nat.ne_of_gt hg, hb.size, hb.alloc hb.size _⟩
set_option maxRecDepth 100000 in
set_option maxHeartbeats 8000000 in
/-- TOPHONEST'S WALK. -/
theorem honest_any (a : Option Addr) (m c : Nat) (raw : List Int) (li ri wi : Int) (ao : Option Addr) (mo co : Nat) (ro : List Int) (w : World) (h : Ints w a m c raw) (hr : ∀ x ∈ raw, InR x) (hli : InR li) (hri : InR ri) (hwi : InR wi) (ho : Ints w ao mo co ro) (hro : ∀ x ∈ ro, InR x) (hmx : m ≤ 140737488351232) (hmo : mo ≤ 140737488351232) :
    Calls Try.prog 7 #[.slice a m c, .int .i64 li, .int .i64 ri, .int .i64 wi, .slice ao mo co] w fun e w' => e = .returned (.bool true) ∧ Below w.heap.size w w' := by
  have HR := hide hr
  have HRO := hide hro
  clear hr hro
  by_cases hbig : 256 < m + mo
  · have hd : decide (256 < (m : Int) + (mo : Int)) = true := by simp; omega
    go_enter Try.func7, Try.ntmps7
    go_wp2
    go_ret
    exact ⟨rfl, Below.refl _ _⟩
  have hd : decide (256 < (m : Int) + (mo : Int)) = false := by simp; omega
  go_enter Try.func7, Try.ntmps7
  go_wp2_with fail
  refine (sides_any a m c raw li ri 6 false w h (unhide HR) hli hri (by omega) (by omega) (by omega)).mono ?_
  rintro e w1 ⟨aL, nL, cL, lL, aR, nR, cR, lR, rfl, hL, hR, hnL0, h1, hnR0, h2, m1, m2, hb1⟩
  have HFit := hide (made_fit hL.1 hR.1 (by omega) (by omega) m1 m2)
  have HZ := hide (made_match (unhide HFit) fun j hj => (m1 j (by have := hL.1; omega)).room.2.2 rfl)
  have HFL := hide (made_ln hL.1 m1)
  have HFR := hide (made_ln hR.1 m2)
  have HRM : Hid (∀ j, j < lL.length → (agAt lL j).room = 1) := fun j hj => (m1 j (by have := hL.1; omega)).room.2.2 rfl
  clear m1 m2
  have ho1 := ho.later hb1
  go_wp2_with fail
  obtain ⟨wA, hwA⟩ : ∃ y, y = w1.alloc (.cells #[.slice aL nL cL, .slice aR nR cR] 26) := ⟨_, rfl⟩
  have hbA : Below w1.heap.size w1 wA := by rw [hwA]; go_grown
  have p0 : wA.cell? ⟨w1.heap.size, 0, none⟩ = some (.slice aL nL cL) := by rw [hwA]; simp
  have p1 : wA.cell? ⟨w1.heap.size, 1, none⟩ = some (.slice aR nR cR) := by rw [hwA]; simp
  rw [← hwA]
  have HW := hide hwA
  clear hwA
  refine (pick_any wi nL hwi hnL0 (by omega) wA).mono ?_
  rintro e w2 ⟨who, hwho, rfl, hw2⟩
  subst w2
  go_wp2_with fail
  refine (left_ok aL nL cL lL aR nR cR lR wA (hL.later hbA) (hR.later hbA) (unhide HFR) (unhide HZ)).mono ?_
  rintro e w2 ⟨g2, ws, asked, rfl, hI2, hg2le, hA2, hF2, hb2⟩
  have hg2lt : g2 < w2.heap.size := by
    obtain ⟨b, o, e, hb, _⟩ := hI2.cellAt hnL0
    cases e
    exact hb
  have hbw2 := hbA.trans (hb2.mono hbA.size)
  have p0b := (hb2.cell (p := ⟨w1.heap.size, 0, none⟩) (World.block_lt_of_cell? wA _ p0)).trans p0
  have p1b := (hb2.cell (p := ⟨w1.heap.size, 1, none⟩) (World.block_lt_of_cell? wA _ p1)).trans p1
  have HP0 := hide p0
  clear p0 p1
  have HIA := hide (hA2.inv (match_may (unhide HZ)))
  have HBA : Hid (∀ mm, Stab lL lR mm → ∀ l, l < lL.length → gr lL l (atL ws l) ≤ gr lL l (atL mm l)) := fun mm hm l hl => (unhide HIA).best hF2 hm hl
  have HSA := hide ((unhide HIA).stab hF2)
  clear hA2 hF2
  have hL2 := hL.later hbw2
  have hR2 := hR.later hbw2
  unfold two
  go_wp2_with fail
  go_cut [14] from 38 to 44 (fun s14 wc => ∃ Q g3 c3, s14 = .pointer (some ⟨Q, 0, none⟩) ∧ Two wc Q (.slice (some ⟨g3, 0, none⟩) nL c3) (.slice aR nR cR) ∧ wc.ownsRow w2.heap.size 37 3 (.slice (some ⟨g3, 0, none⟩) nL c3) nL (flat lL) ∧ Q ≠ g3 ∧ w2.heap.size ≤ Q ∧ Below w2.heap.size w2 wc)
  case first =>
    have hbX : Below w2.heap.size w2 (w2.alloc (.cells #[] 37)) := by go_grown
    have hltP : w1.heap.size < w2.heap.size := World.block_lt_of_cell? w2 _ p0b
    have e0 : (w2.alloc (.cells #[] 37)).drew.cell? ⟨w1.heap.size, 0, none⟩ = some (.slice aL nL cL) := (hbX.drew.cell (p := ⟨w1.heap.size, 0, none⟩) hltP).trans p0b
    have e1 : (w2.alloc (.cells #[] 37)).drew.cell? ⟨w1.heap.size, 1, none⟩ = some (.slice aR nR cR) := (hbX.drew.cell (p := ⟨w1.heap.size, 1, none⟩) hltP).trans p1b
    have e2 : w2.drew.cell? ⟨w1.heap.size, 0, none⟩ = some (.slice aL nL cL) := p0b
    have e3 : w2.drew.cell? ⟨w1.heap.size, 1, none⟩ = some (.slice aR nR cR) := p1b
    obtain ⟨wY, hwY⟩ : ∃ y, y = ((w2.alloc (.cells #[] 37)).alloc (.cells #[.slice none 0 0, .slice none 0 0] 26)) := ⟨_, rfl⟩
    obtain ⟨wZ, hwZ⟩ : ∃ y, y = ((w2.alloc (.cells #[.slice none 0 0, .slice none 0 0] 26)).alloc (.cells #[] 37)) := ⟨_, rfl⟩
    have hbY : Below w2.heap.size w2 wY := by rw [hwY]; go_grown
    have hbZ : Below w2.heap.size w2 wZ := by rw [hwZ]; go_grown
    have tY : Two wY (w2.heap.size + 1) (.slice none 0 0) (.slice none 0 0) := by rw [hwY]; exact ⟨by simp, by simp, by simp, by simp⟩
    have tZ : Two wZ w2.heap.size (.slice none 0 0) (.slice none 0 0) := by rw [hwZ]; exact ⟨by simp, by simp, by simp, by simp⟩
    have kY : wY.heap[w2.heap.size + 1]? = some (.cells #[.slice none 0 0, .slice none 0 0] 26 (0, 0)) := by rw [hwY]; show ((w2.heap.push _).push _)[w2.heap.size + 1]? = _; rw [show w2.heap.size + 1 = (w2.heap.push (Obj.cells #[] 37)).size by simp, Array.getElem?_push_size]
    have kZ : wZ.heap[w2.heap.size]? = some (.cells #[.slice none 0 0, .slice none 0 0] 26 (0, 0)) := by rw [hwZ]; show ((w2.heap.push _).push _)[w2.heap.size]? = _; rw [Array.getElem?_push, if_neg (by simp), Array.getElem?_push_size]
    have sY : wY.heap.size = w2.heap.size + 2 := by rw [hwY]; simp
    have sZ : wZ.heap.size = w2.heap.size + 2 := by rw [hwZ]; simp
    rw [hwY] at hbY tY kY sY
    rw [hwZ] at hbZ tZ kZ sZ
    have HKY := hide kY
    have HKZ := hide kZ
    have HSY := hide sY
    have HSZ := hide sZ
    clear kY kZ sY sZ
    clear hwY hwZ
    have y0 := (hbY.drew.cell (p := ⟨w1.heap.size, 0, none⟩) hltP).trans p0b
    have y1 := (hbY.drew.cell (p := ⟨w1.heap.size, 1, none⟩) hltP).trans p1b
    have z0 := (hbZ.drew.cell (p := ⟨w1.heap.size, 0, none⟩) hltP).trans p0b
    have z1 := (hbZ.drew.cell (p := ⟨w1.heap.size, 1, none⟩) hltP).trans p1b
    have HL2 := hide hL2
    have HTY := hide tY
    have HTZ := hide tZ
    clear tY tZ
    go_region_law (first
      | (refine step_append_ags _ rfl (.tmp 38) (.tmp 40) rfl w2.heap.size _ 0 [] (by simp [Act.eval]; rfl) (by first | exact own_emptyA _ _ (by simp) | exact (own_emptyA _ _ (by simp)).alloc _ | exact own_emptyA2 _ _ _ (by simp)) aL nL cL lL (by simp [Act.eval]) ((unhide HL2).later (by first | exact hbX | exact hbX.drew | exact hbY | exact hbY.drew | exact hbZ | exact hbZ.drew)) (by omega) (by simp <;> omega) ?_
         intro v3 w3 ho3 hg3
         have hb3 : Below w2.heap.size w2 w3 := Below.grown (by first | exact hbX | exact hbX.drew | exact hbY | exact hbY.drew | exact hbZ | exact hbZ.drew) hg3 (by simp <;> omega) (fun q hq => by cases hq; simp <;> omega)
         have d1 : w3.cell? ⟨w1.heap.size, 1, none⟩ = some (.slice aR nR cR) := (hb3.cell (p := ⟨w1.heap.size, 1, none⟩) hltP).trans p1b
         have hlt3 : w1.heap.size < w3.heap.size := World.block_lt_of_cell? w3 _ d1
         obtain ⟨g3, c3, rfl, _, hg3lt⟩ := ho3.form (by omega)
         have d2 : (w3.alloc (.cells #[.slice none 0 0, .slice none 0 0] 26)).cell? ⟨w1.heap.size, 1, none⟩ = some (.slice aR nR cR) := (World.cell?_alloc_past _ _ _ hlt3).trans d1
         try (have tq := Two.grown (unhide HTY) hg3 (by simp [Value.ownBlock]); have k0 := tq.c0; have k1 := tq.c1; have k2 := tq.f0; have k3 := tq.f1; have kq := (hg3.block (w2.heap.size + 1) (by simp <;> omega) (by simp [Value.ownBlock])).trans (unhide HKY))
         try (have tq := Two.grown (unhide HTY).drew hg3 (by simp [Value.ownBlock]); have k0 := tq.c0; have k1 := tq.c1; have k2 := tq.f0; have k3 := tq.f1; have kq := (hg3.block (w2.heap.size + 1) (by simp <;> omega) (by simp [Value.ownBlock])).trans (unhide HKY))
         try (have tq := Two.grown (unhide HTZ) hg3 (by simp [Value.ownBlock]); have k0 := tq.c0; have k1 := tq.c1; have k2 := tq.f0; have k3 := tq.f1; have kq := (hg3.block w2.heap.size (by simp <;> omega) (by simp [Value.ownBlock])).trans (unhide HKZ))
         try (have tq := Two.grown (unhide HTZ).drew hg3 (by simp [Value.ownBlock]); have k0 := tq.c0; have k1 := tq.c1; have k2 := tq.f0; have k3 := tq.f1; have kq := (hg3.block w2.heap.size (by simp <;> omega) (by simp [Value.ownBlock])).trans (unhide HKZ))))
    all_goals
      go_wp2_with fail
      go_meet
      case rel =>
        have ho3' : w3.ownsRow w2.heap.size 37 3 (.slice (some ⟨g3, 0, none⟩) nL c3) nL (flat lL) := by simpa using ho3
        first
          | exact box_new ho3' hg3lt hb3 _
          | exact box_set tq kq ho3' (by first | exact Nat.le_refl _ | exact Nat.le_succ _) hb3 _
  case rest =>
    obtain ⟨Q, g3, c3, rfl, tQ, ho3, hQg, hQ2, hbc⟩ := hcut
    have hbwc := hbw2.trans (hbc.mono hbw2.size)
    have p0c := (hbc.cell (p := ⟨w1.heap.size, 0, none⟩) (World.block_lt_of_cell? w2 _ p0b)).trans p0b
    have p1c := (hbc.cell (p := ⟨w1.heap.size, 1, none⟩) (World.block_lt_of_cell? w2 _ p1b)).trans p1b
    have hI2c := hI2.later hbc
    clear p0b p1b hI2
    go_wp2_with fail
    refine (perm_any ao mo co ro 1 nR wc (ho1.later hbwc) (unhide HRO) (by omega) (by omega) (by omega) (by omega)).mono ?_
    rintro e w4 ⟨v4, lo, rfl, ho4, hp4, hb4⟩
    obtain ⟨a4, c4, hv4, hI4, hg4⟩ := Ints.of_owns ho4 (by omega)
    subst hv4
    have hT4 := T3.of_owns ho4
    rcases hg4 with h0 | ⟨g4, hg4, hlt4, rfl⟩
    · omega
    have hc4 := hI4.2.1
    have hcm4 := hI4.2.2.1
    unfold maxLen at hcm4
    have HLK := hide (likes_perm hp4).1
    have hbw4 := hbwc.trans (hb4.mono hbwc.size)
    have tQ4 := tQ.later hb4
    have hoq := owns_later ho3 hb4
    have p0d := (hb4.cell (p := ⟨w1.heap.size, 0, none⟩) (World.block_lt_of_cell? wc _ p0c)).trans p0c
    have p1d := (hb4.cell (p := ⟨w1.heap.size, 1, none⟩) (World.block_lt_of_cell? wc _ p1c)).trans p1c
    have hI2d := hI2c.later hb4
    clear p0c p1c hI2c ho4 hp4
    have hin := atI_in (unhide HRO) 0
    have C1 := hide (at_val ao mo co ro 0 w4.drew (ho1.later hbw4.drew) (by omega) (by omega) (by omega))
    generalize atI ro 0 = y at *
    have C2 := hide (pick_val y (nR + 1) hin (by omega) (by omega) w4.drew)
    have hpl := pickI_lt y (nR + 1) (by omega)
    generalize pickI y (nR + 1) = t at *
    have q0 : w4.drew.cell? ⟨Q, 0, none⟩ = _ := tQ4.c0
    obtain ⟨a5, c5, he5, hAq⟩ := Ags.of_owns hoq (fun g hg => ⟨((hL.2.2.2.1 g hg).1).later hbw4, (hL.2.2.2.1 g hg).2⟩)
    cases he5
    obtain ⟨b5, o5, e5, hb5, s1, s2, s3⟩ := hAq.at hwho
    cases e5
    rw [Nat.zero_add] at s1 s2 s3
    have f3 := hoq.frozenAt (who * 3 + 2)
    have s3' : w4.drew.cell? ⟨g3, who * 3 + 2, none⟩ = _ := s3
    have f3' : w4.drew.frozen? ⟨g3, who * 3 + 2, none⟩ = false := f3
    have z0 : IntKind.i64.wrap ((nR : Int) + 1) = (nR : Int) + 1 := wrap_in _ (by omega) (by omega)
    have z1 : (0 : Int) ≤ (t : Int) := by omega
    have z2 : (t : Int) ≤ (c4 : Int) := by omega
    have z3 : (0 : Int) ≤ (who : Int) := by omega
    have z4 : (who : Int) < (nL : Int) := by omega
    rw [show (((nR + 1 : Nat) : Int)) = (nR : Int) + 1 by omega] at C2
    have hg3P : w1.heap.size < g3 := by
      have h1 : w2.heap.size ≤ g3 := (ho3.lt g3 rfl).1
      have h2 : w1.heap.size < wA.heap.size := World.block_lt_of_cell? wA _ (unhide HP0)
      have h3 := hb2.size
      exact Nat.lt_of_lt_of_le (Nat.lt_of_lt_of_le h2 h3) h1
    have hbS := hbw4.setCell (p := ⟨g3, who * 3 + 2, none⟩) (Nat.le_of_lt hg3P) (.slice (some ⟨g4, 0, none⟩) t c4)
    have hg34 : g3 ≠ g4 := by have := (ho3.lt g3 rfl).2; omega
    have hAs := Ags.setLikes hAq hwho (la := some ⟨g4, 0, none⟩) (ln := t) (lc := c4) (likes := lo.take t) (fun x hx => ((hL.2.2.2.1 x hx).1).later hbS) ((hI4.take t (by omega)).setFar _ (fun ad e => by cases e; exact hg34))
    have tQS := tQ4.apart hQg (who * 3 + 2) (.slice (some ⟨g4, 0, none⟩) t c4)
    have p0S := (World.cell?_setCell_far w4 ⟨g3, who * 3 + 2, none⟩ ⟨w1.heap.size, 0, none⟩ (.slice (some ⟨g4, 0, none⟩) t c4) (Nat.ne_of_gt hg3P)).trans p0d
    have hg23 : g3 ≠ g2 := by
      have h1 : w2.heap.size ≤ g3 := (ho3.lt g3 rfl).1
      exact Nat.ne_of_gt (Nat.lt_of_lt_of_le hg2lt h1)
    have hI2S := hI2d.setFar (p := ⟨g3, who * 3 + 2, none⟩) (.slice (some ⟨g4, 0, none⟩) t c4) (fun ad e => by cases e; exact hg23)
    have r0 : (w4.setCell ⟨g3, who * 3 + 2, none⟩ (.slice (some ⟨g4, 0, none⟩) t c4)).drew.cell? ⟨Q, 0, none⟩ = _ := tQS.c0
    have r1 : (w4.setCell ⟨g3, who * 3 + 2, none⟩ (.slice (some ⟨g4, 0, none⟩) t c4)).drew.cell? ⟨Q, 1, none⟩ = _ := tQS.c1
    go_wp2_with fail
    refine wp_region_still_tail 13 (by kernel_rfl) (by kernel_rfl) ?_
    simp only [List.take_succ_cons, List.take_zero, List.drop_succ_cons, List.drop_zero]
    show wpStill Try.prog _ w4.drew (fun a' => wpList Try.prog _ _ _ a' w4.drew) _ _
    repeat (first | still_step | still_call (unhide C1) | still_call (unhide C2))
    refine wpStill_nil ?_
    go_wp2_with fail
    obtain ⟨wS, hwS⟩ : ∃ y, y = w4.setCell ⟨g3, who * 3 + 2, none⟩ (.slice (some ⟨g4, 0, none⟩) t c4) := ⟨_, rfl⟩
    rw [← hwS] at hbS hAs tQS p0S hI2S ⊢
    clear r0 r1
    have HWS := hide hwS
    clear hwS
    have hFQ := (unhide HFit).set (g := ⟨(agAt lL who).name, (agAt lL who).room, some ⟨g4, 0, none⟩, t, c4, lo.take t⟩) (show who < lL.length by have := hL.1; omega) rfl rfl (by have e := hR.1; rw [← e]; exact (unhide HLK).take t)
    have hsame : Same lL (lL.set who ⟨(agAt lL who).name, (agAt lL who).room, some ⟨g4, 0, none⟩, t, c4, lo.take t⟩) who := ⟨by simp, fun j hj => by rw [agAt_set _ _ _ (show who < lL.length by have := hL.1; omega), if_neg hj]⟩
    obtain ⟨lQ, hlQ⟩ : ∃ y, y = lL.set who ⟨(agAt lL who).name, (agAt lL who).room, some ⟨g4, 0, none⟩, t, c4, lo.take t⟩ := ⟨_, rfl⟩
    have hzQ : matchE lQ lR = 0 := by
      rw [hlQ]
      refine made_match hFQ fun j hj => ?_
      rw [List.length_set] at hj
      rw [agAt_set _ _ _ (show who < lL.length by have := hL.1; omega)]
      by_cases e : j = who
      · rw [if_pos e]; exact unhide HRM who (by have := hL.1; omega)
      · rw [if_neg e]; exact unhide HRM j hj
    rw [← hlQ] at hAs hFQ hsame
    clear hlQ
    have HFQ := hide hFQ
    have HSM := hide hsame
    have HZQ := hide hzQ
    clear hFQ hsame hzQ hAq hI4 HLK
    clear q0 s1 s2 s3 s3' f3 f3'
    have hbSd := hbS.drew
    refine (left_ok (some ⟨g3, 0, none⟩) nL c3 lQ aR nR cR lR wS.drew (hAs.later (Below.refl _ _).drew) (hR.later hbSd) (unhide HFR) (unhide HZQ)).mono ?_
    rintro e w5 ⟨g6, bs, asked6, rfl, hI6, _, hA6, hF6, hb6⟩
    have HSB := hide ((hA6.inv (match_may (unhide HZQ))).stab hF6)
    clear hA6 hF6
    have hbw5 := hbSd.trans (hb6.mono hbSd.size)
    have p0f := (hb6.cell (p := ⟨w1.heap.size, 0, none⟩) (World.block_lt_of_cell? wS _ p0S)).trans p0S
    have hI2f := (hI2S.later (Below.refl _ _).drew).later hb6
    have hL5 := hL.later hbw5
    obtain ⟨bL, oL, rfl, hbL, s1, s2, s3⟩ := hL5.at hwho
    have hIL := (hL5.mem hwho).1
    obtain ⟨b2, o2, e2, _, hcell2⟩ := hI2f.cellAt hnL0
    cases e2
    obtain ⟨b6, o6, e6, _, hcell6⟩ := hI6.cellAt hnL0
    cases e6
    have x1 := hcell2 who hwho
    have x2 := hcell6 who hwho
    rw [Nat.zero_add] at x1 x2
    clear hcell2 hcell6
    have hwL : who < lL.length := by have := hL.1; omega
    have hM := match_may (unhide HZ)
    have g1 := gap_gr hM (unhide HSA) hwL
    have HGB : Hid (gapI (agAt lL who).likes (atL ws who) ≤ ((agAt lL who).likes.length : Int)) := by
      show _ ≤ _
      have := idx_bounds (agAt lL who).likes (atL ws who)
      unfold gapI
      split <;> omega
    have HHO : Hid (0 ≤ atL bs who → 0 ≤ idxFrom (agAt lL who).likes (atL bs who) 0 → gapI (agAt lL who).likes (atL ws who) ≤ gapI (agAt lL who).likes (atL bs who)) := fun e1 e2 => by
      obtain ⟨r, hr⟩ : ∃ r : Nat, atL bs who = r := ⟨(atL bs who).toNat, by omega⟩
      have hk : 0 ≤ rkL lL who r := by unfold rkL; rw [← hr]; exact e2
      have := honest (unhide HFit) (unhide HSM) hwL (fun mm hm => unhide HBA mm hm who hwL) (unhide HSB) hr hk
      rw [g1]
      rw [gr_in hk] at this
      unfold gapI
      rw [if_neg (by omega), hr]
      exact this
    have HNB : Hid (atL bs who < 0 → gapI (agAt lL who).likes (atL bs who) = ((agAt lL who).likes.length : Int)) := fun e1 => by
      have hrg := (unhide HSB).rng who (by rw [(unhide HSM).1]; exact hwL)
      have e2 : atL bs who = -1 := by omega
      rw [e2]
      unfold gapI
      rw [if_pos]
      rcases idxFrom_spec (agAt lL who).likes (-1) _ 0 rfl with ⟨e, _⟩ | ⟨k, _, hk, he, _, _⟩
      · rw [e]; omega
      · have := (likes_left hM hwL hk).1
        unfold atL at this
        omega
    clear g1 hM
    unfold atL at HGB HHO HNB
    generalize agAt lL who = G at *
    obtain ⟨nm, room, la, ln, lc, likes⟩ := G
    simp only at s1 s2 s3 hIL HGB HHO HNB
    generalize ws[who]?.getD 0 = x at *
    generalize bs[who]?.getD 0 = y at *
    have IL : Hid (∀ d os, Ints (Sort.grow (redrawn w5 d) os) la ln lc likes) := fun d os => hIL.later (below_regrown w5 d os)
    have C1 := hide (fun d os => Calls.regrown_of ((place_any la ln lc likes y _ (unhide IL d os)).mono fun e w' ⟨h1, h2⟩ => (⟨h1, by rw [h2]; exact Below.refl _ _⟩ : _ ∧ Below (World.heap (Sort.grow (redrawn w5 d) os)).size _ w')))
    have C2 := hide (fun d os => Calls.regrown_of (gap_any nm room la ln lc likes x _ (unhide IL d os)))
    have C3 := hide (fun d os => Calls.regrown_of (gap_any nm room la ln lc likes y _ (unhide IL d os)))
    have p0q := cell_regrown p0f
    have q1q := cell_regrown s1
    have q2q := cell_regrown s2
    have q3q := cell_regrown s3
    have x1q := cell_regrown x1
    have x2q := cell_regrown x2
    have hne : ((nL : Int) != (nL : Int)) = false := by simp
    clear s1 s2 s3 x1 x2 hIL IL hL5 hI2f hI6 HSB HSM HZQ HFQ HSA HBA HIA HFit
    unfold two
    by_cases hy : 0 ≤ y
    · have dy : decide (0 ≤ y) = true := decide_eq_true hy
      by_cases hx : idxFrom likes y 0 < 0
      · have dx : decide (idxFrom likes y 0 < 0) = true := decide_eq_true hx
        clear HHO HGB HNB
        go_wp2_with fail
        clear p0f
        try clear hQg
        try clear hg34
        try clear hg23
        try clear hg3P
        try clear hg2lt
        try clear hg2le
        try clear hbig
        try clear hd
        try clear hli
        try clear hri
        try clear hwi
        try clear h
        try clear ho
        try clear ho1
        try clear HR
        try clear HRO
        try clear hmx
        try clear hmo
        try clear hb1'
        try clear hpl
        try clear hin
        try clear z0
        try clear z1
        try clear z2
        try clear hc4
        try clear hcm4
        try clear hlt4
        try clear hg4
        try clear hT4
        try clear hQ2
        try clear hbc
        try clear hb4
        try clear hb5
        try clear tQ
        try clear tQ4
        try clear tQS
        try clear hoq
        try clear ho3
        try clear hAs
        try clear hbS
        try clear hbSd
        try clear hb6
        try clear hI2d
        try clear hI2S
        try clear p0d
        try clear p1d
        try clear p0S
        try clear HWS
        try clear HW
        try clear HP0
        try clear hb2
        try clear hbA
        try clear hbw2
        try clear hbwc
        try clear hbw4
        try clear HRM
        try clear HFL
        try clear HFR
        try clear hL2
        try clear hR2
        try clear hL
        try clear hR
        try clear hbL
        try clear h1
        try clear h2
        try clear hwL
        try clear hnR0
        try clear HZ
        try clear C1'
        refine wp_region_quiet_below (by kernel_rfl) (by kernel_rfl) ?_
        iterate 20 (quiet_step (first | with_reducible exact unhide C1 _ _ | with_reducible exact unhide C2 _ _ | with_reducible exact unhide C3 _ _))
        iterate 21 (with_reducible refine quiet_skip (by kernel_rfl) ?_)
        iterate 2 (quiet_step (first | with_reducible exact unhide C1 _ _ | with_reducible exact unhide C2 _ _ | with_reducible exact unhide C3 _ _))
        refine wpQuiet_nil ?_
        intro _ hw'
        obtain ⟨⟨dq2, osq2⟩, hw''⟩ := hw'
        subst hw''
        have hbq2 := below_regrown w5 dq2 osq2
        go_wp2
        go_ret
        have hbF := hbw5.trans (hbq2.mono hbw5.size)
        exact ⟨rfl, hb1.trans (hbF.mono hb1.size)⟩
      · have dx : decide (idxFrom likes y 0 < 0) = false := decide_eq_false hx
        have dl : decide (gapI likes x ≤ gapI likes y) = true := decide_eq_true (unhide HHO hy (by omega))
        clear HHO HGB HNB hx
        go_wp2_with fail
        clear p0f
        try clear hQg
        try clear hg34
        try clear hg23
        try clear hg3P
        try clear hg2lt
        try clear hg2le
        try clear hbig
        try clear hd
        try clear hli
        try clear hri
        try clear hwi
        try clear h
        try clear ho
        try clear ho1
        try clear HR
        try clear HRO
        try clear hmx
        try clear hmo
        try clear hb1'
        try clear hpl
        try clear hin
        try clear z0
        try clear z1
        try clear z2
        try clear hc4
        try clear hcm4
        try clear hlt4
        try clear hg4
        try clear hT4
        try clear hQ2
        try clear hbc
        try clear hb4
        try clear hb5
        try clear tQ
        try clear tQ4
        try clear tQS
        try clear hoq
        try clear ho3
        try clear hAs
        try clear hbS
        try clear hbSd
        try clear hb6
        try clear hI2d
        try clear hI2S
        try clear p0d
        try clear p1d
        try clear p0S
        try clear HWS
        try clear HW
        try clear HP0
        try clear hb2
        try clear hbA
        try clear hbw2
        try clear hbwc
        try clear hbw4
        try clear HRM
        try clear HFL
        try clear HFR
        try clear hL2
        try clear hR2
        try clear hL
        try clear hR
        try clear hbL
        try clear h1
        try clear h2
        try clear hwL
        try clear hnR0
        try clear HZ
        try clear C1'
        refine wp_region_quiet_below (by kernel_rfl) (by kernel_rfl) ?_
        iterate 43 (quiet_step (first | with_reducible exact unhide C1 _ _ | with_reducible exact unhide C2 _ _ | with_reducible exact unhide C3 _ _))
        refine wpQuiet_nil ?_
        intro _ hw'
        obtain ⟨⟨dq2, osq2⟩, hw''⟩ := hw'
        subst hw''
        have hbq2 := below_regrown w5 dq2 osq2
        go_wp2
        go_ret
        have hbF := hbw5.trans (hbq2.mono hbw5.size)
        exact ⟨rfl, hb1.trans (hbF.mono hb1.size)⟩
    · have dy : decide (0 ≤ y) = false := decide_eq_false hy
      have dl : decide (gapI likes x ≤ gapI likes y) = true := decide_eq_true (by
        rw [unhide HNB (by omega)]
        exact unhide HGB)
      clear HHO HGB HNB
      · go_wp2_with fail
        clear p0f
        try clear hQg
        try clear hg34
        try clear hg23
        try clear hg3P
        try clear hg2lt
        try clear hg2le
        try clear hbig
        try clear hd
        try clear hli
        try clear hri
        try clear hwi
        try clear h
        try clear ho
        try clear ho1
        try clear HR
        try clear HRO
        try clear hmx
        try clear hmo
        try clear hb1'
        try clear hpl
        try clear hin
        try clear z0
        try clear z1
        try clear z2
        try clear hc4
        try clear hcm4
        try clear hlt4
        try clear hg4
        try clear hT4
        try clear hQ2
        try clear hbc
        try clear hb4
        try clear hb5
        try clear tQ
        try clear tQ4
        try clear tQS
        try clear hoq
        try clear ho3
        try clear hAs
        try clear hbS
        try clear hbSd
        try clear hb6
        try clear hI2d
        try clear hI2S
        try clear p0d
        try clear p1d
        try clear p0S
        try clear HWS
        try clear HW
        try clear HP0
        try clear hb2
        try clear hbA
        try clear hbw2
        try clear hbwc
        try clear hbw4
        try clear HRM
        try clear HFL
        try clear HFR
        try clear hL2
        try clear hR2
        try clear hL
        try clear hR
        try clear hbL
        try clear h1
        try clear h2
        try clear hwL
        try clear hnR0
        try clear HZ
        try clear C1'
        refine wp_region_quiet_below (by kernel_rfl) (by kernel_rfl) ?_
        iterate 6 (quiet_step (first | with_reducible exact unhide C1 _ _ | with_reducible exact unhide C2 _ _ | with_reducible exact unhide C3 _ _))
        iterate 12 (with_reducible refine quiet_skip (by kernel_rfl) ?_)
        iterate 25 (quiet_step (first | with_reducible exact unhide C1 _ _ | with_reducible exact unhide C2 _ _ | with_reducible exact unhide C3 _ _))
        refine wpQuiet_nil ?_
        intro _ hw'
        obtain ⟨⟨dq2, osq2⟩, hw''⟩ := hw'
        subst hw''
        have hbq2 := below_regrown w5 dq2 osq2
        go_wp2
        go_ret
        have hbF := hbw5.trans (hbq2.mono hbw5.size)
        exact ⟨rfl, hb1.trans (hbF.mono hb1.size)⟩
end Go.Proofs.Ytodbnjainpjkcaa
