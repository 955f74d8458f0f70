import Derived.Test.YtodbnjainpjkcaaX
namespace Go.Proofs.Ytodbnjainpjkcaa
open Go.RowKit
def atL (ws : List Int) (j : Nat) : Int := ws[j]?.getD 0
theorem set_at (ws : List Int) (k : Nat) (x : Int) (j : Nat) (hk : k < ws.length) : atL (ws.set k x) j = if j = k then x else atL ws j := by
  unfold atL
  by_cases h : j = k
  · subst h
    rw [if_pos rfl, List.getElem?_set_self hk]
    rfl
  · rw [if_neg h, List.getElem?_set_ne (fun e => h e.symm)]
/-- One of the left asks one of the right: who goes with whom then, and who is alone for it. -/
def takeW (likes : List Int) (room : Int) (ws : List Int) (l : Nat) (r : Int) : List Int :=
  if idxFrom likes l 0 < 0 then ws
  else if ((ws.set l r).count r : Int) ≤ room then ws.set l r
  else (ws.set l r).set (worstTo likes (ws.set l r) r ws.length).toNat (-1)
def takeO (likes : List Int) (room : Int) (ws : List Int) (l : Nat) (r : Int) : Int :=
  if idxFrom likes l 0 < 0 then (l : Int)
  else if ((ws.set l r).count r : Int) ≤ room then -1
  else worstTo likes (ws.set l r) r ws.length
theorem take_len (likes : List Int) (room : Int) (ws : List Int) (l : Nat) (r : Int) : (takeW likes room ws l r).length = ws.length := by
  unfold takeW
  split
  · rfl
  · split
    · rw [List.length_set]
    · rw [List.length_set, List.length_set]
theorem worst_there (likes ws : List Int) (l : Nat) (r : Int) (hl : l < ws.length) : ∃ m : Nat, m < ws.length ∧ worstTo likes (ws.set l r) r ws.length = m := by
  rcases worst_spec likes (ws.set l r) r ws.length with ⟨_, h2⟩ | ⟨m, h1, h2, _, _⟩
  · exact absurd (by have := set_at ws l r l hl; unfold atL at this; rw [if_pos rfl] at this; exact this) (h2 l hl)
  · exact ⟨m, h1, h2⟩
theorem grownBy_below {W W' : World} (h : Below W.heap.size W W') (g : Option Nat) : W.grownBy W' g := ⟨h.os, h.tape, h.output, h.size, fun k hk _ => h.block k hk⟩
theorem grownBy_trans {A B C : World} {g : Option Nat} (h1 : A.grownBy B g) (h2 : B.grownBy C g) : A.grownBy C g :=
  ⟨h2.os.trans h1.os, h2.tape.trans h1.tape, h2.output.trans h1.output, Nat.le_trans h1.size h2.size, fun k hk hne => (h2.block k (Nat.lt_of_lt_of_le hk h1.size) hne).trans (h1.block k hk hne)⟩
theorem grownBy_set (W : World) (g o : Nat) (v : Value) : W.grownBy (W.setCell ⟨g, o, none⟩ v) (some g) :=
  ⟨rfl, rfl, rfl, by simp [World.setCell], fun k hk hne => Below.heap_setCell W ⟨g, o, none⟩ v k (fun e => hne (by rw [e]))⟩
theorem Row.ints' {base : Nat} {W : World} {va : Option Addr} {n cap : Nat} {ws : List Int} (h : Row base W va n (atL ws)) (hl : n = ws.length) (h1 : n ≤ cap) (h2 : cap ≤ maxLen) : Ints W va n cap ws :=
  h.ints hl h1 h2 (fun _ _ => rfl)
set_option maxRecDepth 100000 in
set_option maxHeartbeats 2000000 in
theorem take_any (w0 : World) (aL : Option Addr) (nL cL : Nat) (aR : Option Addr) (nR cR : Nat) (lR : List Ag) (hR : Ags w0 aR nR cR lR) (hfR : ∀ g ∈ lR, g.ln ≤ 500) (W : World) (hb0 : Below w0.heap.size w0 W) (g n cap : Nat) (ws : List Int)
    (hn : n = ws.length) (hcap : n ≤ cap) (hcm : cap ≤ maxLen) (hrow : Row w0.heap.size W (some ⟨g, 0, none⟩) n (atL ws)) (l r : Nat) (hl : l < n) (hr : r < nR) :
    Calls Try.prog 33 #[.agg #[.slice aL nL cL, .slice aR nR cR], .slice (some ⟨g, 0, none⟩) n cap, .int .i64 l, .int .i64 r] W fun e W' =>
      e = .returned (.int .i64 (takeO (agAt lR r).likes (agAt lR r).room ws l r)) ∧ Row w0.heap.size W' (some ⟨g, 0, none⟩) n (atL (takeW (agAt lR r).likes (agAt lR r).room ws l r)) ∧ W.grownBy W' (some g) := by
  have hcR := hR.2.2.1
  have hnR := hR.2.1
  unfold maxLen at hcR
  have hcm' := hcm
  unfold maxLen at hcm'
  obtain ⟨bR, oR, rfl, hbR0, q1z, q2z, q3z⟩ := hR.at hr
  have hbR : bR < W.heap.size := Nat.lt_of_lt_of_le hbR0 hb0.size
  have q1 := (hb0.cell (p := ⟨bR, oR + r * 3, none⟩) hbR0).trans q1z
  have q2 := (hb0.cell (p := ⟨bR, oR + r * 3 + 1, none⟩) hbR0).trans q2z
  have q3 := (hb0.cell (p := ⟨bR, oR + r * 3 + 2, none⟩) hbR0).trans q3z
  have hI0 := (hR.mem hr).1
  have hsr : (agAt lR r).ln ≤ 500 := hfR _ (by unfold agAt; rw [List.getElem?_eq_getElem (show r < lR.length by have := hR.1; omega)]; simp)
  generalize agAt lR r = G at *
  obtain ⟨nm, room, la, ln, lc, likes⟩ := G
  simp only at q1 q2 q3 hI0 hsr ⊢
  clear q1z q2z q3z
  have HN := hide hn
  clear hn
  obtain ⟨wA, hwA⟩ : ∃ y, y = (W.alloc (.cells #[.slice aL nL cL, .slice (some ⟨bR, oR, none⟩) nR cR] 26)).alloc (.cells #[.string nm, .int .i64 room, .slice la ln lc] 37) := ⟨_, rfl⟩
  have hbA : Below W.heap.size W wA := by rw [hwA]; go_grown
  have A0 : wA.cell? ⟨W.heap.size + 1, 0, none⟩ = some (.string nm) := by rw [hwA]; simp
  have A1 : wA.cell? ⟨W.heap.size + 1, 1, none⟩ = some (.int .i64 room) := by rw [hwA]; simp
  have A2 : wA.cell? ⟨W.heap.size + 1, 2, none⟩ = some (.slice la ln lc) := by rw [hwA]; simp
  have HW := hide hwA
  clear hwA
  have hb0A := hb0.trans (hbA.mono hb0.size)
  have hgW : g < W.heap.size ∧ w0.heap.size ≤ g := by
    rcases hrow with h | ⟨g', h1, h2, h3, _, _⟩
    · omega
    · cases h1; exact ⟨h3, h2⟩
  have HGW := hide hgW
  clear hgW
  go_enter Try.func33, Try.ntmps33
  go_wp2_with fail
  rw [← unhide HW]
  refine (rank_any nm room la ln lc likes l wA (hI0.later hb0A)).mono ?_
  rintro e w1 ⟨rfl, hb1⟩
  have hbW1 := hbA.trans (hb1.mono hbA.size)
  have hb01 := hb0.trans (hbW1.mono hb0.size)
  have a0 := (hb1.cell (p := ⟨W.heap.size + 1, 0, none⟩) (World.block_lt_of_cell? wA _ A0)).trans A0
  have a1 := (hb1.cell (p := ⟨W.heap.size + 1, 1, none⟩) (World.block_lt_of_cell? wA _ A1)).trans A1
  have a2 := (hb1.cell (p := ⟨W.heap.size + 1, 2, none⟩) (World.block_lt_of_cell? wA _ A2)).trans A2
  clear A0 A1 A2 q1 q2 q3
  have hrow1 := hrow.later hbW1
  have hg1 := grownBy_below hbW1 (some g)
  by_cases hi : idxFrom likes l 0 < 0
  · have HO := hide (show takeO likes room ws l r = l by unfold takeO; rw [if_pos hi])
    have HT := hide (show takeW likes room ws l r = ws by unfold takeW; rw [if_pos hi])
    have hd : decide (idxFrom likes l 0 < 0) = true := decide_eq_true hi
    clear hi
    go_wp2
    go_ret
    exact ⟨ret_int (unhide HO).symm, by rw [unhide HT]; exact hrow1, hg1⟩
  have hd : decide (idxFrom likes l 0 < 0) = false := decide_eq_false hi
  have hO1 : takeO likes room ws l r = (if ((ws.set l r).count (r : Int) : Int) ≤ room then -1 else worstTo likes (ws.set l r) r ws.length) := by unfold takeO; rw [if_neg hi]
  have hT1 : takeW likes room ws l r = (if ((ws.set l r).count (r : Int) : Int) ≤ room then ws.set l r else (ws.set l r).set (worstTo likes (ws.set l r) r ws.length).toNat (-1)) := by unfold takeW; rw [if_neg hi]
  clear hi
  have hrow2 : Row w0.heap.size (w1.setCell ⟨g, l, none⟩ (.int .i64 r)) (some ⟨g, 0, none⟩) n (atL (ws.set l r)) :=
    hrow1.set hl (fun j hj hne => by rw [set_at ws l r j (by have := unhide HN; omega), if_neg hne]) (by rw [set_at ws l r l (by have := unhide HN; omega), if_pos rfl])
  have hg2 := grownBy_trans hg1 (grownBy_set w1 g l (.int .i64 r))
  have hb02 : Below w0.heap.size w0 (w1.setCell ⟨g, l, none⟩ (.int .i64 r)) := hb01.setCell (unhide HGW).2 _
  have b0 : (w1.setCell ⟨g, l, none⟩ (.int .i64 r)).cell? ⟨W.heap.size + 1, 0, none⟩ = some (.string nm) := by rw [World.cell?_setCell_far _ _ _ _ (by have := (unhide HGW).1; simp; omega)]; exact a0
  have b1 : (w1.setCell ⟨g, l, none⟩ (.int .i64 r)).cell? ⟨W.heap.size + 1, 1, none⟩ = some (.int .i64 room) := by rw [World.cell?_setCell_far _ _ _ _ (by have := (unhide HGW).1; simp; omega)]; exact a1
  have b2 : (w1.setCell ⟨g, l, none⟩ (.int .i64 r)).cell? ⟨W.heap.size + 1, 2, none⟩ = some (.slice la ln lc) := by rw [World.cell?_setCell_far _ _ _ _ (by have := (unhide HGW).1; simp; omega)]; exact a2
  rcases hrow1 with h | ⟨g', hg', _, hgs, hcl, hfz⟩
  · omega
  cases hg'
  have cg := hcl l hl
  have fg := hfz l hl
  clear hcl hfz a0 a1 a2
  have hln2 : n = (ws.set l r).length := by rw [List.length_set]; exact unhide HN
  have HN2 := hide hln2
  clear hln2
  go_wp2_with fail
  generalize w1.setCell ⟨g, l, none⟩ (.int .i64 r) = w2 at *
  have hI2 := hrow2.ints' (unhide HN2) hcap hcm
  by_cases hc : ((ws.set l r).count (r : Int) : Int) ≤ room
  · rw [if_pos hc] at hO1 hT1
    have HO := hide hO1
    have HT := hide hT1
    have hd2 : decide (((ws.set l r).count (r : Int) : Int) ≤ room) = true := decide_eq_true hc
    clear hO1 hT1 hc
    go_quiet ((go_at_call 34; exact Calls.quiet_of_same (count_any _ n cap (ws.set l r) r _ hI2)))
    go_wp2
    go_ret
    exact ⟨ret_int (unhide HO).symm, by rw [unhide HT]; exact hrow2.later (below_drewN _ _ _), grownBy_trans hg2 (grownBy_below (below_drewN _ _ _) _)⟩
  · rw [if_neg hc] at hO1 hT1
    have hd2 : decide (((ws.set l r).count (r : Int) : Int) ≤ room) = false := decide_eq_false hc
    clear hc
    obtain ⟨m, hm, hwm⟩ := worst_there likes ws l r (by have := unhide HN; omega)
    rw [hwm] at hO1 hT1
    rw [Int.toNat_natCast] at hT1
    have HO := hide hO1
    have HT := hide hT1
    have HWM := hide hwm
    clear hO1 hT1 hwm
    have hmn : m < n := by have := unhide HN; omega
    go_quiet ((go_at_call 34; exact Calls.quiet_of_same (count_any _ n cap (ws.set l r) r _ hI2)))
    have hb3 := below_drewN w2.heap.size w2 nq
    have hrow3 := hrow2.later hb3
    have hg3 := grownBy_trans hg2 (grownBy_below hb3 _)
    have hb03 := hb02.trans (hb3.mono hb02.size)
    have c0 := (hb3.cell (p := ⟨W.heap.size + 1, 0, none⟩) (World.block_lt_of_cell? w2 _ b0)).trans b0
    have c1 := (hb3.cell (p := ⟨W.heap.size + 1, 1, none⟩) (World.block_lt_of_cell? w2 _ b1)).trans b1
    have c2 := (hb3.cell (p := ⟨W.heap.size + 1, 2, none⟩) (World.block_lt_of_cell? w2 _ b2)).trans b2
    have hI3 := hrow3.ints' (unhide HN2) hcap hcm
    clear b0 b1 b2 hI2
    generalize w2.drewN nq = w3 at *
    go_wp2_with fail
    refine (worst_any nm room la ln lc likes (some ⟨g, 0, none⟩) n cap (ws.set l r) r w3 (hI0.later hb03) hI3).mono ?_
    rintro e w4 ⟨rfl, hb4⟩
    rw [List.length_set, unhide HWM]
    have hrow4 := hrow3.later hb4
    have hg4 := grownBy_trans hg3 (grownBy_below hb4 _)
    have hrow5 : Row w0.heap.size (w4.setCell ⟨g, m, none⟩ (.int .i64 (-1))) (some ⟨g, 0, none⟩) n (atL ((ws.set l r).set m (-1))) :=
      hrow4.set hmn (fun j hj hne => by rw [set_at _ m _ j (by have := unhide HN2; omega), if_neg hne]) (by rw [set_at _ m _ m (by have := unhide HN2; omega), if_pos rfl])
    have hg5 := grownBy_trans hg4 (grownBy_set w4 g m (.int .i64 (-1)))
    rcases hrow4 with h | ⟨g', hg', _, hgs4, hcl, hfz⟩
    · omega
    cases hg'
    have cm := hcl m hmn
    have fm := hfz m hmn
    clear hcl hfz c0 c1 c2
    go_wp2
    go_ret
    exact ⟨ret_int (unhide HO).symm, by rw [unhide HT]; exact hrow5, hg5⟩
end Go.Proofs.Ytodbnjainpjkcaa
