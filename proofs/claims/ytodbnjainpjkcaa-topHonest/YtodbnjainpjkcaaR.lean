import Derived.Test.YtodbnjainpjkcaaQ
namespace Go.Proofs.Ytodbnjainpjkcaa
open Go.RowKit
def pickAt (sec : Nat → Bool) (a b : List Int) (j : Nat) : Int := if sec j = true then b[j]?.getD 0 else a[j]?.getD 0
def pickTo (sec : Nat → Bool) (a b : List Int) : Nat → List Int
  | 0 => []
  | k + 1 => pickTo sec a b k ++ [pickAt sec a b k]
theorem pick_len (sec : Nat → Bool) (a b : List Int) : ∀ k, (pickTo sec a b k).length = k := by
  intro k
  induction k with
  | zero => rfl
  | succ k ih => rw [pickTo, List.length_append, ih]; rfl
theorem pick_at (sec : Nat → Bool) (a b : List Int) : ∀ k j, j < k → (pickTo sec a b k)[j]?.getD 0 = pickAt sec a b j := by
  intro k
  induction k with
  | zero => intro j h; omega
  | succ k ih =>
    intro j h
    rw [pickTo]
    by_cases hj : j = k
    · subst hj
      rw [List.getElem?_append_right (by rw [pick_len]; omega), pick_len, Nat.sub_self]
      rfl
    · rw [List.getElem?_append_left (by rw [pick_len]; omega), ih j (by omega)]
theorem pick_ext {s t : Nat → Bool} {a b : List Int} : ∀ k, (∀ j, j < k → s j = t j) → pickTo s a b k = pickTo t a b k := by
  intro k
  induction k with
  | zero => intro _; rfl
  | succ k ih => intro h; rw [pickTo, pickTo, ih (fun j hj => h j (by omega)), pickAt, pickAt, h k (by omega)]
def curAt (sec : Nat → Bool) (a b : List Int) (k j : Nat) : Int := if j < k then pickAt sec a b j else a[j]?.getD 0
def blendE (lL lR : List Ag) (a b : List Int) : Int := if withE lL lR a = 0 then withE lL lR b else withE lL lR a
def blendL (lL lR : List Ag) (sec : Nat → Bool) (a b : List Int) : List Int := if blendE lL lR a b = 0 then pickTo sec a b a.length else []
def secJ (lL : List Ag) (a b : List Int) (l : Nat) : Bool := ratherB (agAt lL l).likes (b[l]?.getD 0) (a[l]?.getD 0)
def secM (lL : List Ag) (a b : List Int) (l : Nat) : Bool := !ratherB (agAt lL l).likes (b[l]?.getD 0) (a[l]?.getD 0)
def two (v : Value) (e : Int) : Value := .tuple #[v, .int .i64 e]
/-- What the row that is being written reads as. -/
def Row (base : Nat) (W : World) (va : Option Addr) (n : Nat) (f : Nat → Int) : Prop :=
  n = 0 ∨ ∃ g, va = some ⟨g, 0, none⟩ ∧ base ≤ g ∧ g < W.heap.size ∧ (∀ j, j < n → W.cell? ⟨g, j, none⟩ = some (.int .i64 (f j))) ∧ (∀ j, j < n → W.frozen? ⟨g, j, none⟩ = false)
theorem Row.of_owns {W : World} {base : Nat} {v : Value} {n : Nat} {l : List Int} (h : W.ownsRow base 3 1 v n (intVals l)) :
    ∃ va cap, v = .slice va n cap ∧ n ≤ cap ∧ cap ≤ maxLen ∧ Row base W va n (fun j => l[j]?.getD 0) := by
  have hl : l.length = n := by have := h.1; rw [intVals_len] at this; omega
  have h0 := h
  rcases h.2 with ⟨rfl, rfl⟩ | ⟨g, cap, cur, rfl, hbg, hgg, hnc, hcm, hcs, htake⟩
  · exact ⟨none, 0, rfl, Nat.le_refl _, by unfold maxLen; omega, .inl rfl⟩
  · refine ⟨_, cap, rfl, hnc, hcm, .inr ⟨g, rfl, hbg, ?_, fun j hj => ?_, fun j hj => ?_⟩⟩
    · rcases Nat.lt_or_ge g W.heap.size with h' | h'
      · exact h'
      · rw [Array.getElem?_eq_none h'] at hgg; cases hgg
    · rw [h0.cellAt j (by omega), intVals_at l j (by omega)]
    · simp [World.frozen?, hgg]
theorem Row.later {base : Nat} {W W' : World} {va : Option Addr} {n : Nat} {f : Nat → Int} (h : Row base W va n f) (hb : Below W.heap.size W W') : Row base W' va n f := by
  rcases h with h | ⟨g, h1, h2, h3, h4, h5⟩
  · exact .inl h
  · exact .inr ⟨g, h1, h2, Nat.lt_of_lt_of_le h3 hb.size, fun j hj => (hb.cell (p := ⟨g, j, none⟩) h3).trans (h4 j hj), fun j hj => (hb.frozen (p := ⟨g, j, none⟩) h3).trans (h5 j hj)⟩
theorem Row.same {base : Nat} {W : World} {va : Option Addr} {n : Nat} {f f' : Nat → Int} (h : Row base W va n f) (e : ∀ j, j < n → f j = f' j) : Row base W va n f' := by
  rcases h with h | ⟨g, h1, h2, h3, h4, h5⟩
  · exact .inl h
  · exact .inr ⟨g, h1, h2, h3, fun j hj => by rw [h4 j hj, e j hj], h5⟩
theorem Row.ints {base : Nat} {W : World} {va : Option Addr} {n cap : Nat} {f : Nat → Int} {l : List Int} (h : Row base W va n f) (hl : n = l.length) (h1 : n ≤ cap) (h2 : cap ≤ maxLen) (e : ∀ j, j < n → f j = l[j]?.getD 0) : Ints W va n cap l := by
  refine ⟨hl, h1, h2, ?_⟩
  rcases h with h | ⟨g, h1, h2, h3, h4, h5⟩
  · exact .inl h
  · exact .inr ⟨g, 0, h1, h3, fun j hj => by rw [Nat.zero_add, h4 j hj, e j hj]⟩
theorem Row.set {base : Nat} {W : World} {g n k : Nat} {f f' : Nat → Int} {x : Int} (h : Row base W (some ⟨g, 0, none⟩) n f) (hk : k < n) (e : ∀ j, j < n → j ≠ k → f j = f' j) (ek : x = f' k) : Row base (W.setCell ⟨g, k, none⟩ (.int .i64 x)) (some ⟨g, 0, none⟩) n f' := by
  rcases h with h | ⟨g', h1, h2, h3, h4, h5⟩
  · omega
  · cases h1
    refine .inr ⟨g, rfl, h2, by simpa using h3, fun j hj => ?_, fun j hj => by rw [World.frozen?_setCell]; exact h5 j hj⟩
    by_cases hjk : j = k
    · subst hjk
      rw [World.cell?_setCell_same' W ⟨g, j, none⟩ _ (by rw [h4 j hj]; rfl), ek]
    · rw [World.cell?_setCell_other _ _ _ _ (by intro hh; cases hh; exact hjk rfl), h4 j hj, e j hj hjk]
theorem joinF_any (nm : ByteArray) (room : Int) (a : Option Addr) (n c : Nat) (l : List Int) (x y : Int) (w : World) (h : Ints w a n c l) (hs : n ≤ 500) :
    Calls Try.prog 43 #[.agg #[.string nm, .int .i64 room, .slice a n c], .int .i64 x, .int .i64 y] w fun e w' => e = .returned (.bool (ratherB l y x)) ∧ Below w.heap.size w w' := by
  have hbA : Below w.heap.size w (w.alloc (.cells #[.string nm, .int .i64 room, .slice a n c] 37)) := by go_grown
  go_enter Try.func43, Try.ntmps43
  go_wp2_with fail
  refine (rather_any nm room a n c l y x _ (h.later hbA) hs).mono ?_
  rintro e w1 ⟨rfl, hb1⟩
  go_wp2
  go_ret
  exact ⟨rfl, hbA.trans (hb1.mono hbA.size)⟩
theorem meetF_any (nm : ByteArray) (room : Int) (a : Option Addr) (n c : Nat) (l : List Int) (x y : Int) (w : World) (h : Ints w a n c l) (hs : n ≤ 500) :
    Calls Try.prog 44 #[.agg #[.string nm, .int .i64 room, .slice a n c], .int .i64 x, .int .i64 y] w fun e w' => e = .returned (.bool (!ratherB l y x)) ∧ Below w.heap.size w w' := by
  have hbA : Below w.heap.size w (w.alloc (.cells #[.string nm, .int .i64 room, .slice a n c] 37)) := by go_grown
  go_enter Try.func44, Try.ntmps44
  go_wp2_with fail
  refine (rather_any nm room a n c l y x _ (h.later hbA) hs).mono ?_
  rintro e w1 ⟨rfl, hb1⟩
  go_wp2
  go_ret
  exact ⟨rfl, hbA.trans (hb1.mono hbA.size)⟩
theorem level_any (nm : ByteArray) (room : Int) (a : Option Addr) (n c : Nat) (l : List Int) (k : Int) (w : World) (h : Ints w a n c l) (hs : n ≤ 500) :
    Calls Try.prog 63 #[.agg #[.string nm, .int .i64 room, .slice a n c], .int .i64 k] w fun e w' => e = .returned (.int .i64 (levelI l k)) ∧ Below w.heap.size w w' := by
  have hn := hide h.1
  have hm := h.2.2.1
  have hc := h.2.1
  unfold maxLen at hm
  have hbA : Below w.heap.size w (w.alloc (.cells #[.string nm, .int .i64 room, .slice a n c] 37)) := by go_grown
  have h1 := h.later hbA
  by_cases c1 : k < 0
  · have HG := hide (show levelI l k = n by unfold levelI; rw [if_pos c1, ← unhide hn])
    have d1 : decide (k < 0) = true := decide_eq_true c1
    clear c1
    go_enter Try.func63, Try.ntmps63
    go_wp2_with (go_at_call 23; refine (place_any a n c l k _ h1).mono ?_; rintro e w1 ⟨rfl, rfl⟩)
    go_ret
    exact ⟨ret_int (unhide HG).symm, hbA⟩
  have d1 : decide (k < 0) = false := decide_eq_false c1
  by_cases c2 : idxFrom l k 0 < 0
  · have HG := hide (show levelI l k = n + 1 by unfold levelI; rw [if_neg c1, if_pos c2, ← unhide hn])
    have d2 : decide (idxFrom l k 0 < 0) = true := decide_eq_true c2
    clear c1 c2
    go_enter Try.func63, Try.ntmps63
    go_wp2_with (go_at_call 23; refine (place_any a n c l k _ h1).mono ?_; rintro e w1 ⟨rfl, rfl⟩)
    go_ret
    exact ⟨ret_int (by rw [unhide HG]), hbA⟩
  · have HG := hide (show levelI l k = idxFrom l k 0 by unfold levelI; rw [if_neg c1, if_neg c2])
    have d2 : decide (idxFrom l k 0 < 0) = false := decide_eq_false c2
    clear c1 c2
    go_enter Try.func63, Try.ntmps63
    go_wp2_with (go_at_call 23; refine (place_any a n c l k _ h1).mono ?_; rintro e w1 ⟨rfl, rfl⟩)
    go_ret
    exact ⟨ret_int (unhide HG).symm, hbA⟩
set_option maxRecDepth 100000 in
set_option maxHeartbeats 4000000 in
theorem chooseJ_any (aL : Option Addr) (nL cL : Nat) (lL : List Ag) (aR : Option Addr) (nR cR : Nat) (lR : List Ag) (aa : Option Addr) (na ca : Nat) (xs : List Int) (ab : Option Addr) (nb cb : Nat) (bs : List Int) (w : World) (hL : Ags w aL nL cL lL) (hR : Ags w aR nR cR lR) (ha : Ints w aa na ca xs) (hb : Ints w ab nb cb bs) (hsa : na ≤ 1000) (hsb : nb ≤ 1000) (hfL : ∀ g ∈ lL, g.ln ≤ 500) :
    Calls Try.prog 42 #[.agg #[.slice aL nL cL, .slice aR nR cR], .slice aa na ca, .slice ab nb cb, .func (.func 43) #[] #[]] w fun e w' => ∃ va m c, e = .returned (two (.slice va m c) (blendE lL lR xs bs)) ∧ Ints w' va m c (blendL lL lR (secJ lL xs bs) xs bs) ∧ Below w.heap.size w w' := by
  have hlL := hide hL.1
  have hnL := hL.2.1
  have hcL := hL.2.2.1
  unfold maxLen at hcL
  have hna := hide ha.1
  have hnb := hide hb.1
  have hca := ha.2.1
  have hma := ha.2.2.1
  unfold maxLen at hma
  have hcb := hb.2.1
  have hmb := hb.2.2.1
  unfold maxLen at hmb
  obtain ⟨wA, hwA⟩ : ∃ y, y = w.alloc (.cells #[.slice aL nL cL, .slice aR nR cR] 26) := ⟨_, rfl⟩
  have hbA : Below w.heap.size w wA := by rw [hwA]; go_grown
  have p0a : wA.cell? ⟨w.heap.size, 0, none⟩ = some (.slice aL nL cL) := by rw [hwA]; simp
  have p1a : wA.cell? ⟨w.heap.size, 1, none⟩ = some (.slice aR nR cR) := by rw [hwA]; simp
  have HW := hide hwA
  clear hwA
  go_enter Try.func42, Try.ntmps42
  go_wp2_with fail
  rw [← unhide HW]
  refine (mmay_any aL nL cL lL aR nR cR lR wA (hL.later hbA) (hR.later hbA)).mono ?_
  rintro e w1 ⟨rfl, hb1⟩
  have hbw1 := hbA.trans (hb1.mono hbA.size)
  have p0b := (hb1.cell (p := ⟨w.heap.size, 0, none⟩) (World.block_lt_of_cell? wA _ p0a)).trans p0a
  have p1b := (hb1.cell (p := ⟨w.heap.size, 1, none⟩) (World.block_lt_of_cell? wA _ p1a)).trans p1a
  clear p0a p1a
  by_cases hz : matchE lL lR = 0
  case neg =>
    have e1 : ∀ xs, withE lL lR xs = matchE lL lR := fun xs => by unfold withE; rw [if_neg hz]
    have HE := hide (show blendE lL lR xs bs = matchE lL lR by unfold blendE; rw [e1, e1, if_neg hz])
    have HE2 := hide (show blendL lL lR (secJ lL xs bs) xs bs = [] by unfold blendL; rw [unhide HE, if_neg hz])
    have hzb : (matchE lL lR != 0) = true := by simpa using hz
    clear hz e1
    go_wp2
    go_ret2
    exact ⟨none, 0, 0, by rw [unhide HE]; rfl, by rw [unhide HE2]; exact ⟨rfl, Nat.le_refl _, by unfold maxLen; omega, .inl rfl⟩, hbw1⟩
  case pos =>
  have EW : Hid (∀ xs, withE lL lR xs = mayBeE lL lR xs) := fun xs => by unfold withE; rw [if_pos hz]
  rw [hz]
  clear hz
  go_wp2_with fail
  refine (mayBe_any aL nL cL lL aR nR cR lR aa na ca xs w1 (hL.later hbw1) (hR.later hbw1) (ha.later hbw1) hsa).mono ?_
  rintro e w2 ⟨rfl, hb2⟩
  have hbw2 := hbw1.trans (hb2.mono hbw1.size)
  have p0c := (hb2.cell (p := ⟨w.heap.size, 0, none⟩) (World.block_lt_of_cell? w1 _ p0b)).trans p0b
  have p1c := (hb2.cell (p := ⟨w.heap.size, 1, none⟩) (World.block_lt_of_cell? w1 _ p1b)).trans p1b
  clear p0b p1b
  by_cases hz : mayBeE lL lR xs = 0
  case neg =>
    have HE := hide (show blendE lL lR xs bs = mayBeE lL lR xs by unfold blendE; rw [unhide EW, if_neg hz])
    have HE2 := hide (show blendL lL lR (secJ lL xs bs) xs bs = [] by unfold blendL; rw [unhide HE, if_neg hz])
    have hzb : (mayBeE lL lR xs != 0) = true := by simpa using hz
    clear hz
    go_wp2
    go_ret2
    exact ⟨none, 0, 0, by rw [unhide HE]; rfl, by rw [unhide HE2]; exact ⟨rfl, Nat.le_refl _, by unfold maxLen; omega, .inl rfl⟩, hbw2⟩
  case pos =>
  have HZA := hide hz
  rw [hz]
  clear hz
  go_wp2_with fail
  refine (mayBe_any aL nL cL lL aR nR cR lR ab nb cb bs w2 (hL.later hbw2) (hR.later hbw2) (hb.later hbw2) hsb).mono ?_
  rintro e w3 ⟨rfl, hb3⟩
  have hbw3 := hbw2.trans (hb3.mono hbw2.size)
  have p0d := (hb3.cell (p := ⟨w.heap.size, 0, none⟩) (World.block_lt_of_cell? w2 _ p0c)).trans p0c
  have p1d := (hb3.cell (p := ⟨w.heap.size, 1, none⟩) (World.block_lt_of_cell? w2 _ p1c)).trans p1c
  clear p0c p1c
  by_cases hz : mayBeE lL lR bs = 0
  case neg =>
    have HE := hide (show blendE lL lR xs bs = mayBeE lL lR bs by unfold blendE; rw [unhide EW, unhide EW, if_pos (unhide HZA)])
    have HE2 := hide (show blendL lL lR (secJ lL xs bs) xs bs = [] by unfold blendL; rw [unhide HE, if_neg hz])
    have hzb : (mayBeE lL lR bs != 0) = true := by simpa using hz
    clear hz
    go_wp2
    go_ret2
    exact ⟨none, 0, 0, by rw [unhide HE]; rfl, by rw [unhide HE2]; exact ⟨rfl, Nat.le_refl _, by unfold maxLen; omega, .inl rfl⟩, hbw3⟩
  case pos =>
  have HE := hide (show blendE lL lR xs bs = 0 by unfold blendE; rw [unhide EW, unhide EW, if_pos (unhide HZA)]; exact hz)
  have HE2 := hide (show blendL lL lR (secJ lL xs bs) xs bs = pickTo (secJ lL xs bs) xs bs xs.length by unfold blendL; rw [unhide HE, if_pos rfl])
  have HLA := hide (mayBe_ok (unhide HZA)).1
  have HLB := hide (mayBe_ok hz).1
  rw [hz]
  clear hz
  go_wp2_with fail
  refine (clone_any aa na ca xs w3 (ha.later hbw3) hsa).mono ?_
  rintro e w5 ⟨v, rfl, hown, hb5⟩
  have hbw4 := hbw3
  obtain ⟨va, cap, rfl, hvc, hvm, hrow⟩ := Row.of_owns hown
  clear hown
  have p0e := (hb5.cell (p := ⟨w.heap.size, 0, none⟩) (World.block_lt_of_cell? w3 _ p0d)).trans p0d
  have p1e := (hb5.cell (p := ⟨w.heap.size, 1, none⟩) (World.block_lt_of_cell? w3 _ p1d)).trans p1d
  clear p0d p1d
  have hnn : na = nL := by have := unhide hna; have := unhide hlL; have := unhide HLA; omega
  have hnn2 : nb = nL := by have := unhide hnb; have := unhide hlL; have := unhide HLB; omega
  have HNN := hide hnn
  have HNN2 := hide hnn2
  clear hnn hnn2
  have hvm' := hvm
  unfold maxLen at hvm'
  go_wp2_with fail
  go_loopw [38] (fun i wr => Below w3.heap.size w3 wr ∧ ∃ k : Nat, k ≤ nL ∧ i = .int .i64 k ∧ Row w3.heap.size wr va na (curAt (secJ lL xs bs) xs bs k)) (fun i _ => nL - (intOf i).toNat)
  case atStart => exact ⟨hb5, 0, Nat.zero_le _, rfl, hrow.same (fun j hj => by unfold curAt; rw [if_neg (by omega)])⟩
  case round =>
    obtain ⟨hb4r, k, hk, rfl, hRow⟩ := hrel
    have hbwr : Below w.heap.size w wr := hbw4.trans (hb4r.mono hbw4.size)
    by_cases hlt : k < nL
    · obtain ⟨bL, oL, rfl, hbL, q1, q2, q3⟩ := (hL.later hbwr).at hlt
      obtain ⟨ba, oa, rfl, hba, hcella⟩ := ha.cellAt (by have := unhide HNN; omega)
      obtain ⟨bb, ob, rfl, hbb, hcellb⟩ := hb.cellAt (by have := unhide HNN2; omega)
      have x0 := hcella k (by have := unhide HNN; omega)
      have y0 := hcellb k (by have := unhide HNN2; omega)
      clear hcella hcellb
      have hka : (k : Int) < na := by have := unhide HNN; omega
      have hka2 : k < na := by omega
      have hkb : (k : Int) < nb := by have := unhide HNN2; omega
      have hkb2 : k < nb := by omega
      have hIL := (hL.mem hlt).1
      have hsl : (agAt lL k).ln ≤ 500 := hfL _ (by unfold agAt; rw [List.getElem?_eq_getElem (show k < lL.length by have := unhide hlL; omega)]; simp)
      have hsec : secJ lL xs bs k = ratherB (agAt lL k).likes (bs[k]?.getD 0) (xs[k]?.getD 0) := rfl
      obtain ⟨g, rfl⟩ : ∃ g, va = some ⟨g, 0, none⟩ := by
        rcases hRow with hh | ⟨g, hg, _⟩
        · omega
        · exact ⟨g, hg⟩
      generalize agAt lL k = G at *
      obtain ⟨nm, room, la, ln, lc, likes⟩ := G
      simp only at q1 q2 q3 hIL hsl hsec
      obtain ⟨x, hx⟩ : ∃ x, x = xs[k]?.getD 0 := ⟨_, rfl⟩
      obtain ⟨y, hy⟩ : ∃ y, y = bs[k]?.getD 0 := ⟨_, rfl⟩
      rw [← hx] at x0 hsec
      rw [← hy] at y0 hsec
      have HYB := hide hy.symm
      have HXA := hide hx.symm
      clear hx hy
      obtain ⟨wB, hwB⟩ : ∃ y, y = wr.alloc (.cells #[.string nm, .int .i64 room, .slice la ln lc] 37) := ⟨_, rfl⟩
      have hbB : Below wr.heap.size wr wB := by rw [hwB]; go_grown
      have A0b : wB.cell? ⟨wr.heap.size, 0, none⟩ = some (.string nm) := by rw [hwB]; simp
      have A1b : wB.cell? ⟨wr.heap.size, 1, none⟩ = some (.int .i64 room) := by rw [hwB]; simp
      have A2b : wB.cell? ⟨wr.heap.size, 2, none⟩ = some (.slice la ln lc) := by rw [hwB]; simp
      have HWB := hide hwB
      clear hwB
      have hbwB : Below w.heap.size w wB := hbwr.trans (hbB.mono hbwr.size)
      have hb4B : Below w3.heap.size w3 wB := hb4r.trans (hbB.mono hb4r.size)
      have hRowB := hRow.later hbB
      have x0b := (hbwB.cell (p := ⟨ba, oa + k, none⟩) hba).trans x0
      have y0b := (hbwB.cell (p := ⟨bb, ob + k, none⟩) hbb).trans y0
      have C1 := hide (fun d os => Calls.regrown_of (joinF_any nm room la ln lc likes x y _ (hIL.later (hbwB.trans ((below_regrown wB d os).mono hbwB.size))) hsl))
      have A0g := cell_regrown A0b
      have A1g := cell_regrown A1b
      have A2g := cell_regrown A2b
      have xg := cell_regrown x0b
      have yg := cell_regrown y0b
      clear hRow
      cases hq : ratherB likes y x with
      | false =>
          rw [hq] at C1
          go_wp2_with fail
          rw [← unhide HWB]
          clear q1 q2 q3 A0b A1b A2b x0b y0b x0
          refine wp_region_quiet_below (by kernel_rfl) (by kernel_rfl) ?_
          repeat (quiet_step (first | exact unhide C1 _ _))
          refine wpQuiet_nil ?_
          intro _ hw'
          obtain ⟨⟨dq, osq⟩, hw''⟩ := hw'
          subst hw''
          have HS := hide (show pickAt (secJ lL xs bs) xs bs k = xs[k]?.getD 0 by unfold pickAt; rw [hsec, hq, if_neg (by decide)])
          have hbC' := below_regrown wB dq osq
          have hbwC := hbwB.trans (hbC'.mono hbwB.size)
          have hb4C := hb4B.trans (hbC'.mono hb4B.size)
          have hRowC := hRowB.later hbC'
          generalize Sort.grow (redrawn wB dq) osq = wC at *
          go_wp2
          go_roundw
          case rel => exact ⟨hb4C, k+1, by omega, by go_num, hRowC.same (fun j hj => by
            unfold curAt
            by_cases hjk : j < k
            · rw [if_pos hjk, if_pos (by omega)]
            · rw [if_neg hjk]
              by_cases hje : j = k
              · subst hje; rw [if_pos (by omega)]; exact (unhide HS).symm
              · rw [if_neg (by omega)])⟩
          case measure => simp [intOf]; omega
      | true =>
          rw [hq] at C1
          go_wp2_with fail
          rw [← unhide HWB]
          clear q1 q2 q3 A0b A1b A2b x0b y0b x0
          refine wp_region_quiet_below (by kernel_rfl) (by kernel_rfl) ?_
          repeat (quiet_step (first | exact unhide C1 _ _))
          refine wpQuiet_nil ?_
          intro _ hw'
          obtain ⟨⟨dq, osq⟩, hw''⟩ := hw'
          subst hw''
          have HS := hide (show pickAt (secJ lL xs bs) xs bs k = y by unfold pickAt; rw [hsec, hq, if_pos rfl]; exact unhide HYB)
          have hbC' := below_regrown wB dq osq
          have hbwC := hbwB.trans (hbC'.mono hbwB.size)
          have hb4C := hb4B.trans (hbC'.mono hb4B.size)
          have hRowC := hRowB.later hbC'
          generalize Sort.grow (redrawn wB dq) osq = wC at *
          have ybC := (hb4C.cell (p := ⟨bb, ob + k, none⟩) (Nat.lt_of_lt_of_le hbb hbw4.size)).trans ((hbw4.cell (p := ⟨bb, ob + k, none⟩) hbb).trans y0)
          have hRowK := hide hRowC
          rcases hRowC with hh | ⟨g', hg1, hg2, hg3, hg4, hg5⟩
          · omega
          cases hg1
          have cg := hg4 k (by omega)
          have fg := hg5 k (by omega)
          clear hg4 hg5
          go_wp2
          go_roundw
          case rel => exact ⟨hb4C.setCell hg2 _, k+1, by omega, by go_num, (unhide hRowK).set (by omega) (fun j hj hne => by unfold curAt; by_cases hjk : j < k; rw [if_pos hjk, if_pos (by omega)]; rw [if_neg hjk, if_neg (by omega)]) (by unfold curAt; rw [if_pos (by omega)]; exact (unhide HS).symm)⟩
          case measure => simp [intOf]; omega
    · go_wp2
      go_ret2
      refine ⟨va, na, cap, by rw [unhide HE]; rfl, ?_, hbwr⟩
      rw [unhide HE2]
      exact hRow.ints (by rw [pick_len]; exact unhide hna) hvc hvm (fun j hj => by
        rw [pick_at _ _ _ _ j (by have := unhide hna; omega)]
        unfold curAt
        rw [if_pos (by have := unhide HNN; omega)])
set_option maxRecDepth 100000 in
set_option maxHeartbeats 4000000 in
theorem chooseM_any (aL : Option Addr) (nL cL : Nat) (lL : List Ag) (aR : Option Addr) (nR cR : Nat) (lR : List Ag) (aa : Option Addr) (na ca : Nat) (xs : List Int) (ab : Option Addr) (nb cb : Nat) (bs : List Int) (w : World) (hL : Ags w aL nL cL lL) (hR : Ags w aR nR cR lR) (ha : Ints w aa na ca xs) (hb : Ints w ab nb cb bs) (hsa : na ≤ 1000) (hsb : nb ≤ 1000) (hfL : ∀ g ∈ lL, g.ln ≤ 500) :
    Calls Try.prog 42 #[.agg #[.slice aL nL cL, .slice aR nR cR], .slice aa na ca, .slice ab nb cb, .func (.func 44) #[] #[]] w fun e w' => ∃ va m c, e = .returned (two (.slice va m c) (blendE lL lR xs bs)) ∧ Ints w' va m c (blendL lL lR (secM lL xs bs) xs bs) ∧ Below w.heap.size w w' := by
  have hlL := hide hL.1
  have hnL := hL.2.1
  have hcL := hL.2.2.1
  unfold maxLen at hcL
  have hna := hide ha.1
  have hnb := hide hb.1
  have hca := ha.2.1
  have hma := ha.2.2.1
  unfold maxLen at hma
  have hcb := hb.2.1
  have hmb := hb.2.2.1
  unfold maxLen at hmb
  obtain ⟨wA, hwA⟩ : ∃ y, y = w.alloc (.cells #[.slice aL nL cL, .slice aR nR cR] 26) := ⟨_, rfl⟩
  have hbA : Below w.heap.size w wA := by rw [hwA]; go_grown
  have p0a : wA.cell? ⟨w.heap.size, 0, none⟩ = some (.slice aL nL cL) := by rw [hwA]; simp
  have p1a : wA.cell? ⟨w.heap.size, 1, none⟩ = some (.slice aR nR cR) := by rw [hwA]; simp
  have HW := hide hwA
  clear hwA
  go_enter Try.func42, Try.ntmps42
  go_wp2_with fail
  rw [← unhide HW]
  refine (mmay_any aL nL cL lL aR nR cR lR wA (hL.later hbA) (hR.later hbA)).mono ?_
  rintro e w1 ⟨rfl, hb1⟩
  have hbw1 := hbA.trans (hb1.mono hbA.size)
  have p0b := (hb1.cell (p := ⟨w.heap.size, 0, none⟩) (World.block_lt_of_cell? wA _ p0a)).trans p0a
  have p1b := (hb1.cell (p := ⟨w.heap.size, 1, none⟩) (World.block_lt_of_cell? wA _ p1a)).trans p1a
  clear p0a p1a
  by_cases hz : matchE lL lR = 0
  case neg =>
    have e1 : ∀ xs, withE lL lR xs = matchE lL lR := fun xs => by unfold withE; rw [if_neg hz]
    have HE := hide (show blendE lL lR xs bs = matchE lL lR by unfold blendE; rw [e1, e1, if_neg hz])
    have HE2 := hide (show blendL lL lR (secM lL xs bs) xs bs = [] by unfold blendL; rw [unhide HE, if_neg hz])
    have hzb : (matchE lL lR != 0) = true := by simpa using hz
    clear hz e1
    go_wp2
    go_ret2
    exact ⟨none, 0, 0, by rw [unhide HE]; rfl, by rw [unhide HE2]; exact ⟨rfl, Nat.le_refl _, by unfold maxLen; omega, .inl rfl⟩, hbw1⟩
  case pos =>
  have EW : Hid (∀ xs, withE lL lR xs = mayBeE lL lR xs) := fun xs => by unfold withE; rw [if_pos hz]
  rw [hz]
  clear hz
  go_wp2_with fail
  refine (mayBe_any aL nL cL lL aR nR cR lR aa na ca xs w1 (hL.later hbw1) (hR.later hbw1) (ha.later hbw1) hsa).mono ?_
  rintro e w2 ⟨rfl, hb2⟩
  have hbw2 := hbw1.trans (hb2.mono hbw1.size)
  have p0c := (hb2.cell (p := ⟨w.heap.size, 0, none⟩) (World.block_lt_of_cell? w1 _ p0b)).trans p0b
  have p1c := (hb2.cell (p := ⟨w.heap.size, 1, none⟩) (World.block_lt_of_cell? w1 _ p1b)).trans p1b
  clear p0b p1b
  by_cases hz : mayBeE lL lR xs = 0
  case neg =>
    have HE := hide (show blendE lL lR xs bs = mayBeE lL lR xs by unfold blendE; rw [unhide EW, if_neg hz])
    have HE2 := hide (show blendL lL lR (secM lL xs bs) xs bs = [] by unfold blendL; rw [unhide HE, if_neg hz])
    have hzb : (mayBeE lL lR xs != 0) = true := by simpa using hz
    clear hz
    go_wp2
    go_ret2
    exact ⟨none, 0, 0, by rw [unhide HE]; rfl, by rw [unhide HE2]; exact ⟨rfl, Nat.le_refl _, by unfold maxLen; omega, .inl rfl⟩, hbw2⟩
  case pos =>
  have HZA := hide hz
  rw [hz]
  clear hz
  go_wp2_with fail
  refine (mayBe_any aL nL cL lL aR nR cR lR ab nb cb bs w2 (hL.later hbw2) (hR.later hbw2) (hb.later hbw2) hsb).mono ?_
  rintro e w3 ⟨rfl, hb3⟩
  have hbw3 := hbw2.trans (hb3.mono hbw2.size)
  have p0d := (hb3.cell (p := ⟨w.heap.size, 0, none⟩) (World.block_lt_of_cell? w2 _ p0c)).trans p0c
  have p1d := (hb3.cell (p := ⟨w.heap.size, 1, none⟩) (World.block_lt_of_cell? w2 _ p1c)).trans p1c
  clear p0c p1c
  by_cases hz : mayBeE lL lR bs = 0
  case neg =>
    have HE := hide (show blendE lL lR xs bs = mayBeE lL lR bs by unfold blendE; rw [unhide EW, unhide EW, if_pos (unhide HZA)])
    have HE2 := hide (show blendL lL lR (secM lL xs bs) xs bs = [] by unfold blendL; rw [unhide HE, if_neg hz])
    have hzb : (mayBeE lL lR bs != 0) = true := by simpa using hz
    clear hz
    go_wp2
    go_ret2
    exact ⟨none, 0, 0, by rw [unhide HE]; rfl, by rw [unhide HE2]; exact ⟨rfl, Nat.le_refl _, by unfold maxLen; omega, .inl rfl⟩, hbw3⟩
  case pos =>
  have HE := hide (show blendE lL lR xs bs = 0 by unfold blendE; rw [unhide EW, unhide EW, if_pos (unhide HZA)]; exact hz)
  have HE2 := hide (show blendL lL lR (secM lL xs bs) xs bs = pickTo (secM lL xs bs) xs bs xs.length by unfold blendL; rw [unhide HE, if_pos rfl])
  have HLA := hide (mayBe_ok (unhide HZA)).1
  have HLB := hide (mayBe_ok hz).1
  rw [hz]
  clear hz
  go_wp2_with fail
  refine (clone_any aa na ca xs w3 (ha.later hbw3) hsa).mono ?_
  rintro e w5 ⟨v, rfl, hown, hb5⟩
  have hbw4 := hbw3
  obtain ⟨va, cap, rfl, hvc, hvm, hrow⟩ := Row.of_owns hown
  clear hown
  have p0e := (hb5.cell (p := ⟨w.heap.size, 0, none⟩) (World.block_lt_of_cell? w3 _ p0d)).trans p0d
  have p1e := (hb5.cell (p := ⟨w.heap.size, 1, none⟩) (World.block_lt_of_cell? w3 _ p1d)).trans p1d
  clear p0d p1d
  have hnn : na = nL := by have := unhide hna; have := unhide hlL; have := unhide HLA; omega
  have hnn2 : nb = nL := by have := unhide hnb; have := unhide hlL; have := unhide HLB; omega
  have HNN := hide hnn
  have HNN2 := hide hnn2
  clear hnn hnn2
  have hvm' := hvm
  unfold maxLen at hvm'
  go_wp2_with fail
  go_loopw [38] (fun i wr => Below w3.heap.size w3 wr ∧ ∃ k : Nat, k ≤ nL ∧ i = .int .i64 k ∧ Row w3.heap.size wr va na (curAt (secM lL xs bs) xs bs k)) (fun i _ => nL - (intOf i).toNat)
  case atStart => exact ⟨hb5, 0, Nat.zero_le _, rfl, hrow.same (fun j hj => by unfold curAt; rw [if_neg (by omega)])⟩
  case round =>
    obtain ⟨hb4r, k, hk, rfl, hRow⟩ := hrel
    have hbwr : Below w.heap.size w wr := hbw4.trans (hb4r.mono hbw4.size)
    by_cases hlt : k < nL
    · obtain ⟨bL, oL, rfl, hbL, q1, q2, q3⟩ := (hL.later hbwr).at hlt
      obtain ⟨ba, oa, rfl, hba, hcella⟩ := ha.cellAt (by have := unhide HNN; omega)
      obtain ⟨bb, ob, rfl, hbb, hcellb⟩ := hb.cellAt (by have := unhide HNN2; omega)
      have x0 := hcella k (by have := unhide HNN; omega)
      have y0 := hcellb k (by have := unhide HNN2; omega)
      clear hcella hcellb
      have hka : (k : Int) < na := by have := unhide HNN; omega
      have hka2 : k < na := by omega
      have hkb : (k : Int) < nb := by have := unhide HNN2; omega
      have hkb2 : k < nb := by omega
      have hIL := (hL.mem hlt).1
      have hsl : (agAt lL k).ln ≤ 500 := hfL _ (by unfold agAt; rw [List.getElem?_eq_getElem (show k < lL.length by have := unhide hlL; omega)]; simp)
      have hsec : secM lL xs bs k = !ratherB (agAt lL k).likes (bs[k]?.getD 0) (xs[k]?.getD 0) := rfl
      obtain ⟨g, rfl⟩ : ∃ g, va = some ⟨g, 0, none⟩ := by
        rcases hRow with hh | ⟨g, hg, _⟩
        · omega
        · exact ⟨g, hg⟩
      generalize agAt lL k = G at *
      obtain ⟨nm, room, la, ln, lc, likes⟩ := G
      simp only at q1 q2 q3 hIL hsl hsec
      obtain ⟨x, hx⟩ : ∃ x, x = xs[k]?.getD 0 := ⟨_, rfl⟩
      obtain ⟨y, hy⟩ : ∃ y, y = bs[k]?.getD 0 := ⟨_, rfl⟩
      rw [← hx] at x0 hsec
      rw [← hy] at y0 hsec
      have HYB := hide hy.symm
      have HXA := hide hx.symm
      clear hx hy
      obtain ⟨wB, hwB⟩ : ∃ y, y = wr.alloc (.cells #[.string nm, .int .i64 room, .slice la ln lc] 37) := ⟨_, rfl⟩
      have hbB : Below wr.heap.size wr wB := by rw [hwB]; go_grown
      have A0b : wB.cell? ⟨wr.heap.size, 0, none⟩ = some (.string nm) := by rw [hwB]; simp
      have A1b : wB.cell? ⟨wr.heap.size, 1, none⟩ = some (.int .i64 room) := by rw [hwB]; simp
      have A2b : wB.cell? ⟨wr.heap.size, 2, none⟩ = some (.slice la ln lc) := by rw [hwB]; simp
      have HWB := hide hwB
      clear hwB
      have hbwB : Below w.heap.size w wB := hbwr.trans (hbB.mono hbwr.size)
      have hb4B : Below w3.heap.size w3 wB := hb4r.trans (hbB.mono hb4r.size)
      have hRowB := hRow.later hbB
      have x0b := (hbwB.cell (p := ⟨ba, oa + k, none⟩) hba).trans x0
      have y0b := (hbwB.cell (p := ⟨bb, ob + k, none⟩) hbb).trans y0
      have C1 := hide (fun d os => Calls.regrown_of (meetF_any nm room la ln lc likes x y _ (hIL.later (hbwB.trans ((below_regrown wB d os).mono hbwB.size))) hsl))
      have A0g := cell_regrown A0b
      have A1g := cell_regrown A1b
      have A2g := cell_regrown A2b
      have xg := cell_regrown x0b
      have yg := cell_regrown y0b
      clear hRow
      cases hq : (!ratherB likes y x) with
      | false =>
          rw [hq] at C1
          go_wp2_with fail
          rw [← unhide HWB]
          clear q1 q2 q3 A0b A1b A2b x0b y0b x0
          refine wp_region_quiet_below (by kernel_rfl) (by kernel_rfl) ?_
          repeat (quiet_step (first | exact unhide C1 _ _))
          refine wpQuiet_nil ?_
          intro _ hw'
          obtain ⟨⟨dq, osq⟩, hw''⟩ := hw'
          subst hw''
          have HS := hide (show pickAt (secM lL xs bs) xs bs k = xs[k]?.getD 0 by unfold pickAt; rw [hsec, hq, if_neg (by decide)])
          have hbC' := below_regrown wB dq osq
          have hbwC := hbwB.trans (hbC'.mono hbwB.size)
          have hb4C := hb4B.trans (hbC'.mono hb4B.size)
          have hRowC := hRowB.later hbC'
          generalize Sort.grow (redrawn wB dq) osq = wC at *
          go_wp2
          go_roundw
          case rel => exact ⟨hb4C, k+1, by omega, by go_num, hRowC.same (fun j hj => by
            unfold curAt
            by_cases hjk : j < k
            · rw [if_pos hjk, if_pos (by omega)]
            · rw [if_neg hjk]
              by_cases hje : j = k
              · subst hje; rw [if_pos (by omega)]; exact (unhide HS).symm
              · rw [if_neg (by omega)])⟩
          case measure => simp [intOf]; omega
      | true =>
          rw [hq] at C1
          go_wp2_with fail
          rw [← unhide HWB]
          clear q1 q2 q3 A0b A1b A2b x0b y0b x0
          refine wp_region_quiet_below (by kernel_rfl) (by kernel_rfl) ?_
          repeat (quiet_step (first | exact unhide C1 _ _))
          refine wpQuiet_nil ?_
          intro _ hw'
          obtain ⟨⟨dq, osq⟩, hw''⟩ := hw'
          subst hw''
          have HS := hide (show pickAt (secM lL xs bs) xs bs k = y by unfold pickAt; rw [hsec, hq, if_pos rfl]; exact unhide HYB)
          have hbC' := below_regrown wB dq osq
          have hbwC := hbwB.trans (hbC'.mono hbwB.size)
          have hb4C := hb4B.trans (hbC'.mono hb4B.size)
          have hRowC := hRowB.later hbC'
          generalize Sort.grow (redrawn wB dq) osq = wC at *
          have ybC := (hb4C.cell (p := ⟨bb, ob + k, none⟩) (Nat.lt_of_lt_of_le hbb hbw4.size)).trans ((hbw4.cell (p := ⟨bb, ob + k, none⟩) hbb).trans y0)
          have hRowK := hide hRowC
          rcases hRowC with hh | ⟨g', hg1, hg2, hg3, hg4, hg5⟩
          · omega
          cases hg1
          have cg := hg4 k (by omega)
          have fg := hg5 k (by omega)
          clear hg4 hg5
          go_wp2
          go_roundw
          case rel => exact ⟨hb4C.setCell hg2 _, k+1, by omega, by go_num, (unhide hRowK).set (by omega) (fun j hj hne => by unfold curAt; by_cases hjk : j < k; rw [if_pos hjk, if_pos (by omega)]; rw [if_neg hjk, if_neg (by omega)]) (by unfold curAt; rw [if_pos (by omega)]; exact (unhide HS).symm)⟩
          case measure => simp [intOf]; omega
    · go_wp2
      go_ret2
      refine ⟨va, na, cap, by rw [unhide HE]; rfl, ?_, hbwr⟩
      rw [unhide HE2]
      exact hRow.ints (by rw [pick_len]; exact unhide hna) hvc hvm (fun j hj => by
        rw [pick_at _ _ _ _ j (by have := unhide hna; omega)]
        unfold curAt
        rw [if_pos (by have := unhide HNN; omega)])
end Go.Proofs.Ytodbnjainpjkcaa
