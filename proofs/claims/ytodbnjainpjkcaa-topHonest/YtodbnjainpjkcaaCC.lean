import Derived.Test.YtodbnjainpjkcaaAA
namespace Go.Proofs.Ytodbnjainpjkcaa
open Go.RowKit
/-- Whom one of the right asks next; what comes of it. -/
def raskL (lR : List Ag) (asked : List Int) (r : Nat) : Int := atL (agAt lR r).likes (atL asked r).toNat
def rstepW (lL lR : List Ag) (ws asked : List Int) (r : Nat) : List Int :=
  if ratherB (agAt lL (raskL lR asked r).toNat).likes r (atL ws (raskL lR asked r).toNat) = true then ws.set (raskL lR asked r).toNat r else ws
/-- It has somebody to ask, and room. -/
def Eager (lR : List Ag) (ws asked : List Int) (r : Nat) : Prop := atL asked r < (agAt lR r).likes.length ∧ (ws.count (r : Int) : Int) < (agAt lR r).room
def RAsks (lL lR : List Ag) (ws asked : List Int) : Prop :=
  ∀ P : List Int → List Int → Prop, P (List.replicate lL.length (-1)) (List.replicate lR.length 0) →
    (∀ ws asked r, P ws asked → r < lR.length → Eager lR ws asked r → P (rstepW lL lR ws asked r) (stepA asked r)) → P ws asked
theorem RAsks.start (lL lR : List Ag) : RAsks lL lR (List.replicate lL.length (-1)) (List.replicate lR.length 0) := fun _ h _ => h
theorem RAsks.step {lL lR : List Ag} {ws asked : List Int} (h : RAsks lL lR ws asked) {r : Nat} (h1 : r < lR.length) (h2 : Eager lR ws asked r) : RAsks lL lR (rstepW lL lR ws asked r) (stepA asked r) :=
  fun P p0 p1 => p1 ws asked r (h P p0 p1) h1 h2
theorem RAsks.lens {lL lR : List Ag} {ws asked : List Int} (h : RAsks lL lR ws asked) : ws.length = lL.length ∧ asked.length = lR.length ∧ ∀ j, 0 ≤ atL asked j := by
  refine h (fun ws asked => ws.length = lL.length ∧ asked.length = lR.length ∧ ∀ j, 0 ≤ atL asked j) ⟨by simp, by simp, fun j => by rw [zero_at]; omega⟩ ?_
  rintro ws asked r ⟨h1, h2, h3⟩ hr _
  refine ⟨?_, by unfold stepA; rw [List.length_set]; exact h2, fun j => ?_⟩
  · unfold rstepW
    split
    · rw [List.length_set]; exact h1
    · exact h1
  · unfold stepA
    rw [set_at asked r _ j (by omega)]
    split
    · have := h3 r; omega
    · exact h3 j
def flag : Value → Nat
  | .bool true => 1
  | _ => 0
def RightGot (lL lR : List Ag) (nL : Nat) (w : World) (e : Ending) (w' : World) : Prop :=
  ∃ g ws asked, e = .returned (two (.slice (some ⟨g, 0, none⟩) nL nL) 0) ∧ Ints w' (some ⟨g, 0, none⟩) nL nL ws ∧ w.heap.size ≤ g ∧ RAsks lL lR ws asked ∧ (∀ r, r < lR.length → ¬ Eager lR ws asked r) ∧ Below w.heap.size w w'
/-- A struct that was boxed. -/
def Box (W : World) (B : Nat) (nm : ByteArray) (room : Int) (la : Option Addr) (ln lc : Nat) : Prop :=
  W.cell? ⟨B, 0, none⟩ = some (.string nm) ∧ W.cell? ⟨B, 1, none⟩ = some (.int .i64 room) ∧ W.cell? ⟨B, 2, none⟩ = some (.slice la ln lc)
theorem Box.later {W W' : World} {B : Nat} {nm : ByteArray} {room : Int} {la : Option Addr} {ln lc : Nat} (h : Box W B nm room la ln lc) (hb : Below W.heap.size W W') : Box W' B nm room la ln lc := by
  have hlt := World.block_lt_of_cell? W _ h.1
  exact ⟨(hb.cell (p := ⟨B, 0, none⟩) hlt).trans h.1, (hb.cell (p := ⟨B, 1, none⟩) hlt).trans h.2.1, (hb.cell (p := ⟨B, 2, none⟩) hlt).trans h.2.2⟩
theorem Box.set {W : World} {B g o : Nat} {v : Value} {nm : ByteArray} {room : Int} {la : Option Addr} {ln lc : Nat} (h : Box W B nm room la ln lc) (hne : g ≠ B) : Box (W.setCell ⟨g, o, none⟩ v) B nm room la ln lc :=
  ⟨by rw [World.cell?_setCell_far _ _ _ _ hne]; exact h.1, by rw [World.cell?_setCell_far _ _ _ _ hne]; exact h.2.1, by rw [World.cell?_setCell_far _ _ _ _ hne]; exact h.2.2⟩
theorem Row.lt {base : Nat} {W : World} {g n : Nat} {f : Nat → Int} (h : Row base W (some ⟨g, 0, none⟩) n f) (hn : 0 < n) : g < W.heap.size ∧ base ≤ g := by
  rcases h with h | ⟨q, h1, h2, h3, _⟩
  · omega
  · cases h1; exact ⟨h3, h2⟩
theorem Row.cf {base : Nat} {W : World} {g n : Nat} {f : Nat → Int} (h : Row base W (some ⟨g, 0, none⟩) n f) {j : Nat} (hj : j < n) : W.cell? ⟨g, j, none⟩ = some (.int .i64 (f j)) ∧ W.frozen? ⟨g, j, none⟩ = false := by
  rcases h with h | ⟨q, h1, _, _, h4, h5⟩
  · omega
  · cases h1; exact ⟨h4 j hj, h5 j hj⟩
set_option maxRecDepth 100000 in
set_option maxHeartbeats 8000000 in
theorem right_ok (aL : Option Addr) (nL cL : Nat) (lL : List Ag) (aR : Option Addr) (nR cR : Nat) (lR : List Ag) (w : World) (hL : Ags w aL nL cL lL) (hR : Ags w aR nR cR lR) (hfL : ∀ g ∈ lL, g.ln ≤ 500) (hz : matchE lL lR = 0) :
    Calls Try.prog 11 #[.agg #[.slice aL nL cL, .slice aR nR cR]] w fun e w' => RightGot lL lR nL w e w' := by
  have hlL := hide hL.1
  have hlR := hide hR.1
  have hnL := hL.2.1
  have hcL := hL.2.2.1
  have hnR := hR.2.1
  have hcR := hR.2.2.1
  unfold maxLen at hcL hcR
  have HM := hide (match_may hz)
  have hsix : nL ≤ 6 := by have := (may_six (unhide HM)).1; have := unhide hlL; omega
  have hsixR : nR ≤ 6 := by have := (may_six (unhide HM)).2; have := unhide hlR; omega
  obtain ⟨i3, hi3, hz0, hz1, hz2⟩ := info_parts info3
  obtain ⟨wA, hwA⟩ : ∃ y, y = w.alloc (.cells #[.slice aL nL cL, .slice aR nR cR] 26) := ⟨_, rfl⟩
  have hbA : Below w.heap.size w wA := by rw [hwA]; go_grown
  have p0a : wA.cell? ⟨w.heap.size, 0, none⟩ = some (.slice aL nL cL) := by rw [hwA]; simp
  have p1a : wA.cell? ⟨w.heap.size, 1, none⟩ = some (.slice aR nR cR) := by rw [hwA]; simp
  have HW := hide hwA
  clear hwA
  go_enter Try.func11, Try.ntmps11
  go_wp2_with fail
  rw [← unhide HW]
  refine (mmay_any aL nL cL lL aR nR cR lR wA (hL.later hbA) (hR.later hbA)).mono ?_
  rintro e w1 ⟨rfl, hb1⟩
  rw [hz]
  clear hz
  have hbw1 := hbA.trans (hb1.mono hbA.size)
  have p0b := (hb1.cell (p := ⟨w.heap.size, 0, none⟩) (World.block_lt_of_cell? wA _ p0a)).trans p0a
  have p1b := (hb1.cell (p := ⟨w.heap.size, 1, none⟩) (World.block_lt_of_cell? wA _ p1a)).trans p1a
  clear p0a p1a
  have hpw : w.heap.size < w1.heap.size := World.block_lt_of_cell? w1 _ p0b
  go_wp2_with fail
  refine (alone_any aL nL cL aR nR cR w1 hsix).mono ?_
  rintro e w2 ⟨g1, rfl, hrow1, hg1, hb2⟩
  have p0c := (hb2.cell (p := ⟨w.heap.size, 0, none⟩) (World.block_lt_of_cell? w1 _ p0b)).trans p0b
  have p1c := (hb2.cell (p := ⟨w.heap.size, 1, none⟩) (World.block_lt_of_cell? w1 _ p1b)).trans p1b
  go_wp2_with (at_make; refine wpList_make_full _ rfl _ _ 22 rfl w2.heap.size 3 i3 _ 1 Try.underlying22 hi3 hz0 hz1 .i64 .i64 _ _ nR rfl rfl rfl rfl (by rw [hz2]; omega) (by unfold maxLen; omega) (Nat.le_refl _) ?_; intro w3 ho3 hg3; have hb3 : Below w2.heap.size w2 w3 := (Below.refl w2.heap.size w2).grown hg3 (Nat.le_refl _) (fun k hk => by cases hk); have p0d := (hb3.cell (p := ⟨w.heap.size, 0, none⟩) (World.block_lt_of_cell? w2 _ p0c)).trans p0c; have p1d := (hb3.cell (p := ⟨w.heap.size, 1, none⟩) (World.block_lt_of_cell? w2 _ p1c)).trans p1c; clear p0c p1c)
  have hrow2 : Row w1.heap.size w3 (some ⟨w2.heap.size, 0, none⟩) nR (fun _ => 0) := by
    rcases ho3.2 with ⟨h, _⟩ | ⟨g, cap, cur, h, _, hgg, _, _, hcs, htake⟩
    · cases h
    · cases h
      have e : cur.toList = rowK nR 0 := by rw [← made_zer, ← htake, List.take_of_length_le (by simp [hcs])]
      refine Row.of_block (cur := cur.toList) (by simpa using hgg) hb2.size (fun j hj => ?_)
      rw [e]
      simp [rowK, hj, zer]
  have hrow1' := hrow1.later hb3
  have hb13 : Below w1.heap.size w1 w3 := hb2.trans (hb3.mono hb2.size)
  have hne12 : nL = 0 ∨ g1 < w2.heap.size := by
    rcases hrow1 with h | ⟨q, h1, _, h3, _⟩
    · exact Or.inl h
    · cases h1; exact Or.inr h3
  have HNE := hide hne12
  have HG1 := hide hg1
  have HB2 := hide hb2
  clear ho3 hg3 hrow1 hne12 hg1 hb2 hb3
  obtain ⟨g2, hg2⟩ : ∃ g, g = w2.heap.size := ⟨_, rfl⟩
  rw [← hg2] at hrow2 ⊢
  have HG2 := hide hg2
  clear hg2 p0d p1d
  go_loopw [7] (fun i wr => Below w1.heap.size w1 wr ∧ ∃ (ws asked : List Int), Row w1.heap.size wr (some ⟨g1, 0, none⟩) nL (atL ws) ∧ Row w1.heap.size wr (some ⟨g2, 0, none⟩) nR (atL asked) ∧ RAsks lL lR ws asked ∧ ∃ b : Bool, i = .bool b ∧ (b = false → ∀ r, r < nR → ¬ Eager lR ws asked r)) (fun i wr => 2 * leftQ lR (intAt wr g2) nR + flag i)
  case atStart =>
    exact ⟨hb13, List.replicate lL.length (-1), List.replicate lR.length 0, hrow1'.same (fun j hj => (alone_at _ _ (by have := unhide hlL; omega)).symm), hrow2.same (fun j _ => (zero_at _ _).symm), RAsks.start lL lR, true, rfl, fun h => by cases h⟩
  case round =>
    obtain ⟨hbr, ws, asked, hr1, hr2, hA, b, rfl, hidle⟩ := hrel
    cases b with
    | false =>
      have HID := hide (hidle rfl)
      clear hidle
      go_wp2
      go_ret2
      exact ⟨g1, ws, asked, rfl, hr1.ints' (by have := hA.lens.1; have := unhide hlL; omega) (Nat.le_refl _) (by unfold maxLen; omega), Nat.le_trans hbw1.size (unhide HG1), hA, fun r hr => unhide HID r (by have := unhide hlR; omega), hbw1.trans (hbr.mono hbw1.size)⟩
    | true =>
      clear hidle hrow1' hrow2
      have HA0 := hide hA
      clear hA
      have p0r := (hbr.cell (p := ⟨w.heap.size, 0, none⟩) (World.block_lt_of_cell? w1 _ p0b)).trans p0b
      have p1r := (hbr.cell (p := ⟨w.heap.size, 1, none⟩) (World.block_lt_of_cell? w1 _ p1b)).trans p1b
      obtain ⟨Q0, hQ0⟩ : ∃ q, q = leftQ lR (intAt wr g2) nR := ⟨_, rfl⟩
      have HQ0 := hide hQ0
      clear hQ0
      go_wp2_with fail
      clear p0r p1r
      go_loopw [26, 7] (fun i v wq => Below w1.heap.size w1 wq ∧ ∃ (ws asked : List Int), Row w1.heap.size wq (some ⟨g1, 0, none⟩) nL (atL ws) ∧ Row w1.heap.size wq (some ⟨g2, 0, none⟩) nR (atL asked) ∧ RAsks lL lR ws asked ∧ ∃ (k : Nat) (b : Bool), k ≤ nR ∧ i = .int .i64 k ∧ v = .bool b ∧ (b = false → ∀ r, r < k → ¬ Eager lR ws asked r) ∧ leftQ lR (intAt wq g2) nR ≤ Q0 ∧ (b = true → leftQ lR (intAt wq g2) nR < Q0)) (fun i _ _ => nR - (intOf i).toNat)
      case atStart => exact ⟨hbr, ws, asked, hr1, hr2, unhide HA0, 0, false, Nat.zero_le _, rfl, rfl, fun _ r hr => by omega, by rw [unhide HQ0]; exact Nat.le_refl _, fun h => by cases h⟩
      case round =>
        rename World => wq
        clear hr1 hr2 hbr HA0
        obtain ⟨hbq, ws, asked, hr1, hr2, hA, k, b, hk, rfl, rfl, hidle, hQ, hQb⟩ := hrel
        have HA0 := hide hA
        have HID := hide hidle
        have HQ := hide hQ
        have HQB := hide hQb
        clear hA hidle hQ hQb
        have hbwq : Below w.heap.size w wq := hbw1.trans (hbq.mono hbw1.size)
        by_cases hkt : k < nR
        · obtain ⟨bR, oR, rfl, hbR, q1, q2, q3⟩ := (hR.later hbwq).at hkt
          have hIR := (hR.mem hkt).1
          have HLK := hide (show (agAt lR k).likes.length = (agAt lR k).ln from hIR.1.symm)
          have HLR := hide (fun (t : Nat) (ht : t < (agAt lR k).likes.length) => likes_right (unhide HM) (r := k) (by have := unhide hlR; omega) ht)
          have HEG := hide (fun ws asked => (show Eager lR ws asked k ↔ (atL asked k < (agAt lR k).likes.length ∧ (ws.count (k : Int) : Int) < (agAt lR k).room) from Iff.rfl))
          have HRA := hide (fun asked => (show raskL lR asked k = atL (agAt lR k).likes (atL asked k).toNat from rfl))
          have HLQ := hide (fun (f g : Nat → Int) h1 h2 h3 h4 => leftQ_less (lL := lR) (f := f) (g := g) (m := k) nR hkt h1 h2 h3 h4)
          generalize agAt lR k = G at *
          obtain ⟨nm, room, la, ln, lc, likes⟩ := G
          simp only at q1 q2 q3 hIR HLK HLR HEG HRA HLQ
          have hlnm := hIR.2.1
          have hlcm := hIR.2.2.1
          unfold maxLen at hlcm
          obtain ⟨B, hB⟩ : ∃ B, B = wq.heap.size := ⟨_, rfl⟩
          have hbox : Box (wq.alloc (.cells #[.string nm, .int .i64 room, .slice la ln lc] 37)) B nm room la ln lc := by rw [hB]; exact ⟨by simp, by simp, by simp⟩
          have hbB : Below wq.heap.size wq (wq.alloc (.cells #[.string nm, .int .i64 room, .slice la ln lc] 37)) := by go_grown
          have hB1 : g2 < B := by rw [hB]; exact (hr2.lt (by omega)).1
          have hB2 : nL = 0 ∨ g1 < B := by
            by_cases h : nL = 0
            · exact Or.inl h
            · rw [hB]; exact Or.inr (hr1.lt (by omega)).1
          have hr1B := hr1.later hbB
          have hr2B := hr2.later hbB
          have hQeq : leftQ lR (intAt (wq.alloc (.cells #[.string nm, .int .i64 room, .slice la ln lc] 37)) g2) nR = leftQ lR (intAt wq g2) nR := leftQ_same nR (fun j hj => by rw [hr2B.intAt hj, hr2.intAt hj])
          have HQ1 : Hid (leftQ lR (intAt (wq.alloc (.cells #[.string nm, .int .i64 room, .slice la ln lc] 37)) g2) nR ≤ Q0) := by show _ ≤ _; rw [hQeq]; exact unhide HQ
          have HQ2 : Hid (b = true → leftQ lR (intAt (wq.alloc (.cells #[.string nm, .int .i64 room, .slice la ln lc] 37)) g2) nR < Q0) := by show _ → _; rw [hQeq]; exact unhide HQB
          have hbqB := hbq.trans (hbB.mono hbq.size)
          have HB1 := hide hB1
          have HB2' := hide hB2
          have HBX := hide hbox
          have HB := hide hB
          clear hQeq HQ HQB hB1 hB2 hbox hbB hB
          go_wp2_with fail
          rw [← unhide HB]
          generalize wq.alloc (.cells #[.string nm, .int .i64 room, .slice la ln lc] 37) = wB at *
          clear q1 q2 q3 hr1 hr2
          go_loopw [7] (fun v wz => Below w1.heap.size w1 wz ∧ ∃ (ws asked : List Int), Row w1.heap.size wz (some ⟨g1, 0, none⟩) nL (atL ws) ∧ Row w1.heap.size wz (some ⟨g2, 0, none⟩) nR (atL asked) ∧ RAsks lL lR ws asked ∧ Box wz B nm room la ln lc ∧ ∃ (b : Bool), v = .bool b ∧ (b = false → ∀ r, r < k → ¬ Eager lR ws asked r) ∧ leftQ lR (intAt wz g2) nR ≤ Q0 ∧ (b = true → leftQ lR (intAt wz g2) nR < Q0)) (fun _ wz => leftQ lR (intAt wz g2) nR)
          case atStart => exact ⟨hbqB, ws, asked, hr1B, hr2B, unhide HA0, unhide HBX, b, rfl, unhide HID, unhide HQ1, unhide HQ2⟩
          case round =>
            rename World => wz
            clear hr1B hr2B HA0 HBX HID HQ1 HQ2 hbqB HB hbq hbwq hbR
            obtain ⟨hbz, ws, asked, hr1, hr2, hA, hbox, b, rfl, hidle, hQ, hQb⟩ := hrel
            have HA := hide hA
            have HLEN := hide hA.lens
            have HID := hide hidle
            have HQ := hide hQ
            have HQB := hide hQb
            clear hA hidle hQ hQb
            have hbwz : Below w.heap.size w wz := hbw1.trans (hbz.mono hbw1.size)
            have p0z := (hbz.cell (p := ⟨w.heap.size, 0, none⟩) (World.block_lt_of_cell? w1 _ p0b)).trans p0b
            have p1z := (hbz.cell (p := ⟨w.heap.size, 1, none⟩) (World.block_lt_of_cell? w1 _ p1b)).trans p1b
            obtain ⟨x0, x1, x2⟩ := hbox
            have HBX : Hid (Box wz B nm room la ln lc) := ⟨x0, x1, x2⟩
            obtain ⟨c2, f2⟩ := hr2.cf hkt
            have hx0 := (unhide HLEN).2.2 k
            obtain ⟨t, ht⟩ : ∃ t : Nat, atL asked k = t := ⟨(atL asked k).toNat, by omega⟩
            rw [ht] at c2
            have HT := hide ht
            clear hx0 ht
            have hI1 := hr1.ints' (cap := nL) (by have := (unhide HLEN).1; have := unhide hlL; omega) (Nat.le_refl _) (by unfold maxLen; omega)
            by_cases hc1 : (t : Int) < (ln : Int)
            · have d1 : decide ((t : Int) < (ln : Int)) = true := decide_eq_true hc1
              by_cases hc2 : (ws.count (k : Int) : Int) < room
              · have d2 : decide ((ws.count (k : Int) : Int) < room) = true := decide_eq_true hc2
                have HEAG : Hid (Eager lR ws asked k) := (unhide HEG ws asked).2 ⟨by have := unhide HT; have := unhide HLK; omega, hc2⟩
                clear hc2
                obtain ⟨lb, lo, rfl, hlb, hlcell⟩ := hIR.cellAt (by omega)
                have hl0 := (hbwz.cell (p := ⟨lb, lo + t, none⟩) hlb).trans (hlcell t (by omega))
                have hlr := unhide HLR t (by have := unhide HLK; omega)
                obtain ⟨l, hl⟩ : ∃ l : Nat, atL likes t = l := ⟨(atL likes t).toNat, by omega⟩
                have hlL2 : l < nL := by have := unhide hlL; omega
                rw [show likes[t]?.getD 0 = (l : Int) from hl] at hl0
                have HRK := hide (show raskL lR asked k = l by rw [unhide HRA asked, unhide HT, Int.toNat_natCast]; exact hl)
                clear hlcell hlr hl
                have hne : g1 ≠ g2 := by have := unhide HG2; rcases unhide HNE with h | h <;> omega
                have hg1B : g1 ≠ B := by rcases unhide HB2' with h | h <;> omega
                have hg2B : g2 ≠ B := by have := unhide HB1; omega
                have hpg : g2 ≠ w.heap.size := by have := (unhide HB2).size; have := unhide HG2; omega
                have HSTEP := hide ((unhide HA).step (by have := unhide hlR; omega) (unhide HEAG))
                unfold rstepW at HSTEP
                rw [unhide HRK, Int.toNat_natCast] at HSTEP
                obtain ⟨bL, oL, rfl, hbL0, z1, z2, z3⟩ := hL.at hlL2
                have hIL := (hL.mem hlL2).1
                have hsl : (agAt lL l).ln ≤ 500 := hfL _ (by unfold agAt; rw [List.getElem?_eq_getElem (show l < lL.length by have := unhide hlL; omega)]; simp)
                generalize hGL : agAt lL l = G at *
                obtain ⟨nm2, room2, la2, ln2, lc2, likes2⟩ := G
                simp only at z1 z2 z3 hIL hsl HSTEP
                clear hGL
                go_wp2_with fail
                go_quiet ((go_at_call 34; exact Calls.quiet_of_same (count_any _ nL nL ws k _ hI1)))
                have hbd1 := below_drewN wz.heap.size wz nq
                have hr1a := hr1.later hbd1
                have hr2a := hr2.later hbd1
                have hboxa := (unhide HBX).later hbd1
                have hbza := hbz.trans (hbd1.mono hbz.size)
                have l0a := (hbd1.cell (p := ⟨lb, lo + t, none⟩) (World.block_lt_of_cell? wz _ hl0)).trans hl0
                have p0a := (hbd1.cell (p := ⟨w.heap.size, 0, none⟩) (World.block_lt_of_cell? wz _ p0z)).trans p0z
                have p1a := (hbd1.cell (p := ⟨w.heap.size, 1, none⟩) (World.block_lt_of_cell? wz _ p1z)).trans p1z
                obtain ⟨c2a, f2a⟩ := hr2a.cf hkt
                rw [unhide HT] at c2a
                obtain ⟨x0a, x1a, x2a⟩ := hboxa
                have HBXa : Hid (Box (wz.drewN nq) B nm room (some ⟨lb, lo, none⟩) ln lc) := ⟨x0a, x1a, x2a⟩
                clear x0 x1 x2 c2 f2 hl0 p0z p1z hI1 hbd1
                generalize wz.drewN nq = wa at *
                go_wp2_with fail
                go_quiet (fail)
                have hbd2 := below_drewN wa.heap.size wa nq
                have hr1b := hr1a.later hbd2
                have hr2b := hr2a.later hbd2
                have hboxb := (unhide HBXa).later hbd2
                have hbzb := hbza.trans (hbd2.mono hbza.size)
                have p0b2 := (hbd2.cell (p := ⟨w.heap.size, 0, none⟩) (World.block_lt_of_cell? wa _ p0a)).trans p0a
                have p1b2 := (hbd2.cell (p := ⟨w.heap.size, 1, none⟩) (World.block_lt_of_cell? wa _ p1a)).trans p1a
                obtain ⟨c2b, f2b⟩ := hr2b.cf hkt
                rw [unhide HT] at c2b
                clear x0a x1a x2a c2a f2a l0a p0a p1a hbd2 HBXa
                generalize wa.drewN nq = wb at *
                have hr2c : Row w1.heap.size (wb.setCell ⟨g2, k, none⟩ (.int .i64 ((t : Int) + 1))) (some ⟨g2, 0, none⟩) nR (atL (stepA asked k)) :=
                  hr2b.set hkt (fun j hj hjk => by unfold stepA; rw [set_at asked k _ j (by have := (unhide HLEN).2.1; have := unhide hlR; omega), if_neg hjk]) (by unfold stepA; rw [set_at asked k _ k (by have := (unhide HLEN).2.1; have := unhide hlR; omega), if_pos rfl, unhide HT])
                have hr1c := hr1b.far (grownBy_set wb g2 k (.int .i64 ((t : Int) + 1))) hne
                have hboxc := hboxb.set (o := k) (v := .int .i64 ((t : Int) + 1)) hg2B
                have hbzc : Below w1.heap.size w1 (wb.setCell ⟨g2, k, none⟩ (.int .i64 ((t : Int) + 1))) := hbzb.setCell (by have := (unhide HB2).size; have := unhide HG2; simp; omega) _
                have p0c : (wb.setCell ⟨g2, k, none⟩ (.int .i64 ((t : Int) + 1))).cell? ⟨w.heap.size, 0, none⟩ = some (.slice (some ⟨bL, oL, none⟩) nL cL) := by rw [World.cell?_setCell_far _ _ _ _ hpg]; exact p0b2
                have HTT : (t : Int) + 1 ≤ 9223372036854775807 := by omega
                go_wp2_with fail
                generalize wb.setCell ⟨g2, k, none⟩ (.int .i64 ((t : Int) + 1)) = wc at *
                clear c2b f2b p0b2 p1b2 hr1a hr1b hr2a hr2b hboxb hbza hbzb
                have hbwc : Below w.heap.size w wc := hbw1.trans (hbzc.mono hbw1.size)
                obtain ⟨y1, fy1⟩ := hr1c.cf hlL2
                have C1 := hide (fun d os => Calls.regrown_of (rather_any nm2 room2 la2 ln2 lc2 likes2 k (atL ws l) _ (hIL.later (hbwc.trans ((below_regrown wc d os).mono hbwc.size))) hsl))
                have p0g := cell_regrown p0c
                have z1g := cell_regrown ((hbwc.cell (p := ⟨bL, oL + l * 3, none⟩) hbL0).trans z1)
                have z2g := cell_regrown ((hbwc.cell (p := ⟨bL, oL + l * 3 + 1, none⟩) hbL0).trans z2)
                have z3g := cell_regrown ((hbwc.cell (p := ⟨bL, oL + l * 3 + 2, none⟩) hbL0).trans z3)
                have y1g := cell_regrown y1
                have HMSG : Hid (∀ wd : World, Row w1.heap.size wd (some ⟨g2, 0, none⟩) nR (atL (stepA asked k)) → leftQ lR (intAt wd g2) nR < leftQ lR (intAt wz g2) nR) := fun wd hrd => by
                  rw [leftQ_same (g := atL (stepA asked k)) nR (fun j hj => hrd.intAt hj), leftQ_same (f := intAt wz g2) (g := atL asked) nR (fun j hj => hr2.intAt hj)]
                  refine unhide HLQ (atL asked) (atL (stepA asked k)) (fun j hj hjm => ?_) ((unhide HLEN).2.2 k) (by have := unhide HT; have := unhide HLK; omega) ?_
                  · unfold stepA; rw [set_at asked k _ j (by have := (unhide HLEN).2.1; have := unhide hlR; omega), if_neg hjm]
                  · unfold stepA; rw [set_at asked k _ k (by have := (unhide HLEN).2.1; have := unhide hlR; omega), if_pos rfl]
                cases hq : ratherB likes2 k (atL ws l) with
                | true =>
                  rw [hq] at C1 HSTEP
                  rw [if_pos rfl] at HSTEP
                  refine wp_region_quiet_below (by kernel_rfl) (by kernel_rfl) ?_
                  repeat (quiet_step (first | exact unhide C1 _ _))
                  refine wpQuiet_nil ?_
                  intro _ hw'
                  obtain ⟨⟨dq, osq⟩, hw''⟩ := hw'
                  subst hw''
                  have hbd := below_regrown wc dq osq
                  have hr1d := hr1c.later hbd
                  have hr2d := hr2c.later hbd
                  have hboxd := hboxc.later hbd
                  have hbzd := hbzc.trans (hbd.mono hbzc.size)
                  clear p0g z1g z2g z3g y1g C1 p0c y1 fy1 hbd
                  generalize Sort.grow (redrawn wc dq) osq = wd at *
                  obtain ⟨yd, fd⟩ := hr1d.cf hlL2
                  have hr1e : Row w1.heap.size (wd.setCell ⟨g1, l, none⟩ (.int .i64 k)) (some ⟨g1, 0, none⟩) nL (atL (ws.set l (k : Int))) :=
                    hr1d.set hlL2 (fun j hj hjk => by rw [set_at ws l _ j (by have := (unhide HLEN).1; have := unhide hlL; omega), if_neg hjk]) (by rw [set_at ws l _ l (by have := (unhide HLEN).1; have := unhide hlL; omega), if_pos rfl])
                  have hr2e := hr2d.far (grownBy_set wd g1 l (.int .i64 k)) (fun e => hne e.symm)
                  have hboxe := hboxd.set (o := l) (v := .int .i64 k) hg1B
                  have hbze : Below w1.heap.size w1 (wd.setCell ⟨g1, l, none⟩ (.int .i64 k)) := hbzd.setCell (unhide HG1) _
                  have HR1 := hide hr1e
                  have HR2 := hide hr2e
                  have HBE := hide hboxe
                  clear hr1e hr2e hboxe hr1c hr2c hboxc hr1d hr2d hboxd
                  go_wp2
                  go_roundw
                  case rel => exact ⟨hbze, _, _, unhide HR1, unhide HR2, unhide HSTEP, unhide HBE, true, rfl, (fun h => by cases h), Nat.le_of_lt (Nat.lt_of_lt_of_le (unhide HMSG _ (unhide HR2)) (unhide HQ)), fun _ => Nat.lt_of_lt_of_le (unhide HMSG _ (unhide HR2)) (unhide HQ)⟩
                  case measure => exact unhide HMSG _ (unhide HR2)
                | false =>
                  rw [hq] at C1 HSTEP
                  rw [if_neg (by decide)] at HSTEP
                  refine wp_region_quiet_below (by kernel_rfl) (by kernel_rfl) ?_
                  repeat (quiet_step (first | exact unhide C1 _ _))
                  refine wpQuiet_nil ?_
                  intro _ hw'
                  obtain ⟨⟨dq, osq⟩, hw''⟩ := hw'
                  subst hw''
                  have hbd := below_regrown wc dq osq
                  have hr1d := hr1c.later hbd
                  have hr2d := hr2c.later hbd
                  have hboxd := hboxc.later hbd
                  have hbzd := hbzc.trans (hbd.mono hbzc.size)
                  clear p0g z1g z2g z3g y1g C1 p0c y1 fy1 hbd
                  generalize Sort.grow (redrawn wc dq) osq = wd at *
                  have HR1 := hide hr1d
                  have HR2 := hide hr2d
                  have HBE := hide hboxd
                  clear hr1c hr2c hboxc hr1d hr2d hboxd
                  go_wp2
                  go_roundw
                  case rel => exact ⟨hbzd, _, _, unhide HR1, unhide HR2, unhide HSTEP, unhide HBE, true, rfl, (fun h => by cases h), Nat.le_of_lt (Nat.lt_of_lt_of_le (unhide HMSG _ (unhide HR2)) (unhide HQ)), fun _ => Nat.lt_of_lt_of_le (unhide HMSG _ (unhide HR2)) (unhide HQ)⟩
                  case measure => exact unhide HMSG _ (unhide HR2)
              · have d2 : decide ((ws.count (k : Int) : Int) < room) = false := decide_eq_false hc2
                have HNEG : Hid (¬ Eager lR ws asked k) := fun h => hc2 ((unhide HEG ws asked).1 h).2
                clear hc2
                go_wp2_with fail
                go_quiet ((go_at_call 34; exact Calls.quiet_of_same (count_any _ nL nL ws k _ hI1)))
                go_wp2
                go_roundw
                case rel =>
                  have hbd := below_drewN wz.heap.size wz nq
                  have hr2d := hr2.later hbd
                  have hQe : leftQ lR (intAt (wz.drewN nq) g2) nR = leftQ lR (intAt wz g2) nR := leftQ_same nR (fun j hj => by rw [hr2d.intAt hj, hr2.intAt hj])
                  refine ⟨hbz.trans (hbd.mono hbz.size), ws, asked, hr1.later hbd, hr2d, unhide HA, k+1, b, by omega, by go_num, rfl, fun hb r hr => ?_, by rw [hQe]; exact unhide HQ, by rw [hQe]; exact unhide HQB⟩
                  rcases Nat.lt_or_ge r k with h | h
                  · exact unhide HID hb r h
                  · rw [show r = k by omega]; exact unhide HNEG
                case measure => simp [intOf]; omega
            · have d1 : decide ((t : Int) < (ln : Int)) = false := decide_eq_false hc1
              have d1' : ¬ t < ln := by omega
              have d1'' : decide (t < ln) = false := decide_eq_false d1'
              have HNEG : Hid (¬ Eager lR ws asked k) := fun h => by have := ((unhide HEG ws asked).1 h).1; have := unhide HT; have := unhide HLK; omega
              clear hc1
              go_wp2_with fail
              go_quiet (fail)
              go_wp2
              go_roundw
              case rel =>
                have hbd := below_drewN wz.heap.size wz nq
                have hr2d := hr2.later hbd
                have hQe : leftQ lR (intAt (wz.drewN nq) g2) nR = leftQ lR (intAt wz g2) nR := leftQ_same nR (fun j hj => by rw [hr2d.intAt hj, hr2.intAt hj])
                refine ⟨hbz.trans (hbd.mono hbz.size), ws, asked, hr1.later hbd, hr2d, unhide HA, k+1, b, by omega, by go_num, rfl, fun hb r hr => ?_, by rw [hQe]; exact unhide HQ, by rw [hQe]; exact unhide HQB⟩
                rcases Nat.lt_or_ge r k with h | h
                · exact unhide HID hb r h
                · rw [show r = k by omega]; exact unhide HNEG
              case measure => simp [intOf]; omega
        · go_wp2
          go_roundw
          case rel => exact ⟨hbq, ws, asked, hr1, hr2, unhide HA0, b, rfl, fun hb r hr => unhide HID hb r (by omega)⟩
          case measure =>
            rw [← unhide HQ0]
            cases b with
            | true => have := unhide HQB rfl; show 2 * _ + 1 < 2 * _ + 1; omega
            | false => have := unhide HQ; show 2 * _ + 0 < 2 * _ + 1; omega
end Go.Proofs.Ytodbnjainpjkcaa
