import Derived.Test.YtajdijjecojdhaaDoorWD
namespace Go.Proofs.YtajdijjecojdhaaDoor
open Go.RowKit
def mayFuel (all : List Ag) (nL nR : Nat) : Nat → Nat → Int
  | 0, _ => 0
  | f + 1, k => if agE (agAt all k) (all.take k) (if k < nL then (nR : Int) else nL) = 0 then mayFuel all nL nR f (k + 1) else agE (agAt all k) (all.take k) (if k < nL then (nR : Int) else nL)
def mayFrom (all : List Ag) (nL nR : Nat) (k : Nat) : Int := mayFuel all nL nR (all.length - k) k
theorem mayFrom_step {all : List Ag} {nL nR k : Nat} (h : k < all.length) : mayFrom all nL nR k = if agE (agAt all k) (all.take k) (if k < nL then (nR : Int) else nL) = 0 then mayFrom all nL nR (k+1) else agE (agAt all k) (all.take k) (if k < nL then (nR : Int) else nL) := by
  unfold mayFrom
  rw [show all.length - k = (all.length - (k + 1)) + 1 by omega, mayFuel]
theorem mayFrom_end {all : List Ag} {nL nR k : Nat} (h : ¬ k < all.length) : mayFrom all nL nR k = 0 := by
  unfold mayFrom
  rw [show all.length - k = 0 by omega, mayFuel]
def mayE (lL lR : List Ag) : Int := if 6 < lL.length ∨ 6 < lR.length then 2 else mayFrom (lL ++ lR) lL.length lR.length 0
theorem Ags.take {w : World} {a : Option Addr} {n c : Nat} {l : List Ag} (h : Ags w a n c l) (k : Nat) (hk : k ≤ n) : Ags w a k c (l.take k) := by
  obtain ⟨hn, hc, hm, hg, h⟩ := h
  refine ⟨by simp; omega, by omega, hm, fun g m => hg g (List.mem_of_mem_take m), ?_⟩
  rcases h with h0 | ⟨b, off, rfl, hlt, hcell⟩
  · exact Or.inl (by omega)
  · refine Or.inr ⟨b, off, rfl, hlt, fun j hj => ?_⟩
    have e : agAt (l.take k) j = agAt l j := by unfold agAt; rw [List.getElem?_take, if_pos hj]
    rw [e]
    exact hcell j (by omega)
theorem Ags.mem {w : World} {a : Option Addr} {n c : Nat} {l : List Ag} (h : Ags w a n c l) {k : Nat} (hk : k < n) : Ints w (agAt l k).la (agAt l k).ln (agAt l k).lc (agAt l k).likes ∧ (agAt l k).name.size ≤ maxLen := by
  refine h.2.2.2.1 _ ?_
  unfold agAt
  rw [List.getElem?_eq_getElem (show k < l.length by have := h.1; omega)]
  simp
theorem mayAgent_at (g : Ag) (a : Option Addr) (n c : Nat) (l : List Ag) (o : Int) (w : World) (h : Ags w a n c l) (hl : Ints w g.la g.ln g.lc g.likes ∧ g.name.size ≤ maxLen) :
    Calls Tryd.prog 20 #[.agg #[.string g.name, .int .i64 g.room, .slice g.la g.ln g.lc], .slice a n c, .int .i64 o] w fun e w' => e = .returned (.int .i64 (agE g l o)) ∧ Below w.heap.size w w' :=
  mayAgent_any g.name g.room g.la g.ln g.lc g.likes a n c l o w h hl.1 hl.2
set_option maxHeartbeats 2000000 in
theorem may_any (aL : Option Addr) (nL cL : Nat) (lL : List Ag) (aR : Option Addr) (nR cR : Nat) (lR : List Ag) (w : World) (hL : Ags w aL nL cL lL) (hR : Ags w aR nR cR lR) :
    Calls Tryd.prog 9 #[.agg #[.slice aL nL cL, .slice aR nR cR]] w fun e w' => e = .returned (.int .i64 (mayE lL lR)) ∧ Below w.heap.size w w' := by
  have hlL := hide hL.1
  have hlR := hide hR.1
  have hcL := hL.2.2.1
  have hcR := hR.2.2.1
  have hnL := hL.2.1
  have hnR := hR.2.1
  unfold maxLen at hcL hcR
  by_cases h1 : 6 < nL
  · go_enter Tryd.func9, Tryd.ntmps9
    go_wp2
    go_ret
    exact ⟨ret_int (by unfold mayE; rw [if_pos (Or.inl (by have := unhide hlL; omega))]), by go_grown⟩
  by_cases h2 : 6 < nR
  · go_enter Tryd.func9, Tryd.ntmps9
    go_wp2
    go_ret
    exact ⟨ret_int (by unfold mayE; rw [if_pos (Or.inr (by have := unhide hlR; omega))]), by go_grown⟩
  have hfin : mayE lL lR = mayFrom (lL ++ lR) nL nR 0 := by unfold mayE; rw [if_neg (by have := unhide hlL; have := unhide hlR; omega), ← unhide hlL, ← unhide hlR]
  have HF := hide hfin
  have g1 : decide (6 < (nL : Int)) = false := by simp; omega
  have g2 : decide (6 < (nR : Int)) = false := by simp; omega
  clear hfin
  have hb0 : Below w.heap.size w ((w.alloc (.cells #[.slice aL nL cL, .slice aR nR cR] 24)).alloc (.cells #[.slice aL nL cL, .slice aR nR cR] 22)) := by go_grown
  go_enter Tryd.func9, Tryd.ntmps9
  go_wp2_with fail
  refine (concat_any aL nL cL lL aR nR cR lR (w.heap.size + 1) _ (hL.later hb0) (hR.later hb0) (by omega) (by omega) (by simp) (by simp) (by simp)).mono ?_
  rintro e w1 ⟨a, c, rfl, hA, hb1⟩
  have hA0 := hA
  obtain ⟨hAn, hAc, hAm, _, hrow⟩ := hA
  unfold maxLen at hAm
  have HA := hide hAn
  clear hAn
  have hbw : Below w.heap.size w w1 := hb0.trans (hb1.mono hb0.size)
  have e0 : w1.cell? ⟨w.heap.size, 0, none⟩ = some (.slice aL nL cL) := (hb1.cell (p := ⟨w.heap.size, 0, none⟩) (by simp; omega)).trans (by rw [World.cell?_alloc_past _ _ _ (by simp)]; simp)
  have e1 : w1.cell? ⟨w.heap.size, 1, none⟩ = some (.slice aR nR cR) := (hb1.cell (p := ⟨w.heap.size, 1, none⟩) (by simp; omega)).trans (by rw [World.cell?_alloc_past _ _ _ (by simp)]; simp)
  have hsz1 : w.heap.size < w1.heap.size := by have := hb1.size; simp at this; omega
  rcases hrow with h0 | ⟨b, off, rfl, hb, hcell⟩
  · have h0' : ((nL : Int) + (nR : Int)) = 0 := by omega
    have hz : nL = 0 := by omega
    have hz' : nR = 0 := by omega
    subst hz
    subst hz'
    go_wp2_with fail
    refine wp_loop_rounds 1 ?_
    rw [rounds_succ]
    go_wp2
    go_ret
    exact ⟨ret_int (by rw [unhide HF, mayFrom_end (by have := unhide HA; omega)]), hbw⟩
  go_wp2_with fail
  go_loopw [26] (fun i wr => Below w1.heap.size w1 wr ∧ ∃ k : Nat, k ≤ nL + nR ∧ i = .int .i64 k ∧ mayFrom (lL ++ lR) nL nR 0 = mayFrom (lL ++ lR) nL nR k) (fun i _ => nL + nR - (intOf i).toNat)
  case atStart => exact ⟨Below.refl _ _, 0, Nat.zero_le _, rfl, rfl⟩
  case round =>
    obtain ⟨hbr, k, hk, rfl, hn⟩ := hrel
    have HI := hide hn
    clear hn
    have hbwr : Below w.heap.size w wr := hbw.trans (hbr.mono (by omega))
    by_cases hlt : k < nL + nR
    · have hAr := hA0.later hbr
      obtain ⟨q1, q2, q3⟩ := hcell k hlt
      have r1 := (hbr.cell (p := ⟨b, off + k * 3, none⟩) hb).trans q1
      have r2 := (hbr.cell (p := ⟨b, off + k * 3 + 1, none⟩) hb).trans q2
      have r3 := (hbr.cell (p := ⟨b, off + k * 3 + 2, none⟩) hb).trans q3
      have s0 := (hbr.cell (p := ⟨w.heap.size, 0, none⟩) hsz1).trans e0
      have s1 := (hbr.cell (p := ⟨w.heap.size, 1, none⟩) hsz1).trans e1
      have hszr : w.heap.size < wr.heap.size := Nat.lt_of_lt_of_le hsz1 hbr.size
      have hszb : b < wr.heap.size := Nat.lt_of_lt_of_le hb hbr.size
      have HC := hide hcell
      clear q1 q2 q3 hcell
      have hst := hide (mayFrom_step (all := lL ++ lR) (nL := nL) (nR := nR) (k := k) (by have := unhide HA; omega))
      have hAl := fun o => hAr.later (w' := (wr.alloc o).drew) (by go_grown)
      have hgl := fun o => (hAl o).mem hlt
      have hbx : ∀ o, Below wr.heap.size wr (wr.alloc o).drew := fun o => by go_grown
      by_cases hkL : k < nL
      · rw [if_pos hkL] at hst
        generalize hE : agE (agAt (lL ++ lR) k) ((lL ++ lR).take k) (nR : Int) = E at hst
        have HE := hide hE
        clear hE
        by_cases hz : E = 0
        · subst hz
          rw [if_pos rfl] at hst
          go_wp2_with fail
          go_region_with (go_at_call 20; refine (mayAgent_at (agAt (lL ++ lR) k) _ k c ((lL ++ lR).take k) _ _ ((hAl _).take k hk) (hgl _)).mono ?_; rintro e w2 ⟨rfl, hb2⟩)
          all_goals
            rw [unhide HE]
            go_wp2
            go_roundw
            case rel => exact ⟨hbr.trans ((((hbx _).trans (hb2.mono (by simp)))).mono hbr.size), k+1, by omega, by go_num, by rw [unhide HI, unhide hst]⟩
            case measure => simp [intOf]; omega
        · rw [if_neg hz] at hst
          have hzb : (E != 0) = true := by simpa using hz
          go_wp2_with fail
          go_region_with (go_at_call 20; refine (mayAgent_at (agAt (lL ++ lR) k) _ k c ((lL ++ lR).take k) _ _ ((hAl _).take k hk) (hgl _)).mono ?_; rintro e w2 ⟨rfl, hb2⟩)
          all_goals
            rw [unhide HE]
            go_wp2
            go_ret
            exact ⟨ret_int (by rw [unhide HF, unhide HI, unhide hst]), hbwr.trans (((hbx _).trans (hb2.mono (by simp))).mono hbwr.size)⟩
      · rw [if_neg hkL] at hst
        generalize hE : agE (agAt (lL ++ lR) k) ((lL ++ lR).take k) (nL : Int) = E at hst
        have HE := hide hE
        clear hE
        by_cases hz : E = 0
        · subst hz
          rw [if_pos rfl] at hst
          go_wp2_with fail
          go_region_with (go_at_call 20; refine (mayAgent_at (agAt (lL ++ lR) k) _ k c ((lL ++ lR).take k) _ _ ((hAl _).take k hk) (hgl _)).mono ?_; rintro e w2 ⟨rfl, hb2⟩)
          all_goals
            rw [unhide HE]
            go_wp2
            go_roundw
            case rel => exact ⟨hbr.trans ((((hbx _).trans (hb2.mono (by simp)))).mono hbr.size), k+1, by omega, by go_num, by rw [unhide HI, unhide hst]⟩
            case measure => simp [intOf]; omega
        · rw [if_neg hz] at hst
          have hzb : (E != 0) = true := by simpa using hz
          go_wp2_with fail
          go_region_with (go_at_call 20; refine (mayAgent_at (agAt (lL ++ lR) k) _ k c ((lL ++ lR).take k) _ _ ((hAl _).take k hk) (hgl _)).mono ?_; rintro e w2 ⟨rfl, hb2⟩)
          all_goals
            rw [unhide HE]
            go_wp2
            go_ret
            exact ⟨ret_int (by rw [unhide HF, unhide HI, unhide hst]), hbwr.trans (((hbx _).trans (hb2.mono (by simp))).mono hbwr.size)⟩
    · go_wp2
      go_ret
      exact ⟨ret_int (by rw [unhide HF, unhide HI, mayFrom_end (by have := unhide HA; omega)]), hbwr⟩
end Go.Proofs.YtajdijjecojdhaaDoor
