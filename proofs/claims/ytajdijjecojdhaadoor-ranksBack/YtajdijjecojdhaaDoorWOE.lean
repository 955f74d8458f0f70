import Derived.Test.YtajdijjecojdhaaDoorWOD
import Derived.Test.YtajdijjecojdhaaDoorWT
namespace Go.Proofs.YtajdijjecojdhaaDoor
open Go.RowKit
attribute [local go_sem] Oper.semAt_some
set_option maxRecDepth 100000 in
set_option maxHeartbeats 4000000 in
theorem back_any (aL : Option Addr) (nL cL : Nat) (lL : List Ag) (aR : Option Addr) (nR cR : Nat) (lR : List Ag) (w : World) (hL : Ags w aL nL cL lL) (hR : Ags w aR nR cR lR)
    (hsL : Small lL) (hsR : Small lR) (hmL : nL ≤ 140737488351232) (hmR : nR ≤ 140737488351232) (hg : Glob w) :
    Calls Tryd.prog 5 #[.agg #[.slice aL nL cL, .slice aR nR cR]] w fun e w' => e = .returned (.bool true) ∧ Below w.heap.size w w' := by
  obtain ⟨wA, hwA⟩ : ∃ y, y = w.alloc (.cells #[.slice aL nL cL, .slice aR nR cR] 24) := ⟨_, rfl⟩
  have hbA : Below w.heap.size w wA := by rw [hwA]; go_grown
  have a0 : wA.cell? ⟨w.heap.size, 0, none⟩ = some (.slice aL nL cL) := by rw [hwA]; simp
  have a1 : wA.cell? ⟨w.heap.size, 1, none⟩ = some (.slice aR nR cR) := by rw [hwA]; simp
  have HW := hide hwA
  clear hwA
  go_enter Tryd.func5, Tryd.ntmps5
  go_wp2_with fail
  rw [← unhide HW]
  refine (heavy_any aL nL cL lL aR nR cR lR wA (hL.later hbA) (hR.later hbA) hsL hsR hmL hmR).mono ?_
  rintro e w1 ⟨hv, rfl, hfl, hb1⟩
  have hb1w : Below w.heap.size w w1 := hbA.trans (hb1.mono hbA.size)
  have c0 := (hb1.cell (p := ⟨w.heap.size, 0, none⟩) (World.block_lt_of_cell? wA _ a0)).trans a0
  have c1 := (hb1.cell (p := ⟨w.heap.size, 1, none⟩) (World.block_lt_of_cell? wA _ a1)).trans a1
  cases hv with
  | true =>
    go_wp2
    go_ret
    exact ⟨rfl, hb1w⟩
  | false =>
  obtain ⟨hfL, hfR⟩ := hfl rfl
  have hlL : ∀ g ∈ lL, g.likes.length ≤ 500 := fun g hg => by have := (hL.2.2.2.1 g hg).1.1; have := hfL g hg; omega
  have hlR : ∀ g ∈ lR, g.likes.length ≤ 500 := fun g hg => by have := (hR.2.2.2.1 g hg).1.1; have := hfR g hg; omega
  have HPR := hide (print_any aL nL cL lL aR nR cR lR w1 (hL.later hb1w) (hR.later hb1w) hlL hlR)
  clear hfl hfL hfR hlL hlR a0 a1
  go_wp2_with fail
  refine (unhide HPR).mono ?_
  rintro e w2 ⟨rfl, hb2⟩
  have hb2w : Below w.heap.size w w2 := hb1w.trans (hb2.mono hb1w.size)
  have e0 := (hb2.cell (p := ⟨w.heap.size, 0, none⟩) (World.block_lt_of_cell? w1 _ c0)).trans c0
  have e1 := (hb2.cell (p := ⟨w.heap.size, 1, none⟩) (World.block_lt_of_cell? w1 _ c1)).trans c1
  have HRM := hide (ranksMay_any aL nL cL lL aR nR cR lR w2 (hL.later hb2w) (hR.later hb2w))
  have HB2 := hide hb2w
  clear c0 c1 HPR hb1w hb1 hb2
  by_cases hz : mayE lL lR = 0
  · obtain ⟨t1, t2⟩ := text_size hz
    have hpb : printB lL lR = textB lL lR := by unfold printB; rw [if_pos hz]
    have hsp := spec_back hz
    rw [hpb, hz]
    obtain ⟨s, hs⟩ : ∃ s, s = mkB (textB lL lR) := ⟨_, rfl⟩
    have hss : s.size = (textB lL lR).length := by rw [hs]; exact mkB_size _
    rw [show (⟨(textB lL lR).toArray⟩ : ByteArray) = s from hs.symm]
    rw [← hs] at hsp
    have HPA := hide (parse_any s w2 (by omega) (hg.later hb2w))
    have hnL := hL.1
    have hnR := hR.1
    have hlen : (nL : Int) + (nR : Int) ≤ (s.size : Int) := by omega
    have hlen2 : nL + nR ≤ 3000 := by omega
    have HSP := hide hsp
    clear hsp t1 t2 hpb hs hss HRM hz hnL hnR
    go_wp2_with fail
    refine (unhide HPA).mono ?_
    rintro e w3 ⟨bL, pL, dL, mL, bR, pR, dR, mR, rfl, gL, gR, q1, q2, hb3⟩
    rw [unhide HSP]
    rw [unhide HSP] at q1 q2
    have HQ := hide (And.intro q1 q2)
    have hb3w : Below w.heap.size w w3 := (unhide HB2).trans (hb3.mono (unhide HB2).size)
    have k0 := (hb3.cell (p := ⟨w.heap.size, 0, none⟩) (World.block_lt_of_cell? w2 _ e0)).trans e0
    have k1 := (hb3.cell (p := ⟨w.heap.size, 1, none⟩) (World.block_lt_of_cell? w2 _ e1)).trans e1
    have hlt : w.heap.size < w3.heap.size := World.block_lt_of_cell? w3 _ k0
    obtain ⟨wB, hwB⟩ : ∃ y, y = w3.alloc (.cells #[.slice bL pL dL, .slice bR pR dR] 24) := ⟨_, rfl⟩
    have hbB : Below w3.heap.size w3 wB := by rw [hwB]; go_grown
    have hbBw : Below w.heap.size w wB := hb3w.trans (hbB.mono hb3w.size)
    have HX := hide hwB
    have HSM := hide (samePairing_any aL nL cL lL aR nR cR lR bL pL dL mL bR pR dR mR wB (hL.later hbBw) (hR.later hbBw) (gL.later hbB) (gR.later hbB))
    have m0 := (hbB.cell (p := ⟨w.heap.size, 0, none⟩) hlt).trans k0
    have m1 := (hbB.cell (p := ⟨w.heap.size, 1, none⟩) hlt).trans k1
    have HBW := hide hbBw
    clear hwB q1 q2 e0 e1 gL gR hb3 HPA hbB hbBw hb3w
    go_wp2_with fail
    rw [← unhide HX]
    refine (unhide HSM).mono ?_
    rintro e w4 ⟨rfl, hb4⟩
    have e1 : sagB lL mL = true := sagB_plainA (unhide HQ).1.symm
    have e2 : sagB lR mR = true := sagB_plainA (unhide HQ).2.symm
    rw [e1, e2]
    have n0 := (hb4.cell (p := ⟨w.heap.size, 0, none⟩) (World.block_lt_of_cell? wB _ m0)).trans m0
    have n1 := (hb4.cell (p := ⟨w.heap.size, 1, none⟩) (World.block_lt_of_cell? wB _ m1)).trans m1
    have hd : decide ((nL : Int) + (nR : Int) ≤ (s.size : Int)) = true := decide_eq_true hlen
    clear k0 k1 m0 m1
    go_wp2
    go_ret
    exact ⟨rfl, (unhide HBW).trans (hb4.mono (unhide HBW).size)⟩
  · generalize mayE lL lR = code at *
    go_wp2_with fail
    refine (unhide HRM).mono ?_
    rintro e w3 ⟨rfl, hb3⟩
    go_wp2
    go_ret
    exact ⟨rfl, (unhide HB2).trans (hb3.mono (unhide HB2).size)⟩
end Go.Proofs.YtajdijjecojdhaaDoor
