import Derived.Test.YtajdijjecojdhaaDoorWP
import Derived.Test.YtajdijjecojdhaaDoorWG3
import Derived.Deep.RegionHeld3
namespace Go.Proofs.YtajdijjecojdhaaDoor
open Go.RowKit
theorem sideText_at (g : Ag) (aO : Option Addr) (nO cO : Nat) (others : List Ag) (w : World) (hI : Ints w g.la g.ln g.lc g.likes) (hO : Ags w aO nO cO others) (hF : Fair others g) (hfO : ∀ g ∈ others, g.name.size ≤ 500) :
    Calls Tryd.prog 18 #[.agg #[.string g.name, .int .i64 g.room, .slice g.la g.ln g.lc], .slice aO nO cO] w fun e w' => e = .returned (.string ⟨(tailB others g).toArray⟩) ∧ Below w.heap.size w w' :=
  sideText_any g.name g.room g.la g.ln g.lc g.likes aO nO cO others w hI hO hF hfO
set_option maxRecDepth 100000 in
set_option maxHeartbeats 4000000 in
theorem ranksPrint_main (aL : Option Addr) (nL cL : Nat) (lL : List Ag) (aR : Option Addr) (nR cR : Nat) (lR : List Ag) (w : World) (hL : Ags w aL nL cL lL) (hR : Ags w aR nR cR lR)
    (hlL : ∀ g ∈ lL, g.likes.length ≤ 500) (hlR : ∀ g ∈ lR, g.likes.length ≤ 500) (hz : mayE lL lR = 0) :
    Calls Tryd.prog 8 #[.agg #[.slice aL nL cL, .slice aR nR cR]] w fun e w' => e = .returned (.tuple #[.string ⟨(textB lL lR).toArray⟩, .int .i64 0]) ∧ Below w.heap.size w w' := by
  have hb0 : Below w.heap.size w (w.alloc (.cells #[.slice aL nL cL, .slice aR nR cR] 24)) := by go_grown
  have hfL := fair_left hz hlL
  have hfR := fair_right hz hlR
  have hn := may_zero hz
  have HZ := hide hz
  have hnL : nL ≤ 6 := by have := hL.1; omega
  have hnR : nR ≤ 6 := by have := hR.1; omega
  have hoL : ∀ g ∈ lL, g.name.size ≤ 500 := fun g hg => (hfL g hg).2.2.1
  have hoR : ∀ g ∈ lR, g.name.size ≤ 500 := fun g hg => (hfR g hg).2.2.1
  have hLn := hide hL.1
  have hRn := hide hR.1
  have hLc := hL.2.1
  have hRc := hR.2.1
  have hLm := hL.2.2.1
  have hRm := hR.2.2.1
  unfold maxLen at hLm hRm
  clear hz hn
  go_enter Tryd.func8, Tryd.ntmps8
  go_wp2_with fail
  refine (ranksMay_any aL nL cL lL aR nR cR lR _ (hL.later hb0) (hR.later hb0)).mono ?_
  rintro e w1 ⟨rfl, hb1⟩
  rw [unhide HZ]
  have hbw : Below w.heap.size w w1 := hb0.trans (hb1.mono hb0.size)
  have e0 : w1.cell? ⟨w.heap.size, 0, none⟩ = some (.slice aL nL cL) := (hb1.cell (p := ⟨w.heap.size, 0, none⟩) (by simp)).trans (by simp)
  have e1 : w1.cell? ⟨w.heap.size, 1, none⟩ = some (.slice aR nR cR) := (hb1.cell (p := ⟨w.heap.size, 1, none⟩) (by simp)).trans (by simp)
  have hsz1 : w.heap.size < w1.heap.size := by have := hb1.size; simp at this; omega
  have hL1 := hL.later hbw
  have hR1 := hR.later hbw
  go_wp2_with fail
  go_loopw [6, 5] (fun i sv wr => Below w1.heap.size w1 wr ∧ ∃ k : Nat, k ≤ nL ∧ i = .int .i64 k ∧ ∃ s : ByteArray, sv = .string s ∧ s.data.toList = sideB leftW lR (lL.take k)) (fun i _ _ => nL - (intOf i).toNat)
  case atStart => exact ⟨Below.refl _ _, 0, Nat.zero_le _, rfl, _, rfl, by simp [sideB]⟩
  case round =>
    obtain ⟨hbr, k, hk, rfl, s, rfl, hsd⟩ := hrel
    have s0 := (hbr.cell (p := ⟨w.heap.size, 0, none⟩) hsz1).trans e0
    have s1 := (hbr.cell (p := ⟨w.heap.size, 1, none⟩) hsz1).trans e1
    have hLr := hL1.later hbr
    have hRr := hR1.later hbr
    have hsl : s.size ≤ 2000000 := by
      have h5 := sideB_length leftW (by decide) lR hoR (lL.take k) (fun g hg => hfL g (List.mem_of_mem_take hg))
      have h6 : (lL.take k).length ≤ 6 := by simp; omega
      rw [← data_len, hsd]
      exact Nat.le_trans h5 (Nat.le_trans (Nat.mul_le_mul_right _ h6) (by omega))
    by_cases hlt : k < nL
    · have hlen : k < lL.length := by have := unhide hLn; omega
      have hmem : agAt lL k ∈ lL := by unfold agAt; rw [List.getElem?_eq_getElem hlen]; simp
      obtain ⟨hgI, hgs⟩ := hLr.mem hlt
      have hF := hfL _ hmem
      have HT := hide (sideB_take leftW lR lL k hlen)
      have HSD := hide hsd
      have hts : (tailB lR (agAt lL k)).length ≤ 260000 := by
        have h := lineB_length leftW (by decide) lR hoR _ hF
        rw [lineB_tail, List.length_append] at h
        omega
      have hns := hF.2.2.1
      obtain ⟨bS, oS, hbS, hr3⟩ : ∃ bS oS, aL = some ⟨bS, oS, none⟩ ∧ (wr.cell? ⟨bS, oS + k * 3, none⟩ = some (.string (agAt lL k).name) ∧ wr.cell? ⟨bS, oS + k * 3 + 1, none⟩ = some (.int .i64 (agAt lL k).room) ∧ wr.cell? ⟨bS, oS + k * 3 + 2, none⟩ = some (.slice (agAt lL k).la (agAt lL k).ln (agAt lL k).lc)) := by
        rcases hLr.2.2.2.2 with h0 | ⟨bS, oS, h1, h2, h3⟩
        · omega
        · exact ⟨bS, oS, h1, h3 k hlt⟩
      subst hbS
      generalize agAt lL k = G at *
      obtain ⟨r1, r2, r3⟩ := hr3
      have hcl : ∀ w', Below wr.heap.size wr w' → (Below wr.heap.size wr w' ∧ w'.cell? ⟨w.heap.size, 0, none⟩ = some (.slice (some ⟨bS, oS, none⟩) nL cL) ∧ w'.cell? ⟨w.heap.size, 1, none⟩ = some (.slice aR nR cR) ∧ w'.cell? ⟨bS, oS + k * 3, none⟩ = some (.string G.name) ∧ w'.cell? ⟨bS, oS + k * 3 + 1, none⟩ = some (.int .i64 G.room) ∧ w'.cell? ⟨bS, oS + k * 3 + 2, none⟩ = some (.slice G.la G.ln G.lc)) := by
        intro w' hb
        exact ⟨hb, (hb.cell (p := ⟨w.heap.size, 0, none⟩) (World.block_lt_of_cell? wr _ s0)).trans s0, (hb.cell (p := ⟨w.heap.size, 1, none⟩) (World.block_lt_of_cell? wr _ s1)).trans s1,
          (hb.cell (p := ⟨bS, oS + k * 3, none⟩) (World.block_lt_of_cell? wr _ r1)).trans r1, (hb.cell (p := ⟨bS, oS + k * 3 + 1, none⟩) (World.block_lt_of_cell? wr _ r2)).trans r2, (hb.cell (p := ⟨bS, oS + k * 3 + 2, none⟩) (World.block_lt_of_cell? wr _ r3)).trans r3⟩
      have HCL := hide hcl
      have hlk : (k : Int) < (nL : Int) := by omega
      have n1 : (9223372036854775807 < s.size + 5) = False := eq_false (by omega)
      have n2 : (9223372036854775807 < s.size + 5 + G.name.size) = False := eq_false (by omega)
      have n3 : (9223372036854775807 < s.size + 5 + G.name.size + (tailB lR G).length) = False := eq_false (by omega)
      clear hcl hlen hmem hsd
      go_wp2_with fail
      go_region_held3 (fun w' => Below wr.heap.size wr w' ∧ w'.cell? ⟨w.heap.size, 0, none⟩ = some (.slice (some ⟨bS, oS, none⟩) nL cL) ∧ w'.cell? ⟨w.heap.size, 1, none⟩ = some (.slice aR nR cR) ∧ w'.cell? ⟨bS, oS + k * 3, none⟩ = some (.string G.name) ∧ w'.cell? ⟨bS, oS + k * 3 + 1, none⟩ = some (.int .i64 G.room) ∧ w'.cell? ⟨bS, oS + k * 3 + 2, none⟩ = some (.slice G.la G.ln G.lc))
        (first | exact unhide HCL _ (Below.refl _ _).drew | exact unhide HCL _ (((Below.refl wr.heap.size wr).drew).trans hb2))
        (first | (go_at_call 18; refine (sideText_at G aR nR cR lR _ (by first | exact hgI.later ((Below.refl _ _).drew) | exact hgI.later (by assumption)) (by first | exact hRr.later ((Below.refl _ _).drew) | exact hRr.later (by assumption)) hF hoR).mono ?_; rintro e w2 ⟨rfl, hb2⟩))
      have hb3 : Below wr.heap.size wr w2 := ((Below.refl wr.heap.size wr).drew).trans hb2
      go_wp2
      go_roundw
      case rel =>
        refine ⟨hbr.trans (hb3.mono hbr.size), k+1, by omega, by go_num, _, rfl, ?_⟩
        rw [unhide HT, lineB_tail, data_append, data_append, data_append, unhide HSD]
        simp [leftW]
      case measure => simp [intOf]; omega
    · have hte : lL.take k = lL := List.take_of_length_le (by have := unhide hLn; omega)
      rw [hte] at hsd
      have hsd0 := hide hsd
      have hbw2 : Below w.heap.size w wr := hbw.trans (hbr.mono (by omega))
      clear hsd
      have t0 := s0
      have t1 := s1
      have hszw : w.heap.size < wr.heap.size := World.block_lt_of_cell? wr _ s0
      go_wp2_with fail
      go_loopw [7, 5] (fun i sv wz => Below wr.heap.size wr wz ∧ ∃ k : Nat, k ≤ nR ∧ i = .int .i64 k ∧ ∃ s : ByteArray, sv = .string s ∧ s.data.toList = sideB leftW lR lL ++ sideB rightW lL (lR.take k)) (fun i _ _ => nR - (intOf i).toNat)
      case atStart => exact ⟨Below.refl _ _, 0, Nat.zero_le _, rfl, _, rfl, by rw [unhide hsd0]; simp [sideB]⟩
      case round =>
        rename World => wq
        obtain ⟨hbq, j, hj, rfl, z, rfl, hzd⟩ := hrel
        have s0 := (hbq.cell (p := ⟨w.heap.size, 0, none⟩) hszw).trans t0
        have s1 := (hbq.cell (p := ⟨w.heap.size, 1, none⟩) hszw).trans t1
        clear t0 t1
        have hLq := hLr.later hbq
        have hRq := hRr.later hbq
        have hzl : z.size ≤ 4000000 := by
          have h4 := sideB_length leftW (by decide) lR hoR lL hfL
          have h5 := sideB_length rightW (by decide) lL hoL (lR.take j) (fun g hg => hfR g (List.mem_of_mem_take hg))
          have h6 : (lR.take j).length ≤ 6 := by simp; omega
          have h7 : lL.length ≤ 6 := by have := unhide hLn; omega
          have h8 := Nat.mul_le_mul_right 260000 h6
          have h9 := Nat.mul_le_mul_right 260000 h7
          rw [← data_len, hzd, List.length_append]
          omega
        by_cases hlt2 : j < nR
        · have hlen : j < lR.length := by have := unhide hRn; omega
          have hmem : agAt lR j ∈ lR := by unfold agAt; rw [List.getElem?_eq_getElem hlen]; simp
          obtain ⟨hgI, hgs⟩ := hRq.mem hlt2
          have hF := hfR _ hmem
          have HT := hide (sideB_take rightW lL lR j hlen)
          have HSD := hide hzd
          have hts : (tailB lL (agAt lR j)).length ≤ 260000 := by
            have h := lineB_length rightW (by decide) lL hoL _ hF
            rw [lineB_tail, List.length_append] at h
            omega
          have hns := hF.2.2.1
          obtain ⟨bS, oS, hbS, hr3⟩ : ∃ bS oS, aR = some ⟨bS, oS, none⟩ ∧ (wq.cell? ⟨bS, oS + j * 3, none⟩ = some (.string (agAt lR j).name) ∧ wq.cell? ⟨bS, oS + j * 3 + 1, none⟩ = some (.int .i64 (agAt lR j).room) ∧ wq.cell? ⟨bS, oS + j * 3 + 2, none⟩ = some (.slice (agAt lR j).la (agAt lR j).ln (agAt lR j).lc)) := by
            rcases hRq.2.2.2.2 with h0 | ⟨bS, oS, h1, h2, h3⟩
            · omega
            · exact ⟨bS, oS, h1, h3 j hlt2⟩
          subst hbS
          generalize agAt lR j = G at *
          obtain ⟨r1, r2, r3⟩ := hr3
          have hcl : ∀ w', Below wq.heap.size wq w' → (Below wq.heap.size wq w' ∧ w'.cell? ⟨w.heap.size, 0, none⟩ = some (.slice aL nL cL) ∧ w'.cell? ⟨w.heap.size, 1, none⟩ = some (.slice (some ⟨bS, oS, none⟩) nR cR) ∧ w'.cell? ⟨bS, oS + j * 3, none⟩ = some (.string G.name) ∧ w'.cell? ⟨bS, oS + j * 3 + 1, none⟩ = some (.int .i64 G.room) ∧ w'.cell? ⟨bS, oS + j * 3 + 2, none⟩ = some (.slice G.la G.ln G.lc)) := by
            intro w' hb
            exact ⟨hb, (hb.cell (p := ⟨w.heap.size, 0, none⟩) (World.block_lt_of_cell? wq _ s0)).trans s0, (hb.cell (p := ⟨w.heap.size, 1, none⟩) (World.block_lt_of_cell? wq _ s1)).trans s1,
              (hb.cell (p := ⟨bS, oS + j * 3, none⟩) (World.block_lt_of_cell? wq _ r1)).trans r1, (hb.cell (p := ⟨bS, oS + j * 3 + 1, none⟩) (World.block_lt_of_cell? wq _ r2)).trans r2, (hb.cell (p := ⟨bS, oS + j * 3 + 2, none⟩) (World.block_lt_of_cell? wq _ r3)).trans r3⟩
          have HCL := hide hcl
          have hlk : (j : Int) < (nR : Int) := by omega
          have n1 : (9223372036854775807 < z.size + 6) = False := eq_false (by omega)
          have n2 : (9223372036854775807 < z.size + 6 + G.name.size) = False := eq_false (by omega)
          have n3 : (9223372036854775807 < z.size + 6 + G.name.size + (tailB lL G).length) = False := eq_false (by omega)
          clear hcl hlen hmem hzd
          go_wp2_with fail
          go_region_held3 (fun w' => Below wq.heap.size wq w' ∧ w'.cell? ⟨w.heap.size, 0, none⟩ = some (.slice aL nL cL) ∧ w'.cell? ⟨w.heap.size, 1, none⟩ = some (.slice (some ⟨bS, oS, none⟩) nR cR) ∧ w'.cell? ⟨bS, oS + j * 3, none⟩ = some (.string G.name) ∧ w'.cell? ⟨bS, oS + j * 3 + 1, none⟩ = some (.int .i64 G.room) ∧ w'.cell? ⟨bS, oS + j * 3 + 2, none⟩ = some (.slice G.la G.ln G.lc))
            (first | exact unhide HCL _ (Below.refl _ _).drew | exact unhide HCL _ (((Below.refl wq.heap.size wq).drew).trans hb2))
            (first | (go_at_call 18; refine (sideText_at G aL nL cL lL _ (by first | exact hgI.later ((Below.refl _ _).drew) | exact hgI.later (by assumption)) (by first | exact hLq.later ((Below.refl _ _).drew) | exact hLq.later (by assumption)) hF hoL).mono ?_; rintro e w2 ⟨rfl, hb2⟩))
          have hb3 : Below wq.heap.size wq w2 := ((Below.refl wq.heap.size wq).drew).trans hb2
          go_wp2
          go_roundw
          case rel =>
            refine ⟨hbq.trans (hb3.mono hbq.size), j+1, by omega, by go_num, _, rfl, ?_⟩
            rw [unhide HT, lineB_tail, data_append, data_append, data_append, unhide HSD]
            simp [rightW]
          case measure => simp [intOf]; omega
        · have hte2 : lR.take j = lR := List.take_of_length_le (by have := unhide hRn; omega)
          rw [hte2] at hzd
          have HSD := hide hzd
          clear hzd
          go_wp2
          go_ret2
          refine ⟨?_, hbw2.trans (hbq.mono hbw2.size)⟩
          rw [bytes_eq (unhide HSD)]
          rfl

theorem ranksPrint_any (aL : Option Addr) (nL cL : Nat) (lL : List Ag) (aR : Option Addr) (nR cR : Nat) (lR : List Ag) (w : World) (hL : Ags w aL nL cL lL) (hR : Ags w aR nR cR lR)
    (hlL : ∀ g ∈ lL, g.likes.length ≤ 500) (hlR : ∀ g ∈ lR, g.likes.length ≤ 500) :
    Calls Tryd.prog 8 #[.agg #[.slice aL nL cL, .slice aR nR cR]] w fun e w' => e = .returned (.tuple #[.string ⟨(printB lL lR).toArray⟩, .int .i64 (mayE lL lR)]) ∧ Below w.heap.size w w' := by
  by_cases hz : mayE lL lR = 0
  · refine (ranksPrint_main aL nL cL lL aR nR cR lR w hL hR hlL hlR hz).mono ?_
    rintro e w' ⟨rfl, hb⟩
    exact ⟨ret_text (by unfold printB; rw [if_pos hz]) hz.symm, hb⟩
  · have hb0 : Below w.heap.size w (w.alloc (.cells #[.slice aL nL cL, .slice aR nR cR] 24)) := by go_grown
    have hzb : (mayE lL lR != 0) = true := by simpa using hz
    have HFIN : Hid (printB lL lR = []) := by unfold printB Hid; rw [if_neg hz]
    go_enter Tryd.func8, Tryd.ntmps8
    go_wp2_with fail
    refine (ranksMay_any aL nL cL lL aR nR cR lR _ (hL.later hb0) (hR.later hb0)).mono ?_
    rintro e w1 ⟨rfl, hb1⟩
    go_wp2
    go_ret2
    exact ⟨ret_text (unhide HFIN).symm rfl, hb0.trans (hb1.mono hb0.size)⟩
end Go.Proofs.YtajdijjecojdhaaDoor
