import Derived.Test.YtajdijjecojdhaaDoorWJ
namespace Go.Proofs.YtajdijjecojdhaaDoor
open Go.RowKit
set_option maxRecDepth 100000 in
set_option maxHeartbeats 8000000 in
theorem printSide_any (b : Nat) (l0 : List UInt8) (word : ByteArray) (aS : Option Addr) (nS cS : Nat) (side : List Ag) (aO : Option Addr) (nO cO : Nat) (others : List Ag) (wB w : World)
    (hbw : Below wB.heap.size wB w) (hS : Ags wB aS nS cS side) (hO : Ags wB aO nO cO others) (hI : Lib.IsBuilderF 43 5 wB.heap.size b (Lib.byteCells l0) w) (hn : nS ≤ 500) (hl0 : l0.length ≤ 1000000000) (hword : word.size ≤ 10)
    (hfS : ∀ g ∈ side, Fair others g) (hfO : ∀ g ∈ others, g.name.size ≤ 500) :
    Calls Tryd.prog 16 #[.pointer (some ⟨b, 0, none⟩), .string word, .slice aS nS cS, .slice aO nO cO] w fun e w' => e = .returned (.tuple #[]) ∧ Lib.IsBuilderF 43 5 wB.heap.size b (Lib.byteCells (l0 ++ sideB word.data.toList others side)) w' ∧ Below wB.heap.size wB w' := by
  have hS0 := hS
  obtain ⟨hSn, hSc, hSm, hSg, hrow⟩ := hS
  unfold maxLen at hSm
  have HN := hide hSn
  clear hSn
  rcases hrow with h0 | ⟨bS, oS, rfl, hbS, hcell⟩
  · subst h0
    have hz : side = [] := List.length_eq_zero_iff.1 (unhide HN).symm
    go_enter Tryd.func16, Tryd.ntmps16
    go_wp2_with fail
    refine wp_loop_rounds 1 ?_
    rw [rounds_succ]
    go_wp2
    go_end0
    exact ⟨rfl, by rw [hz]; simpa [sideB] using hI, hbw⟩
  go_enter Tryd.func16, Tryd.ntmps16
  go_wp2_with fail
  go_loopw [14] (fun i wr => Below wB.heap.size wB wr ∧ ∃ k : Nat, k ≤ nS ∧ i = .int .i64 k ∧ Lib.IsBuilderF 43 5 wB.heap.size b (Lib.byteCells (l0 ++ sideB word.data.toList others (side.take k))) wr) (fun i _ => nS - (intOf i).toNat)
  case atStart => exact ⟨hbw, 0, Nat.zero_le _, rfl, by simpa [sideB] using hI⟩
  case round =>
    obtain ⟨hbr, k, hk, rfl, hIr⟩ := hrel
    by_cases hlt : k < nS
    · obtain ⟨q1, q2, q3⟩ := hcell k hlt
      have r1 := (hbr.cell (p := ⟨bS, oS + k * 3, none⟩) hbS).trans q1
      have r2 := (hbr.cell (p := ⟨bS, oS + k * 3 + 1, none⟩) hbS).trans q2
      have r3 := (hbr.cell (p := ⟨bS, oS + k * 3 + 2, none⟩) hbS).trans q3
      have hszr : bS < wr.heap.size := Nat.lt_of_lt_of_le hbS hbr.size
      have hszB := hbr.size
      have hbx := IsBuilderF_lt hIr
      have hlen : k < side.length := by have := unhide HN; omega
      have HT := hide (sideB_take word.data.toList others side k hlen)
      have hmem : agAt side k ∈ side := by unfold agAt; rw [List.getElem?_eq_getElem hlen]; simp
      have hF := hfS _ hmem
      have hgI := (hSg _ hmem).1
      have hLb : (sideB word.data.toList others (side.take k)).length ≤ 500 * 260000 := by
        have h := sideB_length word.data.toList (by rw [data_len]; omega) others hfO (side.take k) (fun g hg => hfS g (List.mem_of_mem_take hg))
        have h5 : (side.take k).length ≤ 500 := by simp; omega
        exact Nat.le_trans h (Nat.mul_le_mul_right _ h5)
      have hL : (l0 ++ sideB word.data.toList others (side.take k)).length ≤ 1200000000 := by rw [List.length_append]; omega
      generalize hG : agAt side k = G at *
      generalize hLe : l0 ++ sideB word.data.toList others (side.take k) = L at *
      obtain ⟨nm, room, la, ln, lc, likes⟩ := G
      have HC := hide hcell
      have HG := hide hG
      have HLe := hide hLe
      clear hG hLe hlen hmem hcell q1 q2 q3
      obtain ⟨f1, f2, f3, f4, f5⟩ := hF
      simp only at f1 f2 f3 f4 f5 r1 r2 r3 hgI
      have HF5 := hide f5
      clear f5
      have hcase : ln = 0 ∨ ∃ lb loff bO oO, la = some ⟨lb, loff, none⟩ ∧ aO = some ⟨bO, oO, none⟩ := by
        by_cases hz0 : ln = 0
        · exact Or.inl hz0
        rcases hgI.2.2.2 with hz | ⟨lb, loff, hla, _⟩
        · exact Or.inl hz
        rcases hO.2.2.2.2 with hz | ⟨bO, oO, haO, _⟩
        · exfalso
          have h9 := hgI.1
          cases likes with
          | nil => simp at h9; omega
          | cons q t =>
            have h8 := (unhide HF5) q (by simp)
            have h7 := hO.1
            omega
        · exact Or.inr ⟨lb, loff, bO, oO, hla, haO⟩
      by_cases hone : room = 1
      · rcases hcase with hz | ⟨lb, loff, bO, oO, rfl, rfl⟩
        · subst hz
          subst hone
          have HX0 : Hid ((wr.alloc (.cells #[.string nm, .int .i64 1, .slice la 0 lc] 27)).heap[wr.heap.size]? = some (.cells #[.string nm, .int .i64 1, .slice la 0 lc] 27)) := heap_alloc_new _ _
          have hI0 := IsBuilderF_alloc hIr (.cells #[.string nm, .int .i64 1, .slice la 0 lc] 27)
          have hb0 : Below wB.heap.size wr (wr.alloc (.cells #[.string nm, .int .i64 1, .slice la 0 lc] 27)) := by go_grown
          go_wp2_with fail
          refine (write_l wB.heap.size b _ _ wr.heap.size #[.string nm, .int .i64 1, .slice la 0 lc] _ hI0 (by omega) (by rw [size3 word ⟨#[32]⟩ nm 1 rfl]; omega) (by simp; omega) (unhide HX0) hbx).mono ?_
          rintro e w1 ⟨rfl, hI1, hb1, hx1⟩
          obtain ⟨L1, hL1⟩ : ∃ x, x = L ++ (word ++ ⟨#[32]⟩ ++ nm).data.toList := ⟨_, rfl⟩
          have hl1 : L1.length ≤ 1200001000 := by rw [hL1, List.length_append, data_len, size3 word ⟨#[32]⟩ nm 1 rfl]; omega
          rw [← hL1] at hI1
          have HL1 := hide hL1
          clear hL1
          have hs1 : wr.heap.size < w1.heap.size := by have := hb1.size; simp at this; omega
          have k10 := cells_of hx1 0
          have k11 := cells_of hx1 1
          have k12 := cells_of hx1 2
          simp at k10 k11 k12
          have HX1 := hide hx1
          clear hx1
          have HRB : Hid (roomB 1 = []) := by unfold roomB Hid; rw [if_pos rfl]
          go_wp2_with fail
          refine (write_l wB.heap.size b L1 _ wr.heap.size #[.string nm, .int .i64 1, .slice la 0 lc] _ hI1 (by omega) (by decide) (by omega) (unhide HX1) hbx).mono ?_
          rintro e w2 ⟨rfl, hI2, hb2, hx2⟩
          have hs2 : wr.heap.size < w2.heap.size := by have := hb2.size; omega
          obtain ⟨L3, hL3⟩ : ∃ x, x = L1 ++ (⟨#[32, 58]⟩ : ByteArray).data.toList := ⟨_, rfl⟩
          have hl3 : L3.length ≤ 1200003000 := by rw [hL3, List.length_append, data_len]; have : (⟨#[32, 58]⟩ : ByteArray).size = 2 := rfl; omega
          rw [← hL3] at hI2
          have HL3 := hide hL3
          clear hL3
          have m2 := cells_of hx2 2
          simp at m2
          clear hx2
          have hbW : Below wB.heap.size wB w2 := ((hbr.trans hb0).trans hb1).trans hb2
          go_wp2_with fail
          go_loopw [39, 11] (fun j _ wq => Below wB.heap.size wB wq ∧ ∃ m : Nat, m ≤ 0 ∧ j = .int .i64 m ∧ Lib.IsBuilderF 43 5 wB.heap.size b (Lib.byteCells (L3 ++ likesB others (likes.take m))) wq) (fun j _ _ => 0 - (intOf j).toNat)
          case atStart => exact ⟨hbW, 0, Nat.zero_le _, rfl, by simpa [likesB] using hI2⟩
          case round =>
            rename World => wq
            obtain ⟨hbq, m, hm, rfl, hIq⟩ := hrel
            have hszq := hbq.size
            have hlm : (L3 ++ likesB others (likes.take m)).length ≤ 1200300000 := by
              have h5 := likesB_length others hfO (likes.take m)
              have h6 : (likes.take m).length ≤ 500 := by simp; omega
              rw [List.length_append]
              omega
            by_cases hm2 : m < 0
            · exfalso
              omega
            · have hme : likes.take m = likes := List.take_of_length_le (by have := hgI.1; omega)
              rw [hme] at hIq hlm
              go_wp2_with fail
              refine (write_p wB.heap.size b _ _ _ hIq (by omega) (by decide) (by omega)).mono ?_
              rintro e w4 ⟨rfl, hI4, hb4⟩
              go_wp2
              go_roundw
              case rel =>
                refine ⟨hbq.trans hb4, k+1, by omega, by go_num, ?_⟩
                rw [unhide HT, ← List.append_assoc, unhide HLe, ← line_one, ← unhide HL1, ← unhide HL3]
                exact hI4
              case measure => simp [intOf]; omega
        · skip
          subst hone
          have HX0 : Hid ((wr.alloc (.cells #[.string nm, .int .i64 1, .slice (some ⟨lb, loff, none⟩) ln lc] 27)).heap[wr.heap.size]? = some (.cells #[.string nm, .int .i64 1, .slice (some ⟨lb, loff, none⟩) ln lc] 27)) := heap_alloc_new _ _
          have hI0 := IsBuilderF_alloc hIr (.cells #[.string nm, .int .i64 1, .slice (some ⟨lb, loff, none⟩) ln lc] 27)
          have hb0 : Below wB.heap.size wr (wr.alloc (.cells #[.string nm, .int .i64 1, .slice (some ⟨lb, loff, none⟩) ln lc] 27)) := by go_grown
          go_wp2_with fail
          refine (write_l wB.heap.size b _ _ wr.heap.size #[.string nm, .int .i64 1, .slice (some ⟨lb, loff, none⟩) ln lc] _ hI0 (by omega) (by rw [size3 word ⟨#[32]⟩ nm 1 rfl]; omega) (by simp; omega) (unhide HX0) hbx).mono ?_
          rintro e w1 ⟨rfl, hI1, hb1, hx1⟩
          obtain ⟨L1, hL1⟩ : ∃ x, x = L ++ (word ++ ⟨#[32]⟩ ++ nm).data.toList := ⟨_, rfl⟩
          have hl1 : L1.length ≤ 1200001000 := by rw [hL1, List.length_append, data_len, size3 word ⟨#[32]⟩ nm 1 rfl]; omega
          rw [← hL1] at hI1
          have HL1 := hide hL1
          clear hL1
          have hs1 : wr.heap.size < w1.heap.size := by have := hb1.size; simp at this; omega
          have k10 := cells_of hx1 0
          have k11 := cells_of hx1 1
          have k12 := cells_of hx1 2
          simp at k10 k11 k12
          have HX1 := hide hx1
          clear hx1
          have HRB : Hid (roomB 1 = []) := by unfold roomB Hid; rw [if_pos rfl]
          go_wp2_with fail
          refine (write_l wB.heap.size b L1 _ wr.heap.size #[.string nm, .int .i64 1, .slice (some ⟨lb, loff, none⟩) ln lc] _ hI1 (by omega) (by decide) (by omega) (unhide HX1) hbx).mono ?_
          rintro e w2 ⟨rfl, hI2, hb2, hx2⟩
          have hs2 : wr.heap.size < w2.heap.size := by have := hb2.size; omega
          obtain ⟨L3, hL3⟩ : ∃ x, x = L1 ++ (⟨#[32, 58]⟩ : ByteArray).data.toList := ⟨_, rfl⟩
          have hl3 : L3.length ≤ 1200003000 := by rw [hL3, List.length_append, data_len]; have : (⟨#[32, 58]⟩ : ByteArray).size = 2 := rfl; omega
          rw [← hL3] at hI2
          have HL3 := hide hL3
          clear hL3
          have m2 := cells_of hx2 2
          simp at m2
          clear hx2
          have hbW : Below wB.heap.size wB w2 := ((hbr.trans hb0).trans hb1).trans hb2
          go_wp2_with fail
          go_loopw [39, 11] (fun j _ wq => Below wB.heap.size wB wq ∧ ∃ m : Nat, m ≤ ln ∧ j = .int .i64 m ∧ Lib.IsBuilderF 43 5 wB.heap.size b (Lib.byteCells (L3 ++ likesB others (likes.take m))) wq) (fun j _ _ => ln - (intOf j).toNat)
          case atStart => exact ⟨hbW, 0, Nat.zero_le _, rfl, by simpa [likesB] using hI2⟩
          case round =>
            rename World => wq
            obtain ⟨hbq, m, hm, rfl, hIq⟩ := hrel
            have hszq := hbq.size
            have hlm : (L3 ++ likesB others (likes.take m)).length ≤ 1200300000 := by
              have h5 := likesB_length others hfO (likes.take m)
              have h6 : (likes.take m).length ≤ 500 := by simp; omega
              rw [List.length_append]
              omega
            by_cases hm2 : m < ln
            · have hml : m < likes.length := by have := hgI.1; omega
              obtain ⟨q, hq⟩ : ∃ q : Nat, likes[m]?.getD 0 = (q : Int) := ⟨(likes[m]?.getD 0).toNat, by
                rw [List.getElem?_eq_getElem hml]
                have := (unhide HF5) likes[m] (List.getElem_mem hml)
                simp
                omega⟩
              have hqn : q < nO := by
                have h7 := hO.1
                have h8 := (unhide HF5) likes[m] (List.getElem_mem hml)
                rw [List.getElem?_eq_getElem hml] at hq
                simp at hq
                omega
              have hck : wq.cell? ⟨lb, loff + m, none⟩ = some (.int .i64 (q : Int)) := by
                rcases hgI.2.2.2 with hz | ⟨lb', loff', he, hlb, hcl⟩
                · omega
                · cases he
                  rw [← hq]
                  exact (hbq.cell (p := ⟨lb, loff + m, none⟩) hlb).trans (hcl m hm2)
              have hco : wq.cell? ⟨bO, oO + q * 3, none⟩ = some (.string (agAt others q).name) := by
                rcases hO.2.2.2.2 with hz | ⟨bO', oO', he, hbO, hcl⟩
                · omega
                · cases he
                  exact (hbq.cell (p := ⟨bO, oO + q * 3, none⟩) hbO).trans (hcl q hqn).1
              have hon : (agAt others q).name.size ≤ 500 := by
                refine hfO _ ?_
                unfold agAt
                rw [List.getElem?_eq_getElem (show q < others.length by have := hO.1; omega)]
                simp
              have HM := hide (likesB_take others likes m hml)
              have HQ := hide hq
              have hOm := hO.2.1
              have hOm2 := hO.2.2.1
              unfold maxLen at hOm2
              have hIm := hgI.2.1
              have hIm2 := hgI.2.2.1
              unfold maxLen at hIm2
              clear hq hml
              go_wp2_with fail
              refine (write_p wB.heap.size b _ _ _ hIq (by omega) (by rw [ByteArray.size_append]; have : (⟨#[32]⟩ : ByteArray).size = 1 := rfl; omega) (by omega)).mono ?_
              rintro e w4 ⟨rfl, hI4, hb4⟩
              go_wp2
              go_roundw
              case rel =>
                refine ⟨hbq.trans hb4, m+1, by omega, by go_num, ?_⟩
                rw [unhide HM, unhide HQ]
                rw [List.append_assoc, data_append] at hI4
                exact hI4
              case measure => simp [intOf]; omega
            · have hme : likes.take m = likes := List.take_of_length_le (by have := hgI.1; omega)
              rw [hme] at hIq hlm
              go_wp2_with fail
              refine (write_p wB.heap.size b _ _ _ hIq (by omega) (by decide) (by omega)).mono ?_
              rintro e w4 ⟨rfl, hI4, hb4⟩
              go_wp2
              go_roundw
              case rel =>
                refine ⟨hbq.trans hb4, k+1, by omega, by go_num, ?_⟩
                rw [unhide HT, ← List.append_assoc, unhide HLe, ← line_one, ← unhide HL1, ← unhide HL3]
                exact hI4
              case measure => simp [intOf]; omega
      · rcases hcase with hz | ⟨lb, loff, bO, oO, rfl, rfl⟩
        · subst hz
          skip
          have HX0 : Hid ((wr.alloc (.cells #[.string nm, .int .i64 room, .slice la 0 lc] 27)).heap[wr.heap.size]? = some (.cells #[.string nm, .int .i64 room, .slice la 0 lc] 27)) := heap_alloc_new _ _
          have hI0 := IsBuilderF_alloc hIr (.cells #[.string nm, .int .i64 room, .slice la 0 lc] 27)
          have hb0 : Below wB.heap.size wr (wr.alloc (.cells #[.string nm, .int .i64 room, .slice la 0 lc] 27)) := by go_grown
          go_wp2_with fail
          refine (write_l wB.heap.size b _ _ wr.heap.size #[.string nm, .int .i64 room, .slice la 0 lc] _ hI0 (by omega) (by rw [size3 word ⟨#[32]⟩ nm 1 rfl]; omega) (by simp; omega) (unhide HX0) hbx).mono ?_
          rintro e w1 ⟨rfl, hI1, hb1, hx1⟩
          obtain ⟨L1, hL1⟩ : ∃ x, x = L ++ (word ++ ⟨#[32]⟩ ++ nm).data.toList := ⟨_, rfl⟩
          have hl1 : L1.length ≤ 1200001000 := by rw [hL1, List.length_append, data_len, size3 word ⟨#[32]⟩ nm 1 rfl]; omega
          rw [← hL1] at hI1
          have HL1 := hide hL1
          clear hL1
          have hs1 : wr.heap.size < w1.heap.size := by have := hb1.size; simp at this; omega
          have k10 := cells_of hx1 0
          have k11 := cells_of hx1 1
          have k12 := cells_of hx1 2
          simp at k10 k11 k12
          have HX1 := hide hx1
          clear hx1
          obtain ⟨r, hr⟩ : ∃ r : Nat, room = (r : Int) := ⟨room.toNat, by omega⟩
          have HRM := hide hr
          subst hr
          have hone1 : ((r : Int) != 1) = true := by simpa using hone
          have HRB : Hid (roomB (r : Int) = 32 :: Lib.decDigits r) := by unfold roomB Hid; rw [if_neg hone]; simp
          have HDL : Hid ((⟨(Lib.decDigits r).toArray⟩ : ByteArray).size = 1) := by rw [decDigits_small _ (by omega)]; rfl
          have hdl : (Lib.decDigits r).length ≤ 10 := by rw [decDigits_small _ (by omega)]; simp only [List.length_cons, List.length_nil]; omega
          go_wp2_with (go_at_call 37; refine (Tryd.strconv_Itoa_small r (by omega) _).mono ?_; rintro e w' ⟨rfl, rfl⟩)
          refine (write_l wB.heap.size b L1 _ wr.heap.size _ _ hI1 (by omega) (by rw [size2 ⟨#[32]⟩ _ 1 1 rfl (unhide HDL)]; decide) (by omega) (unhide HX1) hbx).mono ?_
          rintro e w1b ⟨rfl, hI1b, hb1b, hx1b⟩
          obtain ⟨L2, hL2⟩ : ∃ x, x = L1 ++ ((⟨#[32]⟩ : ByteArray) ++ ⟨(Lib.decDigits r).toArray⟩).data.toList := ⟨_, rfl⟩
          have hl2 : L2.length ≤ 1200002000 := by rw [hL2, List.length_append, data_len, size2 ⟨#[32]⟩ _ 1 1 rfl (unhide HDL)]; omega
          rw [← hL2] at hI1b
          have HL2 := hide hL2
          clear hL2
          have k20 := cells_of hx1b 0
          have k21 := cells_of hx1b 1
          have k22 := cells_of hx1b 2
          simp at k20 k21 k22
          have HX2 := hide hx1b
          clear hx1b
          have hs1b : wr.heap.size < w1b.heap.size := by have := hb1b.size; omega
          go_wp2_with fail
          refine (write_l wB.heap.size b L2 _ wr.heap.size _ _ hI1b (by omega) (by decide) (by omega) (unhide HX2) hbx).mono ?_
          rintro e w2 ⟨rfl, hI2, hb2, hx2⟩
          have hs2 : wr.heap.size < w2.heap.size := by have := hb2.size; omega
          obtain ⟨L3, hL3⟩ : ∃ x, x = L2 ++ (⟨#[32, 58]⟩ : ByteArray).data.toList := ⟨_, rfl⟩
          have hl3 : L3.length ≤ 1200003000 := by rw [hL3, List.length_append, data_len]; have : (⟨#[32, 58]⟩ : ByteArray).size = 2 := rfl; omega
          rw [← hL3] at hI2
          have HL3 := hide hL3
          clear hL3
          have m2 := cells_of hx2 2
          simp at m2
          clear hx2
          have hbW : Below wB.heap.size wB w2 := ((hbr.trans hb0).trans hb1).trans (hb1b.trans hb2)
          go_wp2_with fail
          go_loopw [39, 11] (fun j _ wq => Below wB.heap.size wB wq ∧ ∃ m : Nat, m ≤ 0 ∧ j = .int .i64 m ∧ Lib.IsBuilderF 43 5 wB.heap.size b (Lib.byteCells (L3 ++ likesB others (likes.take m))) wq) (fun j _ _ => 0 - (intOf j).toNat)
          case atStart => exact ⟨hbW, 0, Nat.zero_le _, rfl, by simpa [likesB] using hI2⟩
          case round =>
            rename World => wq
            obtain ⟨hbq, m, hm, rfl, hIq⟩ := hrel
            have hszq := hbq.size
            have hlm : (L3 ++ likesB others (likes.take m)).length ≤ 1200300000 := by
              have h5 := likesB_length others hfO (likes.take m)
              have h6 : (likes.take m).length ≤ 500 := by simp; omega
              rw [List.length_append]
              omega
            by_cases hm2 : m < 0
            · exfalso
              omega
            · have hme : likes.take m = likes := List.take_of_length_le (by have := hgI.1; omega)
              rw [hme] at hIq hlm
              go_wp2_with fail
              refine (write_p wB.heap.size b _ _ _ hIq (by omega) (by decide) (by omega)).mono ?_
              rintro e w4 ⟨rfl, hI4, hb4⟩
              go_wp2
              go_roundw
              case rel =>
                refine ⟨hbq.trans hb4, k+1, by omega, by go_num, ?_⟩
                rw [unhide HT, ← List.append_assoc, unhide HLe, ← line_many _ _ _ _ hone, ← unhide HL1, ← unhide HL2, ← unhide HL3]
                exact hI4
              case measure => simp [intOf]; omega
        · skip
          skip
          have HX0 : Hid ((wr.alloc (.cells #[.string nm, .int .i64 room, .slice (some ⟨lb, loff, none⟩) ln lc] 27)).heap[wr.heap.size]? = some (.cells #[.string nm, .int .i64 room, .slice (some ⟨lb, loff, none⟩) ln lc] 27)) := heap_alloc_new _ _
          have hI0 := IsBuilderF_alloc hIr (.cells #[.string nm, .int .i64 room, .slice (some ⟨lb, loff, none⟩) ln lc] 27)
          have hb0 : Below wB.heap.size wr (wr.alloc (.cells #[.string nm, .int .i64 room, .slice (some ⟨lb, loff, none⟩) ln lc] 27)) := by go_grown
          go_wp2_with fail
          refine (write_l wB.heap.size b _ _ wr.heap.size #[.string nm, .int .i64 room, .slice (some ⟨lb, loff, none⟩) ln lc] _ hI0 (by omega) (by rw [size3 word ⟨#[32]⟩ nm 1 rfl]; omega) (by simp; omega) (unhide HX0) hbx).mono ?_
          rintro e w1 ⟨rfl, hI1, hb1, hx1⟩
          obtain ⟨L1, hL1⟩ : ∃ x, x = L ++ (word ++ ⟨#[32]⟩ ++ nm).data.toList := ⟨_, rfl⟩
          have hl1 : L1.length ≤ 1200001000 := by rw [hL1, List.length_append, data_len, size3 word ⟨#[32]⟩ nm 1 rfl]; omega
          rw [← hL1] at hI1
          have HL1 := hide hL1
          clear hL1
          have hs1 : wr.heap.size < w1.heap.size := by have := hb1.size; simp at this; omega
          have k10 := cells_of hx1 0
          have k11 := cells_of hx1 1
          have k12 := cells_of hx1 2
          simp at k10 k11 k12
          have HX1 := hide hx1
          clear hx1
          obtain ⟨r, hr⟩ : ∃ r : Nat, room = (r : Int) := ⟨room.toNat, by omega⟩
          have HRM := hide hr
          subst hr
          have hone1 : ((r : Int) != 1) = true := by simpa using hone
          have HRB : Hid (roomB (r : Int) = 32 :: Lib.decDigits r) := by unfold roomB Hid; rw [if_neg hone]; simp
          have HDL : Hid ((⟨(Lib.decDigits r).toArray⟩ : ByteArray).size = 1) := by rw [decDigits_small _ (by omega)]; rfl
          have hdl : (Lib.decDigits r).length ≤ 10 := by rw [decDigits_small _ (by omega)]; simp only [List.length_cons, List.length_nil]; omega
          go_wp2_with (go_at_call 37; refine (Tryd.strconv_Itoa_small r (by omega) _).mono ?_; rintro e w' ⟨rfl, rfl⟩)
          refine (write_l wB.heap.size b L1 _ wr.heap.size _ _ hI1 (by omega) (by rw [size2 ⟨#[32]⟩ _ 1 1 rfl (unhide HDL)]; decide) (by omega) (unhide HX1) hbx).mono ?_
          rintro e w1b ⟨rfl, hI1b, hb1b, hx1b⟩
          obtain ⟨L2, hL2⟩ : ∃ x, x = L1 ++ ((⟨#[32]⟩ : ByteArray) ++ ⟨(Lib.decDigits r).toArray⟩).data.toList := ⟨_, rfl⟩
          have hl2 : L2.length ≤ 1200002000 := by rw [hL2, List.length_append, data_len, size2 ⟨#[32]⟩ _ 1 1 rfl (unhide HDL)]; omega
          rw [← hL2] at hI1b
          have HL2 := hide hL2
          clear hL2
          have k20 := cells_of hx1b 0
          have k21 := cells_of hx1b 1
          have k22 := cells_of hx1b 2
          simp at k20 k21 k22
          have HX2 := hide hx1b
          clear hx1b
          have hs1b : wr.heap.size < w1b.heap.size := by have := hb1b.size; omega
          go_wp2_with fail
          refine (write_l wB.heap.size b L2 _ wr.heap.size _ _ hI1b (by omega) (by decide) (by omega) (unhide HX2) hbx).mono ?_
          rintro e w2 ⟨rfl, hI2, hb2, hx2⟩
          have hs2 : wr.heap.size < w2.heap.size := by have := hb2.size; omega
          obtain ⟨L3, hL3⟩ : ∃ x, x = L2 ++ (⟨#[32, 58]⟩ : ByteArray).data.toList := ⟨_, rfl⟩
          have hl3 : L3.length ≤ 1200003000 := by rw [hL3, List.length_append, data_len]; have : (⟨#[32, 58]⟩ : ByteArray).size = 2 := rfl; omega
          rw [← hL3] at hI2
          have HL3 := hide hL3
          clear hL3
          have m2 := cells_of hx2 2
          simp at m2
          clear hx2
          have hbW : Below wB.heap.size wB w2 := ((hbr.trans hb0).trans hb1).trans (hb1b.trans hb2)
          go_wp2_with fail
          go_loopw [39, 11] (fun j _ wq => Below wB.heap.size wB wq ∧ ∃ m : Nat, m ≤ ln ∧ j = .int .i64 m ∧ Lib.IsBuilderF 43 5 wB.heap.size b (Lib.byteCells (L3 ++ likesB others (likes.take m))) wq) (fun j _ _ => ln - (intOf j).toNat)
          case atStart => exact ⟨hbW, 0, Nat.zero_le _, rfl, by simpa [likesB] using hI2⟩
          case round =>
            rename World => wq
            obtain ⟨hbq, m, hm, rfl, hIq⟩ := hrel
            have hszq := hbq.size
            have hlm : (L3 ++ likesB others (likes.take m)).length ≤ 1200300000 := by
              have h5 := likesB_length others hfO (likes.take m)
              have h6 : (likes.take m).length ≤ 500 := by simp; omega
              rw [List.length_append]
              omega
            by_cases hm2 : m < ln
            · have hml : m < likes.length := by have := hgI.1; omega
              obtain ⟨q, hq⟩ : ∃ q : Nat, likes[m]?.getD 0 = (q : Int) := ⟨(likes[m]?.getD 0).toNat, by
                rw [List.getElem?_eq_getElem hml]
                have := (unhide HF5) likes[m] (List.getElem_mem hml)
                simp
                omega⟩
              have hqn : q < nO := by
                have h7 := hO.1
                have h8 := (unhide HF5) likes[m] (List.getElem_mem hml)
                rw [List.getElem?_eq_getElem hml] at hq
                simp at hq
                omega
              have hck : wq.cell? ⟨lb, loff + m, none⟩ = some (.int .i64 (q : Int)) := by
                rcases hgI.2.2.2 with hz | ⟨lb', loff', he, hlb, hcl⟩
                · omega
                · cases he
                  rw [← hq]
                  exact (hbq.cell (p := ⟨lb, loff + m, none⟩) hlb).trans (hcl m hm2)
              have hco : wq.cell? ⟨bO, oO + q * 3, none⟩ = some (.string (agAt others q).name) := by
                rcases hO.2.2.2.2 with hz | ⟨bO', oO', he, hbO, hcl⟩
                · omega
                · cases he
                  exact (hbq.cell (p := ⟨bO, oO + q * 3, none⟩) hbO).trans (hcl q hqn).1
              have hon : (agAt others q).name.size ≤ 500 := by
                refine hfO _ ?_
                unfold agAt
                rw [List.getElem?_eq_getElem (show q < others.length by have := hO.1; omega)]
                simp
              have HM := hide (likesB_take others likes m hml)
              have HQ := hide hq
              have hOm := hO.2.1
              have hOm2 := hO.2.2.1
              unfold maxLen at hOm2
              have hIm := hgI.2.1
              have hIm2 := hgI.2.2.1
              unfold maxLen at hIm2
              clear hq hml
              go_wp2_with fail
              refine (write_p wB.heap.size b _ _ _ hIq (by omega) (by rw [ByteArray.size_append]; have : (⟨#[32]⟩ : ByteArray).size = 1 := rfl; omega) (by omega)).mono ?_
              rintro e w4 ⟨rfl, hI4, hb4⟩
              go_wp2
              go_roundw
              case rel =>
                refine ⟨hbq.trans hb4, m+1, by omega, by go_num, ?_⟩
                rw [unhide HM, unhide HQ]
                rw [List.append_assoc, data_append] at hI4
                exact hI4
              case measure => simp [intOf]; omega
            · have hme : likes.take m = likes := List.take_of_length_le (by have := hgI.1; omega)
              rw [hme] at hIq hlm
              go_wp2_with fail
              refine (write_p wB.heap.size b _ _ _ hIq (by omega) (by decide) (by omega)).mono ?_
              rintro e w4 ⟨rfl, hI4, hb4⟩
              go_wp2
              go_roundw
              case rel =>
                refine ⟨hbq.trans hb4, k+1, by omega, by go_num, ?_⟩
                rw [unhide HT, ← List.append_assoc, unhide HLe, ← line_many _ _ _ _ hone, ← unhide HL1, ← unhide HL2, ← unhide HL3]
                exact hI4
              case measure => simp [intOf]; omega
    · go_wp2
      go_end0
      have e : side.take k = side := List.take_of_length_le (by have := unhide HN; omega)
      rw [e] at hIr
      exact ⟨rfl, hIr, hbr⟩
end Go.Proofs.YtajdijjecojdhaaDoor
