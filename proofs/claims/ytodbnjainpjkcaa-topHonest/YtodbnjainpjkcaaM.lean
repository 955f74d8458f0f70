import Derived.Test.YtodbnjainpjkcaaL
namespace Go.Proofs.Ytodbnjainpjkcaa
open Go.RowKit
theorem Ints.cellAt {w : World} {a : Option Addr} {n c : Nat} {l : List Int} (h : Ints w a n c l) (hn : 0 < n) : ∃ b off, a = some ⟨b, off, none⟩ ∧ b < w.heap.size ∧ ∀ j, j < n → w.cell? ⟨b, off + j, none⟩ = some (.int .i64 (l[j]?.getD 0)) := by
  obtain ⟨_, _, _, h0 | ⟨b, off, rfl, hb, hcell⟩⟩ := h
  · omega
  · exact ⟨b, off, rfl, hb, hcell⟩
theorem Ags.cellAt {w : World} {a : Option Addr} {n c : Nat} {l : List Ag} (h : Ags w a n c l) (hn : 0 < n) : ∃ b off, a = some ⟨b, off, none⟩ ∧ b < w.heap.size ∧ ∀ j, j < n →
    w.cell? ⟨b, off + j * 3, none⟩ = some (.string (agAt l j).name) ∧ w.cell? ⟨b, off + j * 3 + 1, none⟩ = some (.int .i64 (agAt l j).room) ∧
    w.cell? ⟨b, off + j * 3 + 2, none⟩ = some (.slice (agAt l j).la (agAt l j).ln (agAt l j).lc) := by
  obtain ⟨_, _, _, _, h0 | ⟨b, off, rfl, hb, hcell⟩⟩ := h
  · omega
  · exact ⟨b, off, rfl, hb, hcell⟩
set_option maxRecDepth 100000 in
set_option maxHeartbeats 1000000 in
theorem unwilling_any (aL : Option Addr) (nL cL : Nat) (lL : List Ag) (aR : Option Addr) (nR cR : Nat) (lR : List Ag) (aw : Option Addr) (nw cw : Nat) (ws : List Int) (w : World) (hL : Ags w aL nL cL lL) (hR : Ags w aR nR cR lR) (hw : Ints w aw nw cw ws) (hs : nw ≤ 1000) (hln : ws.length = lL.length) (hin : ∀ k, k < ws.length → -1 ≤ ws[k]?.getD 0 ∧ ws[k]?.getD 0 < lR.length) :
    Calls Try.prog 37 #[.agg #[.slice aL nL cL, .slice aR nR cR], .slice aw nw cw] w fun e w' => e = .returned (.int .i64 (optI (firstFrom (unwP lL lR ws) ws.length 0))) ∧ Below w.heap.size w w' := by
  obtain ⟨wA, hwA⟩ : ∃ y, y = w.alloc (.cells #[.slice aL nL cL, .slice aR nR cR] 26) := ⟨_, rfl⟩
  have hbA : Below w.heap.size w wA := by rw [hwA]; go_grown
  have a0 : wA.cell? ⟨w.heap.size, 0, none⟩ = some (.slice aL nL cL) := by rw [hwA]; simp
  have a1 : wA.cell? ⟨w.heap.size, 1, none⟩ = some (.slice aR nR cR) := by rw [hwA]; simp
  have HW := hide hwA
  clear hwA
  have hnw := hide hw.1
  have hlL := hide hL.1
  have hlR := hide hR.1
  have hm := hw.2.2.1
  have hc := hw.2.1
  unfold maxLen at hm
  have HLN := hide hln
  have HIN := hide hin
  clear hln hin
  by_cases hz : nw = 0
  · subst hz
    go_enter Try.func37, Try.ntmps37
    go_wp2_with fail
    refine wp_loop_rounds 1 ?_
    rw [rounds_succ]
    go_wp2
    go_ret
    exact ⟨ret_int (by rw [firstFrom_end (by have := unhide hnw; omega)]; rfl), by rw [← unhide HW]; exact hbA⟩
  obtain ⟨b, off, rfl, hb, hcell⟩ := hw.cellAt (by omega)
  go_enter Try.func37, Try.ntmps37
  go_wp2_with fail
  rw [← unhide HW]
  go_loopw [9, 5, 6] (fun i _ _ wr => Below wA.heap.size wA wr ∧ ∃ k : Nat, k ≤ nw ∧ i = .int .i64 k ∧ firstFrom (unwP lL lR ws) ws.length 0 = firstFrom (unwP lL lR ws) ws.length k) (fun i _ _ _ => nw - (intOf i).toNat)
  case atStart => exact ⟨Below.refl _ _, 0, Nat.zero_le _, rfl, rfl⟩
  case round =>
    obtain ⟨hbr, k, hk, rfl, hn⟩ := hrel
    have HI := hide hn
    clear hn
    have hbwr : Below w.heap.size w wr := hbA.trans (hbr.mono hbA.size)
    have f0 := (hbr.cell (p := ⟨w.heap.size, 0, none⟩) (World.block_lt_of_cell? wA _ a0)).trans a0; have f1 := (hbr.cell (p := ⟨w.heap.size, 1, none⟩) (World.block_lt_of_cell? wA _ a1)).trans a1; 
    by_cases hlt : k < nw
    · have hck : wr.cell? ⟨b, off + k, none⟩ = some (.int .i64 (ws[k]?.getD 0)) := (hbwr.cell (p := ⟨b, off + k, none⟩) hb).trans (hcell k hlt)
      have hLr := hL.later hbwr
      have hRr := hR.later hbwr
      have HKL := hide (show k < ws.length by have := unhide hnw; omega)
      have hkL : k < nL := by have := unhide hnw; have := unhide hlL; have := unhide HLN; omega
      by_cases he : ws[k]?.getD 0 = -1
      · have hpf : unwP lL lR ws k = false := by unfold unwP; rw [decide_eq_false (fun h => h he), Bool.false_and]
        have HY := hide (firstFrom_no (P := unwP lL lR ws) (unhide HKL) hpf)
        have ge : (ws[k]?.getD 0 != -1) = false := by simpa using he
        clear hpf he
        go_wp2
        go_roundw
        case rel => exact ⟨hbr, k+1, by omega, by go_num, by rw [unhide HI, unhide HY]⟩
        case measure => simp [intOf]; omega
      · have ge : (ws[k]?.getD 0 != -1) = true := by simpa using he
        obtain ⟨m, hm', hmR⟩ : ∃ m : Nat, ws[k]?.getD 0 = m ∧ m < nR := ⟨(ws[k]?.getD 0).toNat, by have := unhide HIN k (unhide HKL); omega, by have := unhide HIN k (unhide HKL); have := unhide hlR; omega⟩
        have hP : unwP lL lR ws k = !likeB lL lR k m := by unfold unwP; rw [decide_eq_true he, Bool.true_and, hm', Int.toNat_natCast]
        rw [hm'] at hck
        have hm2 : (((m : Int)) != -1) = true := by rw [← hm']; exact ge
        clear he ge
        cases hlk : likeB lL lR k m with
        | true =>
          have HY := hide (firstFrom_no (P := unwP lL lR ws) (unhide HKL) (by rw [hP, hlk]; rfl))
          go_wp2_with (go_at_call 41; refine (like_any aL nL cL lL aR nR cR lR k m _ hLr hRr hkL hmR).mono ?_; rintro e w2 ⟨rfl, hb2⟩; rw [hlk])
          go_roundw
          case rel => exact ⟨hbr.trans (hb2.mono hbr.size), k+1, by omega, by go_num, by rw [unhide HI, unhide HY]⟩
          case measure => simp [intOf]; omega
        | false =>
          have HY := hide (firstFrom_yes (P := unwP lL lR ws) (unhide HKL) (by rw [hP, hlk]; rfl))
          go_wp2_with (go_at_call 41; refine (like_any aL nL cL lL aR nR cR lR k m _ hLr hRr hkL hmR).mono ?_; rintro e w2 ⟨rfl, hb2⟩; rw [hlk])
          go_ret
          exact ⟨ret_int (by rw [unhide HI, unhide HY]; rfl), hbwr.trans (hb2.mono hbwr.size)⟩
    · go_wp2
      go_ret
      exact ⟨ret_int (by rw [unhide HI, firstFrom_end (by have := unhide hnw; omega)]; rfl), hbwr⟩
set_option maxRecDepth 100000 in
set_option maxHeartbeats 2000000 in
theorem mayBe_any (aL : Option Addr) (nL cL : Nat) (lL : List Ag) (aR : Option Addr) (nR cR : Nat) (lR : List Ag) (aw : Option Addr) (nw cw : Nat) (ws : List Int) (w : World) (hL : Ags w aL nL cL lL) (hR : Ags w aR nR cR lR) (hw : Ints w aw nw cw ws) (hs : nw ≤ 1000) :
    Calls Try.prog 36 #[.agg #[.slice aL nL cL, .slice aR nR cR], .slice aw nw cw] w fun e w' => e = .returned (.int .i64 (mayBeE lL lR ws)) ∧ Below w.heap.size w w' := by
  have hlL := hide hL.1
  have hlR := hide hR.1
  have hcL := hL.2.2.1
  have hcR := hR.2.2.1
  have hnL := hL.2.1
  have hnR := hR.2.1
  unfold maxLen at hcL hcR
  obtain ⟨wA, hwA⟩ : ∃ y, y = w.alloc (.cells #[.slice aL nL cL, .slice aR nR cR] 26) := ⟨_, rfl⟩
  have hbA : Below w.heap.size w wA := by rw [hwA]; go_grown
  have a0 : wA.cell? ⟨w.heap.size, 0, none⟩ = some (.slice aL nL cL) := by rw [hwA]; simp
  have a1 : wA.cell? ⟨w.heap.size, 1, none⟩ = some (.slice aR nR cR) := by rw [hwA]; simp
  have HW := hide hwA
  clear hwA
  have hnw := hide hw.1
  have hm := hw.2.2.1
  have hc := hw.2.1
  unfold maxLen at hm
  by_cases hln : nw = nL
  · have HE : Hid (mayBeE lL lR ws = outE (firstFrom (outP nR ws) nw 0) (overE (firstFrom (overP lR ws) nR 0))) := by
      show mayBeE lL lR ws = _
      unfold mayBeE
      rw [if_pos (by have := unhide hnw; have := unhide hlL; omega), ← unhide hnw, ← unhide hlR]
    subst hln
    go_enter Try.func36, Try.ntmps36
    go_wp2_with fail
    rw [← unhide HW]
    go_loop [17, 6] (fun i _ => ∃ k : Nat, k ≤ nw ∧ i = .int .i64 k ∧ firstFrom (outP nR ws) nw 0 = firstFrom (outP nR ws) nw k) (fun i _ => nw - (intOf i).toNat)
    case atStart => exact ⟨0, Nat.zero_le _, rfl, rfl⟩
    case round =>
      obtain ⟨k, hk, rfl, hn⟩ := hrel
      have HI := hide hn
      clear hn
      by_cases hlt : k < nw
      · obtain ⟨b, off, rfl, hb, hcell⟩ := hw.cellAt (by omega)
        have hck : wA.cell? ⟨b, off + k, none⟩ = some (.int .i64 (ws[k]?.getD 0)) := (hbA.cell (p := ⟨b, off + k, none⟩) hb).trans (hcell k hlt)
        by_cases c1 : ws[k]?.getD 0 < -1
        · have HY := hide (firstFrom_yes (P := outP nR ws) hlt (by unfold outP; rw [decide_eq_true c1, Bool.true_or]))
          have d1 : decide (ws[k]?.getD 0 < -1) = true := decide_eq_true c1
          clear c1
          go_wp2
          go_ret
          exact ⟨ret_int (by rw [unhide HE, unhide HI, unhide HY]; rfl), hbA⟩
        · by_cases c2 : (nR : Int) ≤ ws[k]?.getD 0
          · have HY := hide (firstFrom_yes (P := outP nR ws) hlt (by unfold outP; rw [decide_eq_true c2, Bool.or_true]))
            have d1 : decide (ws[k]?.getD 0 < -1) = false := decide_eq_false c1
            have d2 : decide ((nR : Int) ≤ ws[k]?.getD 0) = true := decide_eq_true c2
            clear c1 c2
            go_wp2
            go_ret
            exact ⟨ret_int (by rw [unhide HE, unhide HI, unhide HY]; rfl), hbA⟩
          · have HY := hide (firstFrom_no (P := outP nR ws) hlt (by unfold outP; rw [decide_eq_false c1, decide_eq_false c2]; rfl))
            have d1 : decide (ws[k]?.getD 0 < -1) = false := decide_eq_false c1
            have d2 : decide ((nR : Int) ≤ ws[k]?.getD 0) = false := decide_eq_false c2
            clear c1 c2
            go_wp2
            refine ⟨⟨k+1, by omega, by go_num, by rw [unhide HI, unhide HY]⟩, by simp [intOf]; omega⟩
      · have HO := hide (show firstFrom (outP nR ws) nw 0 = none by rw [unhide HI, firstFrom_end (by omega)])
        clear HI
        have hRA := hR.later hbA
        go_wp2_with fail
        go_loopw [34, 7, 8] (fun i _ _ wr => Below wA.heap.size wA wr ∧ ∃ k : Nat, k ≤ nR ∧ i = .int .i64 k ∧ firstFrom (overP lR ws) nR 0 = firstFrom (overP lR ws) nR k) (fun i _ _ _ => nR - (intOf i).toNat)
        case atStart => exact ⟨Below.refl _ _, 0, Nat.zero_le _, rfl, rfl⟩
        case round =>
          obtain ⟨hbr, k, hk, rfl, hn⟩ := hrel
          have HI := hide hn
          clear hn
          have hbwr : Below w.heap.size w wr := hbA.trans (hbr.mono hbA.size)
          by_cases hlt : k < nR
          · obtain ⟨b, off, rfl, hb, hcell⟩ := hRA.cellAt (by omega)
            obtain ⟨q1, q2, q3⟩ := hcell k hlt
            have r1 := (hbr.cell (p := ⟨b, off + k * 3, none⟩) hb).trans q1
            have r2 := (hbr.cell (p := ⟨b, off + k * 3 + 1, none⟩) hb).trans q2
            have r3 := (hbr.cell (p := ⟨b, off + k * 3 + 2, none⟩) hb).trans q3
            clear q1 q2 q3
            have hszb : b < wr.heap.size := Nat.lt_of_lt_of_le hb hbr.size
            have hbx : ∀ o, Below wr.heap.size wr (wr.alloc o) := fun o => by go_grown
            have hwx := fun o => hw.later (hbwr.trans ((hbx o).mono hbwr.size))
            by_cases hp : overP lR ws k = true
            · have HY := hide (firstFrom_yes (P := overP lR ws) hlt hp)
              unfold overP at hp
              generalize agAt lR k = G at *
              obtain ⟨nm, room, la, ln, lc, likes⟩ := G
              simp only at r1 r2 r3 hp
              obtain ⟨wB, hwB⟩ : ∃ y, y = wr.alloc (.cells #[.string nm, .int .i64 room, .slice la ln lc] 37) := ⟨_, rfl⟩
              have hw2 : Ints wB aw nw cw ws := by rw [hwB]; exact hwx _
              have hbB : Below wr.heap.size wr wB := by rw [hwB]; exact hbx _
              have s1 : wB.cell? ⟨wr.heap.size, 1, none⟩ = some (.int .i64 room) := by rw [hwB]; simp
              have HWB := hide hwB
              clear hwB
              go_wp2_with fail
              rw [← unhide HWB]
              clear r1 r2 r3
              go_quiet ((go_at_call 34; exact Calls.quiet_of_same (count_any aw nw cw ws k _ hw2)))
              go_wp2
              go_ret
              exact ⟨ret_int (by rw [unhide HE, unhide HO, unhide HI, unhide HY]; rfl), hbwr.trans ((hbB.trans (below_drewN _ _ _)).mono hbwr.size)⟩
            · have hpf : overP lR ws k = false := by simpa using hp
              have HY := hide (firstFrom_no (P := overP lR ws) hlt hpf)
              clear hp
              unfold overP at hpf
              generalize agAt lR k = G at *
              obtain ⟨nm, room, la, ln, lc, likes⟩ := G
              simp only at r1 r2 r3 hpf
              obtain ⟨wB, hwB⟩ : ∃ y, y = wr.alloc (.cells #[.string nm, .int .i64 room, .slice la ln lc] 37) := ⟨_, rfl⟩
              have hw2 : Ints wB aw nw cw ws := by rw [hwB]; exact hwx _
              have hbB : Below wr.heap.size wr wB := by rw [hwB]; exact hbx _
              have s1 : wB.cell? ⟨wr.heap.size, 1, none⟩ = some (.int .i64 room) := by rw [hwB]; simp
              have HWB := hide hwB
              clear hwB
              go_wp2_with fail
              rw [← unhide HWB]
              clear r1 r2 r3
              go_quiet ((go_at_call 34; exact Calls.quiet_of_same (count_any aw nw cw ws k _ hw2)))
              go_wp2
              go_roundw
              case rel => exact ⟨hbr.trans ((hbB.trans (below_drewN _ _ _)).mono hbr.size), k+1, by omega, by go_num, by rw [unhide HI, unhide HY]⟩
              case measure => simp [intOf]; omega
          · go_wp2
            go_ret
            exact ⟨ret_int (by rw [unhide HE, unhide HO, unhide HI, firstFrom_end (by omega)]; rfl), hbwr⟩
  · have HE : Hid (mayBeE lL lR ws = 7) := by
      show mayBeE lL lR ws = _
      unfold mayBeE
      rw [if_neg (by have := unhide hnw; have := unhide hlL; omega)]
    have g1 : ((nw : Int) != (nL : Int)) = true := by simp; omega
    go_enter Try.func36, Try.ntmps36
    go_wp2
    go_ret
    exact ⟨ret_int (unhide HE).symm, by rw [← unhide HW]; exact hbA⟩
end Go.Proofs.Ytodbnjainpjkcaa
