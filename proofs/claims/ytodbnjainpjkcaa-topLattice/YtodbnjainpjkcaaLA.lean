import Derived.Test.YtodbnjainpjkcaaGD
namespace Go.Proofs.Ytodbnjainpjkcaa
open Go.RowKit
theorem slAt_mem {l : List Sl} {j : Nat} (h : j < l.length) : slAt l j ∈ l := by
  unfold slAt
  rw [List.getElem?_eq_getElem h]
  exact List.getElem_mem h
set_option maxRecDepth 100000 in
set_option maxHeartbeats 4000000 in
/-- TOPLATTICE'S WALK. -/
theorem lattice_any (a : Option Addr) (m c : Nat) (raw : List Int) (li ri ii ki : Int) (w : World) (h : Ints w a m c raw) (hr : ∀ x ∈ raw, InR x) (hli : InR li) (hri : InR ri) (hii : InR ii) (hki : InR ki) (hmx : m ≤ 140737488351232) :
    Calls Try.prog 6 #[.slice a m c, .int .i64 li, .int .i64 ri, .int .i64 ii, .int .i64 ki] w fun e w' => e = .returned (.bool true) ∧ Below w.heap.size w w' := by
  have HR := hide hr
  clear hr
  by_cases hbig : 256 < m
  · go_enter Try.func6, Try.ntmps6
    go_wp2
    go_ret
    exact ⟨rfl, Below.refl _ _⟩
  go_enter Try.func6, Try.ntmps6
  go_wp2_with fail
  refine (sides_any a m c raw li ri 4 true w h (unhide HR) hli hri (by omega) (by omega) (by omega)).mono ?_
  rintro e w1 ⟨aL, nL, cL, lL, aR, nR, cR, lR, rfl, hL, hR, _, h1, _, h2, m1, m2, hb1⟩
  have hF : Fit lL lR := made_fit hL.1 hR.1 (by omega) (by omega) m1 m2
  have HZ := hide (made_match hF fun j hj => (m1 j (by have := hL.1; omega)).room.2.2 rfl)
  have HFL := hide (made_ln hL.1 m1)
  have HFR := hide (made_ln hR.1 m2)
  clear hF m1 m2
  go_wp2_with fail
  obtain ⟨wA, hwA⟩ : ∃ y, y = w1.alloc (.cells #[.slice aL nL cL, .slice aR nR cR] 26) := ⟨_, rfl⟩
  have hbA : Below w1.heap.size w1 wA := by rw [hwA]; go_grown
  have p0 : wA.cell? ⟨w1.heap.size, 0, none⟩ = some (.slice aL nL cL) := by rw [hwA]; simp
  have p1 : wA.cell? ⟨w1.heap.size, 1, none⟩ = some (.slice aR nR cR) := by rw [hwA]; simp
  rw [← hwA]
  have HW := hide hwA
  clear hwA
  refine (all_ok aL nL cL lL aR nR cR lR wA (hL.later hbA) (hR.later hbA) (unhide HFL) (unhide HFR) (unhide HZ)).mono ?_
  rintro e w2 ⟨a2, n2, c2, L2, rfl, hL2, hl2, hb2⟩
  have hbw2 := hbA.trans (hb2.mono hbA.size)
  have p0b := (hb2.cell (p := ⟨w1.heap.size, 0, none⟩) (World.block_lt_of_cell? wA _ p0)).trans p0
  have p1b := (hb2.cell (p := ⟨w1.heap.size, 1, none⟩) (World.block_lt_of_cell? wA _ p1)).trans p1
  clear p0 p1
  have hn2 : 0 < n2 ∧ n2 ≤ 1000 := by
    have e1 : n2 = (progF lL lR lL.length []).length := by rw [← hl2, hL2.1]; simp [lists]
    have e2 := prog_some (unhide HZ)
    have e3 := prog_len (lL := lL) (lR := lR) lL.length []
    have hlL := hL.1
    have hlR := hR.1
    have e4 : (lR.length + 1) ^ lL.length ≤ 5 ^ 4 := Nat.le_trans (Nat.pow_le_pow_left (show lR.length + 1 ≤ 5 by omega) _) (Nat.pow_le_pow_right (by omega) (by omega))
    have e5 : (5 : Nat) ^ 4 ≤ 1000 := by decide
    omega
  obtain ⟨hn0, hn9⟩ := hn2
  have HST : Hid (∀ i, i < n2 → Stab lL lR (slAt L2 i).ints ∧ Ints w2 (slAt L2 i).la (slAt L2 i).ln (slAt L2 i).lc (slAt L2 i).ints) := fun i hi => by
    have hm := slAt_mem (l := L2) (j := i) (by have := hL2.1; omega)
    refine ⟨prog_stab (unhide HZ) ?_, hL2.2.2.2.1 _ hm⟩
    rw [← hl2]
    exact List.mem_map.2 ⟨_, hm, rfl⟩
  have hc2 := hL2.2.1
  have hm2 := hL2.2.2.1
  unfold maxLen at hm2
  obtain ⟨b2, off2, rfl, hbb2, hcell2⟩ := hL2.cellAt hn0
  have HC2 := hide hcell2
  clear hL2 hl2 hcell2
  have n0 : ((n2 : Int) == 0) = false := by simp; omega
  unfold two
  go_wp2_with fail
  refine (pick_any ii n2 hii hn0 hn9 w2).mono ?_
  rintro e w3 ⟨i1, hi1, rfl, hw3⟩
  subst w3
  have hci := unhide HC2 i1 hi1
  obtain ⟨hSx, hIx⟩ := unhide HST i1 hi1
  obtain ⟨sx, hsx⟩ : ∃ s, s = slAt L2 i1 := ⟨_, rfl⟩
  rw [← hsx] at hci hSx hIx
  clear hsx
  obtain ⟨xa, xn, xc, xs⟩ := sx
  simp only at hci hSx hIx
  go_wp2_with fail
  refine (pick_any ki n2 hki hn0 hn9 w2).mono ?_
  rintro e w3 ⟨i2, hi2, rfl, hw3⟩
  subst w3
  have hcj := unhide HC2 i2 hi2
  obtain ⟨hSy, hIy⟩ := unhide HST i2 hi2
  obtain ⟨sy, hsy⟩ : ∃ s, s = slAt L2 i2 := ⟨_, rfl⟩
  rw [← hsy] at hcj hSy hIy
  clear hsy
  obtain ⟨ya, yn, yc, ys⟩ := sy
  simp only at hcj hSy hIy
  have hbk := blend_ok (unhide HZ) hSx hSy
  have J := jm_pick hSx hSy
  have hxn : xn ≤ 1000 := by have := hIx.1; have := hSx.len; have := hL.1; omega
  have hyn : yn ≤ 1000 := by have := hIy.1; have := hSy.len; have := hL.1; omega
  have HJ := hide (J.join hSx hSy)
  have HM := hide (J.meet hSx hSy)
  have HBK := hide hbk
  have HBJ : Hid (blendL lL lR (secJ lL xs ys) xs ys = pickTo (secJ lL xs ys) xs ys lL.length) := by
    show _ = _
    unfold blendL
    rw [if_pos hbk, hSx.len]
  have HBM : Hid (blendL lL lR (secM lL xs ys) xs ys = pickTo (secM lL xs ys) xs ys lL.length) := by
    show _ = _
    unfold blendL
    rw [if_pos hbk, hSx.len]
  clear J hbk
  go_wp2_with fail
  refine (join_any aL nL cL lL aR nR cR lR xa xn xc xs ya yn yc ys w2 (hL.later hbw2) (hR.later hbw2) hIx hIy hxn hyn (unhide HFL)).mono ?_
  rintro e w3 ⟨va, m3, c3, rfl, hI3, hb3⟩
  rw [unhide HBK]
  rw [unhide HBJ] at hI3
  have hbw3 := hbw2.trans (hb3.mono hbw2.size)
  have p0c := (hb3.cell (p := ⟨w1.heap.size, 0, none⟩) (World.block_lt_of_cell? w2 _ p0b)).trans p0b
  have p1c := (hb3.cell (p := ⟨w1.heap.size, 1, none⟩) (World.block_lt_of_cell? w2 _ p1b)).trans p1b
  clear p0b p1b hci hcj
  unfold two
  go_wp2_with fail
  refine (meet_any aL nL cL lL aR nR cR lR xa xn xc xs ya yn yc ys w3 (hL.later hbw3) (hR.later hbw3) (hIx.later hb3) (hIy.later hb3) hxn hyn (unhide HFL)).mono ?_
  rintro e w4 ⟨vb, m4, c4, rfl, hI4, hb4⟩
  rw [unhide HBK]
  rw [unhide HBM] at hI4
  have hbw4 := hbw3.trans (hb4.mono hbw3.size)
  have p0d := (hb4.cell (p := ⟨w1.heap.size, 0, none⟩) (World.block_lt_of_cell? w3 _ p0c)).trans p0c
  have p1d := (hb4.cell (p := ⟨w1.heap.size, 1, none⟩) (World.block_lt_of_cell? w3 _ p1c)).trans p1c
  clear p0c p1c
  have hI3' := hI3.later hb4
  have hm3 : m3 ≤ 1000 := by have := hI3.1; have := (unhide HJ).len; have := hL.1; omega
  have hm4 : m4 ≤ 1000 := by have := hI4.1; have := (unhide HM).len; have := hL.1; omega
  clear hI3
  unfold two
  go_wp2_with fail
  refine (stable_any aL nL cL lL aR nR cR lR va m3 c3 _ w4 (hL.later hbw4) (hR.later hbw4) hI3' hm3 (unhide HFL) (unhide HFR)).mono ?_
  rintro e w5 ⟨rfl, hb5⟩
  obtain ⟨s1, s2, hs⟩ := stab_val (unhide HZ) (unhide HJ)
  rw [hs]
  clear hs
  have hbw5 := hbw4.trans (hb5.mono hbw4.size)
  have p0e := (hb5.cell (p := ⟨w1.heap.size, 0, none⟩) (World.block_lt_of_cell? w4 _ p0d)).trans p0d
  have p1e := (hb5.cell (p := ⟨w1.heap.size, 1, none⟩) (World.block_lt_of_cell? w4 _ p1d)).trans p1d
  clear p0d p1d
  unfold four
  go_wp2_with fail
  refine (stable_any aL nL cL lL aR nR cR lR vb m4 c4 _ w5 (hL.later hbw5) (hR.later hbw5) (hI4.later hb5) hm4 (unhide HFL) (unhide HFR)).mono ?_
  rintro e w6 ⟨rfl, hb6⟩
  obtain ⟨t1, t2, ht⟩ := stab_val (unhide HZ) (unhide HM)
  rw [ht]
  clear ht
  have hbw6 := hbw5.trans (hb6.mono hbw5.size)
  unfold four
  go_wp2
  go_ret
  exact ⟨rfl, hb1.trans (hbw6.mono hb1.size)⟩
end Go.Proofs.Ytodbnjainpjkcaa
