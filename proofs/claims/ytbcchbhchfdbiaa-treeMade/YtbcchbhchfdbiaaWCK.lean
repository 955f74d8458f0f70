import Derived.Test.YtbcchbhchfdbiaaWCH
import Derived.Test.YtbcchbhchfdbiaaWCJ
namespace Go.Proofs.Ytbcchbhchfdbiaa
open Go.RowKit Go.Shelf
attribute [local go_sem] Oper.semAt_some
set_option maxRecDepth 100000 in
set_option maxHeartbeats 8000000 in
theorem treeMade_any (a0 : Option Addr) (n0 c0 : Nat) (l0 : List Int) (x1 x2 : Int) (a3 : Option Addr) (n3 c3 : Nat) (l3 : List Int) (x4 x5 : Int) (w : World) (h0 : Ints w a0 n0 c0 l0) (hR0 : ∀ x ∈ l0, InR x) (hR1 : InR x1) (hR2 : InR x2) (h3 : Ints w a3 n3 c3 l3) (hR3 : ∀ x ∈ l3, InR x) (hR4 : InR x4) (hR5 : InR x5) (hm0 : n0 ≤ 140737488351232) (hm3 : n3 ≤ 140737488351232) :
    Calls Try.prog 4 #[.slice a0 n0 c0, .int .i64 x1, .int .i64 x2, .slice a3 n3 c3, .int .i64 x4, .int .i64 x5] w fun e w' => e = .returned (.bool true) ∧ Below w.heap.size w w' := by
  have r1 := h0.2.1
  have r2 := h0.2.2.1
  have r3 := h3.2.1
  have r4 := h3.2.2.1
  unfold maxLen at r2 r4
  by_cases hbig : 256 < n0 + n3
  · have hw1 : wrap64 ((n0 : Int) + (n3 : Int)) = (n0 : Int) + (n3 : Int) := wrap64_in _ (by omega) (by omega)
    have hd : decide ((256 : Int) < (n0 : Int) + (n3 : Int)) = true := by simp; omega
    clear h0 h3 hbig
    go_enter Try.func4, Try.ntmps4
    go_wp2
    go_ret
    exact ⟨rfl, Below.refl _ _⟩
  · have hw1 : wrap64 ((n0 : Int) + (n3 : Int)) = (n0 : Int) + (n3 : Int) := wrap64_in _ (by omega) (by omega)
    have hd : decide ((256 : Int) < (n0 : Int) + (n3 : Int)) = false := by simp; omega
    have CP1 := hide (pick_val x1 3 hR1 (by omega) (by omega) w)
    have CP2 := hide (pick_val x2 7 hR2 (by omega) (by omega) w)
    have hp1 := pkN_lt x1 (n := 3) (by omega)
    have hp2 := pkN_lt x2 (n := 7) (by omega)
    generalize pkN x1 3 = p1 at *
    generalize pkN x2 7 = p2 at *
    obtain ⟨PN, hPN⟩ : ∃ N, N = 1 + p1 := ⟨_, rfl⟩
    have CT := hide (treeOf_any a0 n0 c0 l0 PN p2 w h0 hR0 (by omega) (by omega) (by omega) (by omega))
    have H3 := hide h3
    have hn3 : n3 ≤ 256 := by omega
    have HR3 := hide hR3
    clear h0 hR0 h3 hR3 hbig
    go_enter Try.func4, Try.ntmps4
    go_wp2_with fail
    refine (unhide CP1).mono ?_
    rintro e w4 ⟨rfl, hw4⟩
    subst w4
    go_wp2_with fail
    refine (unhide CP2).mono ?_
    rintro e w4 ⟨rfl, hw4⟩
    subst w4
    go_wp2_with fail
    rw [show (1 : Int) + (p1 : Int) = (PN : Int) by omega]
    refine (unhide CT).mono ?_
    rintro e w2 ⟨ta, n, tc, L, rfl, hN, hBT, hb2⟩
    have hm := bt_may hN hBT
    obtain ⟨p, hp, hT⟩ := gt_of hN hm
    obtain rfl : p = PN := by omega
    have n40 := hT.n40
    have n1 := hT.n1
    have hbA : Below w2.heap.size w2 (w2.alloc (.cells #[.int .i64 (p : Int), .slice ta n tc] 24)) := by go_grown
    have HBX : Hid (∀ wz, Below (w2.alloc (.cells #[.int .i64 (p : Int), .slice ta n tc] 24)).heap.size (w2.alloc (.cells #[.int .i64 (p : Int), .slice ta n tc] 24)) wz → wz.cell? ⟨w2.heap.size, 0, none⟩ = some (.int .i64 (p : Int)) ∧ wz.cell? ⟨w2.heap.size, 1, none⟩ = some (.slice ta n tc)) := fun wz hz => ⟨(hz.cell (p := ⟨w2.heap.size, 0, none⟩) (by simp)).trans (by simp [World.cell?_alloc_at]), (hz.cell (p := ⟨w2.heap.size, 1, none⟩) (by simp)).trans (by simp [World.cell?_alloc_at])⟩
    have HNA := hide (hN.later hbA)
    have HBWA := hide (hb2.trans (hbA.mono hb2.size))
    have HT := hide hT
    have hd5 : ∀ d ∈ L, d.k.ln ≤ 140737488351232 ∧ d.p.ln ≤ 140737488351232 := fun d hd => by
      obtain ⟨i, hi, rfl⟩ := List.getElem_of_mem hd
      have e : ndAt L i = L[i] := by unfold ndAt; rw [List.getElem?_eq_getElem hi]; rfl
      have hi' : i < n := by have := hT.len; omega
      have h5 := hT.k5 i hi'
      have hP := hT.P5
      rw [← e]
      by_cases hk : (ndAt L i).k.ln = 0
      · have := (hT.ender i hi' hk).2
        omega
      · have := (hT.mover i hi' (by omega)).2.2
        omega
    have HD5 := hide hd5
    have hP1 := hT.P1
    have hP5 := hT.P5
    unfold tV
    clear hN hBT hb2 hm hT hbA CT CP1 CP2 hp hPN hd5
    go_wp2_with fail
    generalize hWA : w2.alloc (.cells #[.int .i64 (p : Int), .slice ta n tc] 24) = WA at *
    clear hWA
    refine wp_region_vals D5 S5 (J5 WA w2.heap.size (p : Int) ta n tc (.slice a3 n3 c3) x4 x5 (pkN x4 n : Int) (pkN x5 p : Int)) (by kernel_rfl) (by kernel_rfl) (by kernel_rfl) (by kernel_rfl) (by kernel_rfl) (by kernel_rfl) (by kernel_rfl) ⟨Det.nil _, (Below.refl _ _).drew, fun h => (by cases h)⟩ (steps5 rfl rfl rfl rfl rfl (unhide HBX) (fun X hX => (choicesOf_any (p : Int) ta n tc L a3 n3 c3 l3 X ((unhide HNA).later hX) ((unhide H3).later ((unhide HBWA).trans (hX.mono (unhide HBWA).size))) (unhide HR3) hn3 n40 (unhide HT).k5).mono (by
      rintro e w' ⟨v, q, rfl, ho, -, -, hb⟩
      obtain ⟨qa, qc, rfl, hI, -⟩ := Ints.of_owns ho (by omega)
      exact ⟨qa, qc, q, rfl, hI, hb⟩)) (fun X => pick_val x4 n hR4 (by omega) (by omega) X) (fun X => pick_val x5 p hR5 (by omega) (by omega) X) (fun X hX qa qc q hI => treeSays_any (p : Int) ta n tc L qa n qc q (pkN x4 n : Int) (pkN x5 p : Int) X ((unhide HNA).later hX) hI (by omega) (unhide HD5)) rfl rfl rfl rfl rfl rfl rfl rfl rfl rfl rfl rfl rfl rfl) ?_
    rintro l vals wz ⟨hDt, hBz, -⟩ hall
    have z13 := hDt 13 _ rfl (hall 13 (by decide))
    have HF : Hid (Below w.heap.size w wz) := (unhide HBWA).trans (hBz.mono (unhide HBWA).size)
    clear hDt hBz hall
    simp only [finA, S5, Act.put, List.setIfInBounds_toArray, List.set_cons_succ, List.set_cons_zero, z13]
    go_wp2
    go_ret
    exact ⟨rfl, unhide HF⟩
end Go.Proofs.Ytbcchbhchfdbiaa
