import Derived.Test.YtbcchbhchfdbiaaY
namespace Go.Proofs.Ytbcchbhchfdbiaa
open Go.RowKit Go.Shelf
set_option maxRecDepth 100000 in
set_option maxHeartbeats 8000000 in
theorem topBackward_any (a0 : Option Addr) (n0 c0 : Nat) (l0 : List Int) (x1 x2 : Int) (a3 : Option Addr) (n3 c3 : Nat) (l3 : List Int) (w : World) (h0 : Ints w a0 n0 c0 l0) (hR0 : ∀ x ∈ l0, InR x) (hR1 : InR x1) (hR2 : InR x2) (h3 : Ints w a3 n3 c3 l3) (hR3 : ∀ x ∈ l3, InR x) (hm0 : n0 ≤ 140737488351232) (hm3 : n3 ≤ 140737488351232) :
    Calls Try.prog 5 #[.slice a0 n0 c0, .int .i64 x1, .int .i64 x2, .slice a3 n3 c3] w fun e w' => e = .returned (.bool true) ∧ Below w.heap.size w w' := by
  have r1 := h0.2.1
  have r2 := h0.2.2.1
  have r3 := h3.2.1
  have r4 := h3.2.2.1
  unfold maxLen at r2 r4
  by_cases hbig : 256 < n0 + n3
  · have hw1 : wrap64 ((n0 : Int) + (n3 : Int)) = (n0 : Int) + (n3 : Int) := wrap64_in _ (by omega) (by omega)
    have hd : decide ((256 : Int) < (n0 : Int) + (n3 : Int)) = true := by simp; omega
    clear h0 h3 hbig
    go_enter Try.func5, Try.ntmps5
    go_wp2
    go_ret
    exact ⟨rfl, Below.refl _ _⟩
  · have hw1 : wrap64 ((n0 : Int) + (n3 : Int)) = (n0 : Int) + (n3 : Int) := wrap64_in _ (by omega) (by omega)
    have hd : decide ((256 : Int) < (n0 : Int) + (n3 : Int)) = false := by simp; omega
    have CP1 := hide (pick_val x1 4 hR1 (by omega) (by omega) w)
    have CP2 := hide (pick_val x2 12 hR2 (by omega) (by omega) w)
    have hp1 := pkN_lt x1 (n := 4) (by omega)
    have hp2 := pkN_lt x2 (n := 12) (by omega)
    generalize pkN x1 4 = p1 at *
    generalize pkN x2 12 = p2 at *
    obtain ⟨PN, hPN⟩ : ∃ N, N = 1 + p1 := ⟨_, rfl⟩
    have CT := hide (treeOf_any a0 n0 c0 l0 PN p2 w h0 hR0 (by omega) (by omega) (by omega) (by omega))
    have H3 := hide h3
    have hn3 : n3 ≤ 256 := by omega
    have HR3 := hide hR3
    clear h0 hR0 h3 hR3 hbig
    go_enter Try.func5, Try.ntmps5
    go_wp2_with fail
    refine (unhide CP1).mono ?_
    rintro e w4 ⟨rfl, hw4⟩
    subst w4
    go_wp2_with fail
    refine (unhide CP2).mono ?_
    rintro e w4 ⟨rfl, hw4⟩
    subst w4
    go_wp2_with fail
    rw [show (1 : Int) + (p1 : Int) = (PN : Int) by omega]
    refine (unhide CT).mono ?_
    rintro e w2 ⟨ta, n, tc, L, rfl, hN, hBT, hb2⟩
    have hm := bt_may hN hBT
    obtain ⟨p, hp, hT⟩ := gt_of hN hm
    obtain rfl : p = PN := by omega
    have n40 := hT.n40
    have n1 := hT.n1
    have hbA : Below w2.heap.size w2 (w2.alloc (.cells #[.int .i64 (p : Int), .slice ta n tc] 24)) := by go_grown
    have HBX : Hid (∀ wz, Below (w2.alloc (.cells #[.int .i64 (p : Int), .slice ta n tc] 24)).heap.size (w2.alloc (.cells #[.int .i64 (p : Int), .slice ta n tc] 24)) wz → wz.cell? ⟨w2.heap.size, 0, none⟩ = some (.int .i64 (p : Int)) ∧ wz.cell? ⟨w2.heap.size, 1, none⟩ = some (.slice ta n tc)) := fun wz hz => ⟨(hz.cell (p := ⟨w2.heap.size, 0, none⟩) (by simp)).trans (by simp [World.cell?_alloc_at]), (hz.cell (p := ⟨w2.heap.size, 1, none⟩) (by simp)).trans (by simp [World.cell?_alloc_at])⟩
    have hNA := hN.later hbA
    have hbwA := hb2.trans (hbA.mono hb2.size)
    have HBWA := hide hbwA
    have HNA := hide hNA
    have HM := hide hm
    have HT := hide hT
    have CB := hide (backward_any (p : Int) ta n tc L _ hNA)
    unfold tV at CB ⊢
    clear hN hBT hb2 hm hT hbA hNA hbwA CT CP1 CP2 hp hPN
    go_wp2_with fail
    generalize hWA : w2.alloc (.cells #[.int .i64 (p : Int), .slice ta n tc] 24) = WA at *
    have HWS : Hid (w2.heap.size < WA.heap.size) := by show _ < _; rw [← hWA]; simp
    clear hWA
    refine (unhide CB).mono ?_
    rintro e w3 ⟨hb3, -, hok⟩
    obtain ⟨gc, ch, ge, rfl, g1, rI, hD⟩ := hok (unhide HM)
    have HB3 := hide hb3
    have hq : ∀ j, j < n → nth (lF n ch) j = ch j := fun j hj => lF_at hj
    have hIb := rI.ints (by omega)
    have hmc : mcE (p : Int) n L (lF n ch) = 0 := mcE_good (unhide HM) (lF_len n ch) (back_ok hD hq)
    have CPF := hide (perfect_any (p : Int) ta n tc L (some ⟨gc, 0, none⟩) n n (lF n ch) w3 ((unhide HNA).later hb3) hIb)
    have HPF : Hid (∀ e w', PerfP w3 (p : Int) n L (lF n ch) e w' → e = .returned (.tuple #[.bool true, .int .i64 0, .int .i64 0]) ∧ Below w3.heap.size w3 w') := fun e w' h => by
      obtain ⟨hb, -, h2⟩ := h
      obtain ⟨ch2, ge2, gw, d1, d2, h3⟩ := h2 hmc
      have hno := back_perf (unhide HT) hD hq d1 d2
      rcases h3 with ⟨j, who, j1, j2, j3, -⟩ | ⟨-, he⟩
      · exact absurd j3 (hno j who j1 j2)
      · exact ⟨he, hb⟩
    obtain ⟨z0, z1⟩ := unhide HBX w3 hb3
    unfold tV at CPF
    clear hIb hmc hq hD rI hb3 hok CB
    unfold two
    go_wp2_with fail
    refine (unhide CPF).mono ?_
    intro e w4 hp4
    obtain ⟨rfl, hb4⟩ := unhide HPF e w4 hp4
    have hb34 := (unhide HB3).trans (hb4.mono (unhide HB3).size)
    have HB4 := hide hb34
    obtain ⟨y0, y1⟩ := unhide HBX w4 hb34
    have hN4 := (unhide HNA).later hb34
    have hbw4 := (unhide HBWA).trans (hb34.mono (unhide HBWA).size)
    have CC := hide (choicesOf_any (p : Int) ta n tc L a3 n3 c3 l3 w4 hN4 ((unhide H3).later hbw4) (unhide HR3) (by omega) n40 (unhide HT).k5)
    unfold tV at CC
    clear hp4 hb4 hb34 hN4 hbw4 z0 z1 CPF HPF
    go_wp2_with fail
    refine (unhide CC).mono ?_
    rintro e w5 ⟨vq, q, rfl, hown, hql, hch, hb5⟩
    obtain ⟨qa, qc, rfl, hIq, -⟩ := Ints.of_owns hown (by omega)
    have hb45 := (unhide HB4).trans (hb5.mono (unhide HB4).size)
    have HB5 := hide hb45
    obtain ⟨x0, x1'⟩ := unhide HBX w5 hb45
    have hN5 := (unhide HNA).later hb45
    have hmc : mcE (p : Int) n L q = 0 := mcE_good (unhide HM) hql hch
    have HMC := hide hmc
    have CP5 := hide (perfect_any (p : Int) ta n tc L qa n qc q w5 hN5 hIq)
    have CS5 : Hid (∀ w6, Below w5.heap.size w5 w6 → Calls Try.prog 16 #[tV (p : Int) ta n tc, .slice qa n qc] w6 (SingP w6 (p : Int) n L q)) := fun w6 hb => single_any _ ta n tc L qa n qc q w6 (hN5.later hb) (hIq.later hb)
    have HBOTH : Hid (∀ e5 w6 e6 w7, PerfP w5 (p : Int) n L q e5 w6 → SingP w6 (p : Int) n L q e6 w7 → ∃ (b : Bool) (k : Nat), e5 = .returned (.tuple #[.bool b, .int .i64 (k : Int), .int .i64 0]) ∧ e6 = .returned (.tuple #[.bool b, .int .i64 0]) ∧ Below w5.heap.size w5 w7) := fun e5 w6 e6 w7 hp hs => by
      obtain ⟨hb, -, h2⟩ := hp
      obtain ⟨hb', -, h2'⟩ := hs
      obtain ⟨ch1, ge1, gw, d1, d2, h3⟩ := h2 hmc
      obtain ⟨ch2, ge2, d3, h4⟩ := h2' hmc
      have hiff := perf_sing (unhide HT) d1 d3 d2
      have hbb := hb.trans (hb'.mono hb.size)
      rcases h3 with ⟨j, who, j1, j2, j3, -, e1⟩ | ⟨ha, e1⟩
      · rcases h4 with ⟨j', i', -, -, -, e2⟩ | ⟨hb2, e2⟩
        · exact ⟨false, j, e1, e2, hbb⟩
        · exact absurd j3 (hiff.2 hb2 j who j1 j2)
      · rcases h4 with ⟨j', i', k1, k2, k3, e2⟩ | ⟨hb2, e2⟩
        · exact absurd k3 (hiff.1 ha j' i' k1 k2)
        · exact ⟨true, 0, e1, e2, hbb⟩
    unfold tV at CP5 CS5
    clear hown hql hch hb5 hIq hb45 hN5 hmc CC y0 y1
    go_wp2_with fail
    refine (unhide CP5).mono ?_
    intro e5 w6 hp5
    have HP5 := hide hp5
    have hS5 := unhide CS5 w6 hp5.1
    have HS5 := hide hS5
    have hb6 := (unhide HB5).trans (hp5.1.mono (unhide HB5).size)
    obtain ⟨v0, v1⟩ := unhide HBX w6 hb6
    obtain ⟨b5, k5, he5⟩ : ∃ (b : Bool) (k : Nat), e5 = .returned (.tuple #[.bool b, .int .i64 (k : Int), .int .i64 0]) := by
      obtain ⟨-, -, h2⟩ := hp5
      obtain ⟨ch1, ge1, gw, d1, d2, h3⟩ := h2 (unhide HMC)
      rcases h3 with ⟨j, who, j1, j2, j3, -, e1⟩ | ⟨ha, e1⟩
      · exact ⟨false, j, e1⟩
      · exact ⟨true, 0, e1⟩
    subst he5
    clear hp5 hS5 hb6 CP5 CS5
    go_wp2_with fail
    refine (unhide HS5).mono ?_
    intro e6 w7 hp6
    obtain ⟨b6, k6, he5, rfl, hb7⟩ := unhide HBOTH _ w6 e6 w7 (unhide HP5) hp6
    obtain rfl : b6 = b5 := by injection he5 with h; injection h with h; simp at h; exact h.1.symm
    have HF : Hid (Below w.heap.size w w7) := (unhide HBWA).trans (((unhide HB5).trans (hb7.mono (unhide HB5).size)).mono (unhide HBWA).size)
    clear hp6 hb7 he5 HBOTH
    cases b6 with
    | false =>
      go_wp2
      go_ret
      exact ⟨rfl, unhide HF⟩
    | true =>
      go_wp2
      go_ret
      exact ⟨rfl, unhide HF⟩
end Go.Proofs.Ytbcchbhchfdbiaa
