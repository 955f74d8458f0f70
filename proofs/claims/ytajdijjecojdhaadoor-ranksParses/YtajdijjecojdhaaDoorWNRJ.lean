import Derived.Test.YtajdijjecojdhaaDoorWNR
import Derived.BigQuiet
namespace Go.Proofs.YtajdijjecojdhaaDoor
open Go.RowKit
attribute [local go_sem] Oper.semAt_some
set_option maxRecDepth 100000 in
set_option maxHeartbeats 8000000 in
theorem rsI_1 (b off n c : Nat) (x0 x1 : ByteArray) (t : List ByteArray) (a : Option Addr) (m d : Nat) (all : List Ent) (w : World) (h : Strz w (some ⟨b, off, none⟩) (n + 2) (c + 2) (x0 :: x1 :: t)) (h0 : (x0.toList == [108, 101, 102, 116]) = false) (h0' : (x0.toList == [114, 105, 103, 104, 116]) = true) (h1 : nameB x1 = true) (hA : Sds w a m d all) (hm1 : m ≤ 1000) (hn9 : n ≤ 9000) (y zc : ByteArray) (t' t3 : List ByteArray) (ht : t = y :: t') (ht' : t' = zc :: t3) (hcol : (y.toList == [58]) = false) (hcz : (zc.toList == [58]) = true) (hy0 : 0 < y.size) (r : Int) (hrm : roomP (y :: t') = .ok (r, t')) :
    Calls Tryd.prog 33 #[.slice (some ⟨b, off, none⟩) (n + 2) (c + 2), .slice a m d] w fun e w' => Below w.heap.size w w' ∧ ((∃ k, takeS all (x0 :: x1 :: t) = .error k ∧ SvE e k) ∨ (∃ en la ln lc, takeS all (x0 :: x1 :: t) = .ok en ∧ e = .returned (.tuple #[.agg #[.bool en.left, .string en.name, .int .i64 en.room, .slice none 0 0, .slice la ln lc], .int .i64 0]) ∧ In9 w' la ln lc en.likes)) := by
  obtain rfl : m = all.length := hA.1
  obtain rfl : n = t.length := by have := h.1; simpa using this
  have HTT : Hid (takeS all (x0 :: x1 :: t) = if hasN all x1 then .error 6 else if 6 ≤ (sideE false all).length then .error 2 else match roomP t with
      | .error k => .error k
      | .ok (r, t2) => match likesP t2 with
        | .error k => .error k
        | .ok t3 => .ok ⟨false, x1, r, t3⟩) := by
    have e1 : isL x0 = false := h0
    have e2 : isR x0 = true := h0'
    show _ = _
    simp only [takeS, e1, e2, h1, Bool.or_true, if_true]
    rfl
  have hAd := hA.2.1
  have hAx := hA.2.2.1
  unfold maxLen at hAx
  obtain ⟨hn, hc, hm, hs, hh⟩ := h
  unfold maxLen at hm
  rcases hh with hz | ⟨b', off', e, hlt, hcell⟩
  · omega
  cases e
  have q0 : w.cell? ⟨b, off, none⟩ = some (.string x0) := hcell 0 (by omega)
  have q1 : w.cell? ⟨b, off + 1, none⟩ = some (.string x1) := hcell 1 (by omega)
  have hs1 : x1.size ≤ maxLen := hs x1 (by simp)
  have HW1 : Hid (∀ wr, Below w.heap.size w wr → wr.cell? ⟨b, off + 1, none⟩ = some (.string x1)) := fun wr hr => (hr.cell (p := ⟨b, off + 1, none⟩) hlt).trans q1
  have HW2 : Hid (∀ wr : World, Below w.heap.size w wr → ∀ y t', t = y :: t' → wr.cell? ⟨b, off + 2, none⟩ = some (.string y)) := fun wr hr y t' e => (hr.cell (p := ⟨b, off + 2, none⟩) hlt).trans (by have := hcell 2 (by rw [e]; simp); rw [e] at this; simpa using this)
  have HWX : Hid (∀ wr : World, Below w.heap.size w wr → ∀ j, j < t.length + 2 → wr.cell? ⟨b, off + j, none⟩ = some (.string ((x0 :: x1 :: t)[j]?.getD ByteArray.empty))) := fun wr hr j hj => (hr.cell (p := ⟨b, off + j, none⟩) hlt).trans (hcell j hj)
  have HSZ := hide hs
  obtain ⟨W, hW, hbW, hsW, hQ, hS⟩ := box5 (w := w) false
  have hz : ((w.alloc (.cells #[.bool false, .string { data := #[] }, .int .i64 0, .slice none 0 0, .slice none 0 0] 69)).alloc (.cells #[.bool false, .string { data := #[] }, .int .i64 0, .slice none 0 0, .slice none 0 0] 69)) = W := hW
  have HZ := hide hz
  have HB := hide hbW
  have HQ := hide hQ
  have s0 : W.cell? ⟨w.heap.size + 1, 0, none⟩ = some (.bool false) := (cell_in' hS 0).1
  have s1 : W.cell? ⟨w.heap.size + 1, 1, none⟩ = some (.string ByteArray.empty) := (cell_in' hS 1).1
  have s2 : W.cell? ⟨w.heap.size + 1, 2, none⟩ = some (.int .i64 0) := (cell_in' hS 2).1
  have s3 : W.cell? ⟨w.heap.size + 1, 3, none⟩ = some (.slice none 0 0) := (cell_in' hS 3).1
  have s4 : W.cell? ⟨w.heap.size + 1, 4, none⟩ = some (.slice none 0 0) := (cell_in' hS 4).1
  have u0 : W.cell? ⟨w.heap.size, 0, none⟩ = some (.bool false) := (cell_in' hQ 0).1
  have u1 : W.cell? ⟨w.heap.size, 1, none⟩ = some (.string ByteArray.empty) := (cell_in' hQ 1).1
  have u2 : W.cell? ⟨w.heap.size, 2, none⟩ = some (.int .i64 0) := (cell_in' hQ 2).1
  have u3 : W.cell? ⟨w.heap.size, 3, none⟩ = some (.slice none 0 0) := (cell_in' hQ 3).1
  have u4 : W.cell? ⟨w.heap.size, 4, none⟩ = some (.slice none 0 0) := (cell_in' hQ 4).1
  have f0 := (cell_in' hQ 0).2
  have f1 := (cell_in' hQ 1).2
  have f2 := (cell_in' hQ 2).2
  have f3 := (cell_in' hQ 3).2
  have f4 := (cell_in' hQ 4).2
  have HA := hide hA
  have HSB := hide hS
  clear hcell hn hs hz hW hbW hQ hS hA
  go_enter Tryd.func33, Tryd.ntmps33
  go_wp2_with fail
  rw [unhide HZ]
  refine (named_any x1 W hs1).mono ?_
  rintro e w3 ⟨rfl, hw3⟩
  subst w3
  rw [h1]
  clear s0 s1 s2 s3 s4 u0 u1 u2 u3 u4 f0 f1 f2 f3 f4
  go_wp2_with fail
  go_loopw [8, 9] (fun kv iv wr => Hid (Below W.heap.size W wr) ∧ ∃ (i k : Nat), i ≤ all.length ∧ iv = .int .i64 (i : Int) ∧ kv = .int .i64 (k : Int) ∧ k ≤ i ∧ Hid ((sideE false (all.take i)).length = k ∧ hasN (all.take i) x1 = false)) (fun _ iv _ => all.length - (intOf iv).toNat)
  case atStart => exact ⟨Below.refl _ _, 0, 0, Nat.zero_le _, rfl, rfl, Nat.zero_le _, rfl, rfl⟩
  case round =>
    obtain ⟨HBr, i, k, hi, rfl, rfl, hki, HK⟩ := hrel
    have HBw := hide ((unhide HB).trans ((unhide HBr).mono (unhide HB).size))
    have g1 := unhide HW1 wr (unhide HBw)
    by_cases hlt2 : i < all.length
    · have hil : i < all.length := by omega
      obtain ⟨ab, ao, ea, e0, e1⟩ : ∃ ab ao, a = some ⟨ab, ao, none⟩ ∧ wr.cell? ⟨ab, ao + i * 5, none⟩ = some (.bool all[i].left) ∧ wr.cell? ⟨ab, ao + i * 5 + 1, none⟩ = some (.string all[i].name) := by
        obtain ⟨-, -, -, h4⟩ := (unhide HA).later (unhide HBw)
        rcases h4 with h4 | ⟨ab, ao, e, -, hc⟩
        · omega
        · exact ⟨ab, ao, e, (hc i hil).1, (hc i hil).2⟩
      subst ea
      have hi1 : (i : Int) < (all.length : Int) := by omega
      have HTK : Hid (all.take (i + 1) = all.take i ++ [all[i]]) := by show _ = _; rw [List.take_succ_eq_append_getElem hil]
      generalize hen : all[i] = en at *
      obtain ⟨el, enm, er, ek⟩ := en
      simp only at e0 e1
      go_wp2_with fail
      go_quiet (fail)
      have hbz := below_drewN wr.heap.size wr nq
      have HBy := hide ((unhide HBr).trans (hbz.mono (unhide HBr).size))
      have HByw := hide ((unhide HB).trans ((unhide HBy).mono (unhide HB).size))
      have k0 := (hbz.cell (p := ⟨ab, ao + i * 5, none⟩) (World.block_lt_of_cell? wr _ e0)).trans e0
      clear e0 e1 g1 hbz
      generalize wr.drewN nq = wy at *
      have hSy : wy.heap[w.heap.size + 1]? = some (.cells #[.bool false, .string ByteArray.empty, .int .i64 0, .slice none 0 0, .slice none 0 0] 69 (0, 0)) := ((unhide HBy).block (w.heap.size + 1) (by omega)).trans (unhide HSB)
      have hQy : wy.heap[w.heap.size]? = some (.cells #[.bool false, .string ByteArray.empty, .int .i64 0, .slice none 0 0, .slice none 0 0] 69 (0, 0)) := ((unhide HBy).block w.heap.size (by omega)).trans (unhide HQ)
      have s0 : wy.cell? ⟨w.heap.size + 1, 0, none⟩ = some (.bool false) := (cell_in' hSy 0).1
      have s1 : wy.cell? ⟨w.heap.size + 1, 1, none⟩ = some (.string ByteArray.empty) := (cell_in' hSy 1).1
      have s2 : wy.cell? ⟨w.heap.size + 1, 2, none⟩ = some (.int .i64 0) := (cell_in' hSy 2).1
      have s3 : wy.cell? ⟨w.heap.size + 1, 3, none⟩ = some (.slice none 0 0) := (cell_in' hSy 3).1
      have s4 : wy.cell? ⟨w.heap.size + 1, 4, none⟩ = some (.slice none 0 0) := (cell_in' hSy 4).1
      have u0 : wy.cell? ⟨w.heap.size, 0, none⟩ = some (.bool false) := (cell_in' hQy 0).1
      have u1 : wy.cell? ⟨w.heap.size, 1, none⟩ = some (.string ByteArray.empty) := (cell_in' hQy 1).1
      have u2 : wy.cell? ⟨w.heap.size, 2, none⟩ = some (.int .i64 0) := (cell_in' hQy 2).1
      have u3 : wy.cell? ⟨w.heap.size, 3, none⟩ = some (.slice none 0 0) := (cell_in' hQy 3).1
      have u4 : wy.cell? ⟨w.heap.size, 4, none⟩ = some (.slice none 0 0) := (cell_in' hQy 4).1
      have f0 := (cell_in' hQy 0).2
      have f1 := (cell_in' hQy 1).2
      have f2 := (cell_in' hQy 2).2
      have f3 := (cell_in' hQy 3).2
      have f4 := (cell_in' hQy 4).2
      have HQy := hide hQy
      clear hSy hQy
      cases heq : (enm.toList == x1.toList) with
      | true =>
        have HF : Hid (hasN all x1 = true) := by
          show _ = true
          unfold hasN
          rw [List.any_eq_true]
          exact ⟨all[i], List.getElem_mem hil, by rw [hen]; exact heq⟩
        go_wp2_with fail
        refine bodyPost_ret (results_row_tmp rfl _ _ _ w.heap.size _ rfl (run_loadVar_row _ w.heap.size 69 69 _ (0, 0) _ (over5 (unhide HQy)) Tryd.underlying69 rfl (by show _ = some 5; kernel_rfl))) rfl ?_
        exact ⟨(((((unhide HByw).setCell (p := ⟨w.heap.size, 0, none⟩) (Nat.le_refl _) _).setCell (p := ⟨w.heap.size, 1, none⟩) (Nat.le_refl _) _).setCell (p := ⟨w.heap.size, 2, none⟩) (Nat.le_refl _) _).setCell (p := ⟨w.heap.size, 3, none⟩) (Nat.le_refl _) _).setCell (p := ⟨w.heap.size, 4, none⟩) (Nat.le_refl _) _, .inl ⟨6, by rw [unhide HTT, if_pos (unhide HF)], _, _, _, _, _, _, rfl⟩⟩
      | false =>
        have HNF : Hid (hasN (all.take (i + 1)) x1 = false) := by
          show _ = false
          rw [unhide HTK]
          unfold hasN
          rw [List.any_append]
          have := (unhide HK).2
          unfold hasN at this
          rw [this]
          simp [heq]
        clear s1 s2 s3 s4 u0 u1 u2 u3 u4 f0 f1 f2 f3 f4
        go_wp2_with fail
        go_quiet (fail)
        have hbz := below_drewN wy.heap.size wy nq
        have HBz := hide ((unhide HBy).trans (hbz.mono (unhide HBy).size))
        clear hbz k0 s0
        generalize wy.drewN nq = wz at *
        cases el with
        | false =>
          have HKN : Hid ((sideE false (all.take (i + 1))).length = k + 1) := by
            show _ = _
            rw [unhide HTK, sideE_same false _ _ rfl, List.length_append, (unhide HK).1]
            rfl
          go_wp2_with fail
          exact ⟨⟨HBz, i + 1, k + 1, by omega, by go_num, by go_num, by omega, unhide HKN, unhide HNF⟩, by simp [intOf]; omega⟩
        | true =>
          have HKN : Hid ((sideE false (all.take (i + 1))).length = k) := by
            show _ = _
            rw [unhide HTK, sideE_other false _ _ (by simp)]
            exact (unhide HK).1
          go_wp2_with fail
          exact ⟨⟨HBz, i + 1, k, by omega, by go_num, rfl, by omega, unhide HKN, unhide HNF⟩, by simp [intOf]; omega⟩
    · obtain rfl : i = all.length := by omega
      obtain ⟨hk1, hk2⟩ := unhide HK
      rw [List.take_length] at hk1 hk2
      have HH := hide hk2
      have hSr : wr.heap[w.heap.size + 1]? = some (.cells #[.bool false, .string ByteArray.empty, .int .i64 0, .slice none 0 0, .slice none 0 0] 69 (0, 0)) := ((unhide HBr).block (w.heap.size + 1) (by omega)).trans (unhide HSB)
      have hQr : wr.heap[w.heap.size]? = some (.cells #[.bool false, .string ByteArray.empty, .int .i64 0, .slice none 0 0, .slice none 0 0] 69 (0, 0)) := ((unhide HBr).block w.heap.size (by omega)).trans (unhide HQ)
      have s0 : wr.cell? ⟨w.heap.size + 1, 0, none⟩ = some (.bool false) := (cell_in' hSr 0).1
      have s1 : wr.cell? ⟨w.heap.size + 1, 1, none⟩ = some (.string ByteArray.empty) := (cell_in' hSr 1).1
      have s2 : wr.cell? ⟨w.heap.size + 1, 2, none⟩ = some (.int .i64 0) := (cell_in' hSr 2).1
      have s3 : wr.cell? ⟨w.heap.size + 1, 3, none⟩ = some (.slice none 0 0) := (cell_in' hSr 3).1
      have s4 : wr.cell? ⟨w.heap.size + 1, 4, none⟩ = some (.slice none 0 0) := (cell_in' hSr 4).1
      have u0 : wr.cell? ⟨w.heap.size, 0, none⟩ = some (.bool false) := (cell_in' hQr 0).1
      have u1 : wr.cell? ⟨w.heap.size, 1, none⟩ = some (.string ByteArray.empty) := (cell_in' hQr 1).1
      have u2 : wr.cell? ⟨w.heap.size, 2, none⟩ = some (.int .i64 0) := (cell_in' hQr 2).1
      have u3 : wr.cell? ⟨w.heap.size, 3, none⟩ = some (.slice none 0 0) := (cell_in' hQr 3).1
      have u4 : wr.cell? ⟨w.heap.size, 4, none⟩ = some (.slice none 0 0) := (cell_in' hQr 4).1
      have f0 := (cell_in' hQr 0).2
      have f1 := (cell_in' hQr 1).2
      have f2 := (cell_in' hQr 2).2
      have f3 := (cell_in' hQr 3).2
      have f4 := (cell_in' hQr 4).2
      have y1 := (cell_in' hSr 1).2
      have y2 := (cell_in' hSr 2).2
      have y3 := (cell_in' hSr 3).2
      have HQr := hide hQr
      have HSr := hide hSr
      have hsr := (unhide HBr).size
      clear hQr hSr HK hk2
      by_cases h6 : 6 ≤ k
      · have hd : decide ((6 : Int) ≤ (k : Int)) = true := by simp; omega
        have HE : Hid (takeS all (x0 :: x1 :: t) = .error 2) := by show _ = _; rw [unhide HTT, if_neg (by rw [unhide HH]; simp), if_pos (by omega)]
        go_wp2_with fail
        refine bodyPost_ret (results_row_tmp rfl _ _ _ w.heap.size _ rfl (run_loadVar_row _ w.heap.size 69 69 _ (0, 0) _ (over5 (unhide HQr)) Tryd.underlying69 rfl (by show _ = some 5; kernel_rfl))) rfl ?_
        exact ⟨(((((unhide HBw).setCell (p := ⟨w.heap.size, 0, none⟩) (Nat.le_refl _) _).setCell (p := ⟨w.heap.size, 1, none⟩) (Nat.le_refl _) _).setCell (p := ⟨w.heap.size, 2, none⟩) (Nat.le_refl _) _).setCell (p := ⟨w.heap.size, 3, none⟩) (Nat.le_refl _) _).setCell (p := ⟨w.heap.size, 4, none⟩) (Nat.le_refl _) _, .inl ⟨2, unhide HE, _, _, _, _, _, _, rfl⟩⟩
      · have hd : decide ((6 : Int) ≤ (k : Int)) = false := by simp; omega
        have HE : Hid (takeS all (x0 :: x1 :: t) = match roomP t with
            | .error k => .error k
            | .ok (r, t2) => match likesP t2 with
              | .error k => .error k
              | .ok t3 => .ok ⟨false, x1, r, t3⟩) := by show _ = _; rw [unhide HTT, if_neg (by rw [unhide HH]; simp), if_neg (by omega)]
        subst ht'
        subst ht
        obtain ⟨_, hy1, hy2, hy3, hyr⟩ := room_okk hcol hy0 hrm
        have HYR := hide hyr
        clear hyr
        have HE1 : Hid (takeS all (x0 :: x1 :: y :: zc :: t3) = match likesP (zc :: t3) with
            | .error k => .error k
            | .ok t3 => .ok ⟨false, x1, r, t3⟩) := by
          show _ = _
          rw [unhide HE, hrm]
        clear hrm
        obtain ⟨wq, hwq⟩ : ∃ wq, wq = (((wr.setCell ⟨w.heap.size + 1, 1, none⟩ (.string x1)).setCell ⟨w.heap.size + 1, 2, none⟩ (.int .i64 1)).setCell ⟨w.heap.size + 1, 3, none⟩ (.slice none 0 0)) := ⟨_, rfl⟩
        have HB3 : Hid (Below w.heap.size w wq) := by rw [hwq]; exact below3 (unhide HBw) (Nat.le_succ _)
        have HS3 : Hid (wq.heap[w.heap.size + 1]? = some (.cells #[.bool false, .string x1, .int .i64 1, .slice none 0 0, .slice none 0 0] 69 (0, 0))) := by rw [hwq]; exact set3 (unhide HSr)
        have HQ3 : Hid (wq.heap[w.heap.size]? = some (.cells #[.bool false, .string ByteArray.empty, .int .i64 0, .slice none 0 0, .slice none 0 0] 69 (0, 0))) := by rw [hwq]; exact (off3 (by omega)).trans (unhide HQr)
        have hsz3 : w.heap.size + 1 + 1 ≤ wq.heap.size := by rw [hwq]; simp; omega
        have hys : y.size ≤ 9223372036854775807 := unhide HSZ y (by simp)
        have HWQ := hide hwq
        clear hwq
        have r2 : wr.cell? ⟨b, off + 2, none⟩ = some (.string y) := unhide HW2 wr (unhide HBw) y _ rfl
        go_wp2_with fail
        clear s0 s1 s2 s3 s4 u0 u1 u2 u3 u4 f0 f1 f2 f3 f4 y1 y2 y3 r2
        have q2 : wq.cell? ⟨b, off + 2, none⟩ = some (.string y) := unhide HW2 wq (unhide HB3) y _ rfl
        have hS3 := unhide HS3
        have hQ3 := unhide HQ3
        have s0 : wq.cell? ⟨w.heap.size + 1, 0, none⟩ = some (.bool false) := (cell_in' hS3 0).1
        have s1 : wq.cell? ⟨w.heap.size + 1, 1, none⟩ = some (.string x1) := (cell_in' hS3 1).1
        have s2 : wq.cell? ⟨w.heap.size + 1, 2, none⟩ = some (.int .i64 1) := (cell_in' hS3 2).1
        have s3 : wq.cell? ⟨w.heap.size + 1, 3, none⟩ = some (.slice none 0 0) := (cell_in' hS3 3).1
        have s4 : wq.cell? ⟨w.heap.size + 1, 4, none⟩ = some (.slice none 0 0) := (cell_in' hS3 4).1
        have u0 : wq.cell? ⟨w.heap.size, 0, none⟩ = some (.bool false) := (cell_in' hQ3 0).1
        have u1 : wq.cell? ⟨w.heap.size, 1, none⟩ = some (.string ByteArray.empty) := (cell_in' hQ3 1).1
        have u2 : wq.cell? ⟨w.heap.size, 2, none⟩ = some (.int .i64 0) := (cell_in' hQ3 2).1
        have u3 : wq.cell? ⟨w.heap.size, 3, none⟩ = some (.slice none 0 0) := (cell_in' hQ3 3).1
        have u4 : wq.cell? ⟨w.heap.size, 4, none⟩ = some (.slice none 0 0) := (cell_in' hQ3 4).1
        have f0 := (cell_in' hQ3 0).2
        have f1 := (cell_in' hQ3 1).2
        have f2 := (cell_in' hQ3 2).2
        have f3 := (cell_in' hQ3 3).2
        have f4 := (cell_in' hQ3 4).2
        clear hS3 hQ3

        go_loopw [11, 12] (fun iv _ w3 => w3 = wq ∧ ∃ i : Nat, i ≤ y.size ∧ iv = .int .i64 (i : Int) ∧ Hid (digFrom y 0 = digFrom y i)) (fun iv _ _ => y.size - (intOf iv).toNat)
        case atStart => exact ⟨(unhide HWQ).symm, 0, Nat.zero_le _, rfl, rfl⟩
        case round =>
          obtain ⟨rfl, i, hi, rfl, HD⟩ := hrel
          by_cases hiy : i < y.size
          · go_wp2_with fail
            refine (figure_any _ _).mono ?_
            rintro e w4 ⟨rfl, hw4⟩
            subst w4
            have hf : isFig y[i].toNat = true := by
              obtain rfl : i = 0 := by omega
              unfold isFig
              simp
              omega
            rw [hf]
            go_wp2_with fail
            exact ⟨⟨trivial, i + 1, by omega, by go_num, by show _ = _; rw [unhide HD, digFrom_yes hiy hf]⟩, by simp [intOf]; omega⟩
          · clear HD HWQ
            have fs2 := (cell_in' (unhide HS3) 2).2
            generalize hg0 : y[0].toNat = dd at *
            have hd1 : decide ((1 : Int) < (y.size : Int)) = false := by simp; omega
            have hd2 : decide ((dd : Int) < 49) = false := by simp; omega
            have hd3 : decide ((52 : Int) < (dd : Int)) = false := by simp; omega
            have hi : i = y.size := by omega
            subst hi
            have HB4 : Hid (Below w.heap.size w (wr.setCell ⟨w.heap.size + 1, 2, none⟩ (.int .i64 r))) := (unhide HB3).setCell (p := ⟨w.heap.size + 1, 2, none⟩) (Nat.le_succ _) _
            have HQ4 : Hid ((wr.setCell ⟨w.heap.size + 1, 2, none⟩ (.int .i64 r)).heap[w.heap.size]? = some (.cells #[.bool false, .string ByteArray.empty, .int .i64 0, .slice none 0 0, .slice none 0 0] 69 (0, 0))) := (Below.heap_setCell _ _ _ _ (by show w.heap.size ≠ w.heap.size + 1; omega)).trans (unhide HQ3)
            clear hy1
            have HS4 : Hid ((wr.setCell ⟨w.heap.size + 1, 2, none⟩ (.int .i64 r)).heap[w.heap.size + 1]? = some (.cells #[.bool false, .string x1, .int .i64 r, .slice none 0 0, .slice none 0 0] 69 (0, 0))) := by show _ = _; rw [heap_setCell_same _ _ _ _ _ _ (unhide HS3)]; rfl
            have q3 : wr.cell? ⟨b, off + 3, none⟩ = some (.string zc) := by
              have := unhide HWX wr (unhide HB3) 3 (by simp)
              simpa using this
            have HE2 : Hid (takeS all (x0 :: x1 :: y :: zc :: t3) = if namesFrom t3 0 = true then .ok ⟨false, x1, r, t3⟩ else .error 3) := by
              show _ = _
              rw [unhide HE1]
              simp only [likesP, hcz, if_true]
              cases namesFrom t3 0 <;> rfl
            go_wp2_with fail
            rw [← unhide HYR]
            clear HYR q2 q3 fs2 s0 s1 s2 s3 s4 u0 u1 u2 u3 u4 f0 f1 f2 f3 f4 HE1 HQ3 HS3
            have HWT : Hid (∀ wr : World, Below w.heap.size w wr → ∀ j, j < t3.length → wr.cell? ⟨b, off + (j + 4), none⟩ = some (.string (t3[j]?.getD ByteArray.empty))) := fun wr hr j hj => by
              have := unhide HWX wr hr (j + 4) (by simp; omega)
              simpa using this
            have HST : Hid (∀ x ∈ t3, x.size ≤ maxLen) := fun x hx => unhide HSZ x (by simp [hx])
            have hTl : t3.length + 4 ≤ 9223372036854775807 := by
              have := hc
              simp at this
              omega
            clear HWX HSZ
            go_loopw [13] (fun iv w3 => Hid (Below w.heap.size w w3) ∧ ∃ (j : Nat) (v : Value), j ≤ t3.length ∧ iv = .int .i64 ((j : Int) + 4) ∧ Hid (w3.heap[w.heap.size + 1]? = some (.cells #[.bool false, .string x1, .int .i64 r, .slice none 0 0, v] 69 (0, 0))) ∧ Hid (w3.heap[w.heap.size]? = some (.cells #[.bool false, .string ByteArray.empty, .int .i64 0, .slice none 0 0, .slice none 0 0] 69 (0, 0))) ∧ w.heap.size + 1 + 1 ≤ w3.heap.size ∧ Hid (w3.ownsRow (w.heap.size + 1 + 1) 9 1 v j ((t3.take j).map Value.string)) ∧ Hid (namesFrom t3 0 = namesFrom t3 j)) (fun iv _ => t3.length + 4 - (intOf iv).toNat)
            case atStart =>
              exact ⟨HB4, 0, .slice none 0 0, Nat.zero_le _, rfl, HS4, HQ4, by simp; omega, World.ownsRow_nil _ _ _ _, rfl⟩
            case round =>
              obtain ⟨HB3, j, v, hj, rfl, HS3, HQ3, hsz3, HO3, HN3⟩ := hrel
              have hvs : ∃ la lc, v = .slice la j lc := by
                obtain ⟨la, lc, e, _⟩ := in9_of_own (l := t3.take j) (unhide HO3) (by simp; omega) (fun s hs => unhide HST s (List.mem_of_mem_take hs))
                exact ⟨la, lc, e⟩
              obtain ⟨la, lc, rfl⟩ := hvs
              have hS3 := unhide HS3
              have hQ3 := unhide HQ3
              have s0 : wr.cell? ⟨w.heap.size + 1, 0, none⟩ = some (.bool false) := (cell_in' hS3 0).1
              have s1 : wr.cell? ⟨w.heap.size + 1, 1, none⟩ = some (.string x1) := (cell_in' hS3 1).1
              have s2 : wr.cell? ⟨w.heap.size + 1, 2, none⟩ = some (.int .i64 r) := (cell_in' hS3 2).1
              have s3 : wr.cell? ⟨w.heap.size + 1, 3, none⟩ = some (.slice none 0 0) := (cell_in' hS3 3).1
              have s4 : wr.cell? ⟨w.heap.size + 1, 4, none⟩ = some (.slice la j lc) := (cell_in' hS3 4).1
              have u0 : wr.cell? ⟨w.heap.size, 0, none⟩ = some (.bool false) := (cell_in' hQ3 0).1
              have u1 : wr.cell? ⟨w.heap.size, 1, none⟩ = some (.string ByteArray.empty) := (cell_in' hQ3 1).1
              have u2 : wr.cell? ⟨w.heap.size, 2, none⟩ = some (.int .i64 0) := (cell_in' hQ3 2).1
              have u3 : wr.cell? ⟨w.heap.size, 3, none⟩ = some (.slice none 0 0) := (cell_in' hQ3 3).1
              have u4 : wr.cell? ⟨w.heap.size, 4, none⟩ = some (.slice none 0 0) := (cell_in' hQ3 4).1
              have f0 := (cell_in' hQ3 0).2
              have f1 := (cell_in' hQ3 1).2
              have f2 := (cell_in' hQ3 2).2
              have f3 := (cell_in' hQ3 3).2
              have f4 := (cell_in' hQ3 4).2
              clear hS3 hQ3
              by_cases hjt : j < t3.length
              · have c3 := unhide HWT wr (unhide HB3) j hjt
                have HZS : Hid ((t3[j]?.getD ByteArray.empty).size ≤ maxLen) := unhide HST _ (by rw [List.getElem?_eq_getElem hjt]; exact List.getElem_mem hjt)
                have HNS := hide (namesFrom_step hjt)
                have HTK : Hid ((t3.take (j + 1)).map Value.string = (t3.take j).map Value.string ++ [.string (t3[j]?.getD ByteArray.empty)]) := by
                  show _ = _
                  rw [List.take_succ_eq_append_getElem hjt, List.map_append, List.getElem?_eq_getElem hjt]
                  rfl
                generalize t3[j]?.getD ByteArray.empty = z at *
                go_wp2_with fail
                refine (named_any z wr (unhide HZS)).mono ?_
                rintro e w4 ⟨rfl, hw4⟩
                subst w4
                cases hz : nameB z with
                | false =>
                  have HE3 : Hid (takeS all (x0 :: x1 :: y :: zc :: t3) = .error 3) := by
                    show _ = _
                    rw [unhide HE2, unhide HN3, unhide HNS, hz]
                    rfl
                  go_wp2_with fail
                  refine bodyPost_ret (results_row_tmp rfl _ _ _ w.heap.size _ rfl (run_loadVar_row _ w.heap.size 69 69 _ (0, 0) _ (over5 (unhide HQ3)) Tryd.underlying69 rfl (by show _ = some 5; kernel_rfl))) rfl ?_
                  exact ⟨below5 (unhide HB3), .inl ⟨3, unhide HE3, _, _, _, _, _, _, rfl⟩⟩
                | true =>
                  clear s0 s1 s2 s3 s4 u0 u1 u2 u3 u4 f0 f1 f2 f3 f4
                  have hbb : b < w.heap.size + 1 := by omega
                  go_wp2_with fail
                  refine wp_region_vals D44 S44 (J44 (w.heap.size + 1 + 1) (w.heap.size + 1) wr (.bool false) (.string x1) (.int .i64 r) (.slice none 0 0) (.slice la j lc) j ((t3.take j).map Value.string) z b off _ _ (j + 4)) (by kernel_rfl) (by kernel_rfl) (by kernel_rfl) (by kernel_rfl) (by kernel_rfl) (by kernel_rfl) (by kernel_rfl) ⟨Det.nil _, (Below.refl _ _).drew, unhide HS3, fun h => absurd h Bool.false_ne_true, fun _ => owns_later (unhide HO3) (Below.refl _ _).drew, fun h => absurd h Bool.false_ne_true⟩ (steps44 rfl rfl rfl (by simp; omega) (by omega) (by omega) (by omega) (by simp at hn9; omega) hbb c3 rfl rfl rfl rfl rfl rfl rfl rfl rfl rfl) ?_
                  rintro l vals w5 ⟨-, hb5, hS5, -, -, hO5⟩ hall
                  have z9 := hall 9 (by decide)
                  have HO5 := hide (hO5 (hall 7 (by decide)))
                  rw [z9] at hS5
                  have HS5 := hide hS5
                  have HB5 := hide hb5
                  clear hO5 hS5 hb5 hall z9 c3 hbb
                  simp only [finA, S44, Act.put, List.setIfInBounds_toArray, List.set_cons_succ, List.set_cons_zero]
                  generalize vals 7 = v7 at *
                  have hs5 := (unhide HB5).size
                  have HB6 := hide ((unhide HB3).trans ((unhide HB5).mono (Nat.le_succ _)))
                  have HQ5 : Hid (w5.heap[w.heap.size]? = some (.cells #[.bool false, .string ByteArray.empty, .int .i64 0, .slice none 0 0, .slice none 0 0] 69 (0, 0))) := ((unhide HB5).block w.heap.size (Nat.lt_succ_self _)).trans (unhide HQ3)
                  have HN5 : Hid (namesFrom t3 0 = namesFrom t3 (j + 1)) := by
                    show _ = _
                    rw [unhide HN3, unhide HNS, hz]
                    rfl
                  go_wp2_with fail
                  exact ⟨⟨HB6, j + 1, v7, by omega, by go_num, HS5, HQ5, by omega, by show World.ownsRow _ _ _ _ _ _ _; rw [unhide HTK]; exact unhide HO5, HN5⟩, by simp [intOf]; omega⟩
              · obtain rfl : j = t3.length := by omega
                have HE3 : Hid (takeS all (x0 :: x1 :: y :: zc :: t3) = .ok ⟨false, x1, r, t3⟩) := by
                  show _ = _
                  rw [unhide HE2, unhide HN3, namesFrom_end (by omega)]
                  rfl
                have HO4 : Hid (wr.ownsRow (w.heap.size + 1 + 1) 9 1 (.slice la t3.length lc) t3.length (t3.map Value.string)) := by
                  have := unhide HO3
                  rw [List.take_length] at this
                  exact this
                go_wp2_with fail
                refine bodyPost_ret (results_row_tmp rfl _ _ _ w.heap.size _ rfl (run_loadVar_row _ w.heap.size 69 69 _ (0, 0) _ (over5 (unhide HQ3)) Tryd.underlying69 rfl (by show _ = some 5; kernel_rfl))) rfl ?_
                obtain ⟨la', lc', e', hi9⟩ := in9_of_own (own5 (unhide HO4) (g := w.heap.size) (by omega)) rfl (unhide HST)
                cases e'
                exact ⟨below5 (unhide HB3), .inr ⟨⟨false, x1, r, t3⟩, la, _, lc, unhide HE3, rfl, hi9⟩⟩
end Go.Proofs.YtajdijjecojdhaaDoor
