import Derived.Test.YtajdijjecojdhaaDoorWNR
import Derived.BigQuiet
namespace Go.Proofs.YtajdijjecojdhaaDoor
open Go.RowKit
attribute [local go_sem] Oper.semAt_some
set_option maxRecDepth 100000 in
set_option maxHeartbeats 8000000 in
theorem rsD_1 (b off n c : Nat) (x0 x1 : ByteArray) (t : List ByteArray) (a : Option Addr) (m d : Nat) (all : List Ent) (w : World) (h : Strz w (some ⟨b, off, none⟩) (n + 2) (c + 2) (x0 :: x1 :: t)) (h0 : (x0.toList == [108, 101, 102, 116]) = false) (h0' : (x0.toList == [114, 105, 103, 104, 116]) = true) (h1 : nameB x1 = true) (hA : Sds w a m d all) (hm1 : m ≤ 1000) (hn9 : n ≤ 9000) (y : ByteArray) (t' : List ByteArray) (ht : t = y :: t') (hcol : (y.toList == [58]) = false) (hy0 : 0 < y.size) (ke : Int) (hrm : roomP (y :: t') = .error ke) :
    Calls Tryd.prog 33 #[.slice (some ⟨b, off, none⟩) (n + 2) (c + 2), .slice a m d] w fun e w' => Below w.heap.size w w' ∧ ((∃ k, takeS all (x0 :: x1 :: t) = .error k ∧ SvE e k) ∨ (∃ en la ln lc, takeS all (x0 :: x1 :: t) = .ok en ∧ e = .returned (.tuple #[.agg #[.bool en.left, .string en.name, .int .i64 en.room, .slice none 0 0, .slice la ln lc], .int .i64 0]) ∧ In9 w' la ln lc en.likes)) := by
  obtain rfl : m = all.length := hA.1
  obtain rfl : n = t.length := by have := h.1; simpa using this
  have HTT : Hid (takeS all (x0 :: x1 :: t) = if hasN all x1 then .error 6 else if 6 ≤ (sideE false all).length then .error 2 else match roomP t with
      | .error k => .error k
      | .ok (r, t2) => match likesP t2 with
        | .error k => .error k
        | .ok t3 => .ok ⟨false, x1, r, t3⟩) := by
    have e1 : isL x0 = false := h0
    have e2 : isR x0 = true := h0'
    show _ = _
    simp only [takeS, e1, e2, h1, Bool.or_true, if_true]
    rfl
  have hAd := hA.2.1
  have hAx := hA.2.2.1
  unfold maxLen at hAx
  obtain ⟨hn, hc, hm, hs, hh⟩ := h
  unfold maxLen at hm
  rcases hh with hz | ⟨b', off', e, hlt, hcell⟩
  · omega
  cases e
  have q0 : w.cell? ⟨b, off, none⟩ = some (.string x0) := hcell 0 (by omega)
  have q1 : w.cell? ⟨b, off + 1, none⟩ = some (.string x1) := hcell 1 (by omega)
  have hs1 : x1.size ≤ maxLen := hs x1 (by simp)
  have HW1 : Hid (∀ wr, Below w.heap.size w wr → wr.cell? ⟨b, off + 1, none⟩ = some (.string x1)) := fun wr hr => (hr.cell (p := ⟨b, off + 1, none⟩) hlt).trans q1
  have HW2 : Hid (∀ wr : World, Below w.heap.size w wr → ∀ y t', t = y :: t' → wr.cell? ⟨b, off + 2, none⟩ = some (.string y)) := fun wr hr y t' e => (hr.cell (p := ⟨b, off + 2, none⟩) hlt).trans (by have := hcell 2 (by rw [e]; simp); rw [e] at this; simpa using this)
  have HWX : Hid (∀ wr : World, Below w.heap.size w wr → ∀ j, j < t.length + 2 → wr.cell? ⟨b, off + j, none⟩ = some (.string ((x0 :: x1 :: t)[j]?.getD ByteArray.empty))) := fun wr hr j hj => (hr.cell (p := ⟨b, off + j, none⟩) hlt).trans (hcell j hj)
  have HSZ := hide hs
  obtain ⟨W, hW, hbW, hsW, hQ, hS⟩ := box5 (w := w) false
  have hz : ((w.alloc (.cells #[.bool false, .string { data := #[] }, .int .i64 0, .slice none 0 0, .slice none 0 0] 69)).alloc (.cells #[.bool false, .string { data := #[] }, .int .i64 0, .slice none 0 0, .slice none 0 0] 69)) = W := hW
  have HZ := hide hz
  have HB := hide hbW
  have HQ := hide hQ
  have s0 : W.cell? ⟨w.heap.size + 1, 0, none⟩ = some (.bool false) := (cell_in' hS 0).1
  have s1 : W.cell? ⟨w.heap.size + 1, 1, none⟩ = some (.string ByteArray.empty) := (cell_in' hS 1).1
  have s2 : W.cell? ⟨w.heap.size + 1, 2, none⟩ = some (.int .i64 0) := (cell_in' hS 2).1
  have s3 : W.cell? ⟨w.heap.size + 1, 3, none⟩ = some (.slice none 0 0) := (cell_in' hS 3).1
  have s4 : W.cell? ⟨w.heap.size + 1, 4, none⟩ = some (.slice none 0 0) := (cell_in' hS 4).1
  have u0 : W.cell? ⟨w.heap.size, 0, none⟩ = some (.bool false) := (cell_in' hQ 0).1
  have u1 : W.cell? ⟨w.heap.size, 1, none⟩ = some (.string ByteArray.empty) := (cell_in' hQ 1).1
  have u2 : W.cell? ⟨w.heap.size, 2, none⟩ = some (.int .i64 0) := (cell_in' hQ 2).1
  have u3 : W.cell? ⟨w.heap.size, 3, none⟩ = some (.slice none 0 0) := (cell_in' hQ 3).1
  have u4 : W.cell? ⟨w.heap.size, 4, none⟩ = some (.slice none 0 0) := (cell_in' hQ 4).1
  have f0 := (cell_in' hQ 0).2
  have f1 := (cell_in' hQ 1).2
  have f2 := (cell_in' hQ 2).2
  have f3 := (cell_in' hQ 3).2
  have f4 := (cell_in' hQ 4).2
  have HA := hide hA
  have HSB := hide hS
  clear hcell hn hs hz hW hbW hQ hS hA
  go_enter Tryd.func33, Tryd.ntmps33
  go_wp2_with fail
  rw [unhide HZ]
  refine (named_any x1 W hs1).mono ?_
  rintro e w3 ⟨rfl, hw3⟩
  subst w3
  rw [h1]
  clear s0 s1 s2 s3 s4 u0 u1 u2 u3 u4 f0 f1 f2 f3 f4
  go_wp2_with fail
  go_loopw [8, 9] (fun kv iv wr => Hid (Below W.heap.size W wr) ∧ ∃ (i k : Nat), i ≤ all.length ∧ iv = .int .i64 (i : Int) ∧ kv = .int .i64 (k : Int) ∧ k ≤ i ∧ Hid ((sideE false (all.take i)).length = k ∧ hasN (all.take i) x1 = false)) (fun _ iv _ => all.length - (intOf iv).toNat)
  case atStart => exact ⟨Below.refl _ _, 0, 0, Nat.zero_le _, rfl, rfl, Nat.zero_le _, rfl, rfl⟩
  case round =>
    obtain ⟨HBr, i, k, hi, rfl, rfl, hki, HK⟩ := hrel
    have HBw := hide ((unhide HB).trans ((unhide HBr).mono (unhide HB).size))
    have g1 := unhide HW1 wr (unhide HBw)
    by_cases hlt2 : i < all.length
    · have hil : i < all.length := by omega
      obtain ⟨ab, ao, ea, e0, e1⟩ : ∃ ab ao, a = some ⟨ab, ao, none⟩ ∧ wr.cell? ⟨ab, ao + i * 5, none⟩ = some (.bool all[i].left) ∧ wr.cell? ⟨ab, ao + i * 5 + 1, none⟩ = some (.string all[i].name) := by
        obtain ⟨-, -, -, h4⟩ := (unhide HA).later (unhide HBw)
        rcases h4 with h4 | ⟨ab, ao, e, -, hc⟩
        · omega
        · exact ⟨ab, ao, e, (hc i hil).1, (hc i hil).2⟩
      subst ea
      have hi1 : (i : Int) < (all.length : Int) := by omega
      have HTK : Hid (all.take (i + 1) = all.take i ++ [all[i]]) := by show _ = _; rw [List.take_succ_eq_append_getElem hil]
      generalize hen : all[i] = en at *
      obtain ⟨el, enm, er, ek⟩ := en
      simp only at e0 e1
      go_wp2_with fail
      go_quiet (fail)
      have hbz := below_drewN wr.heap.size wr nq
      have HBy := hide ((unhide HBr).trans (hbz.mono (unhide HBr).size))
      have HByw := hide ((unhide HB).trans ((unhide HBy).mono (unhide HB).size))
      have k0 := (hbz.cell (p := ⟨ab, ao + i * 5, none⟩) (World.block_lt_of_cell? wr _ e0)).trans e0
      clear e0 e1 g1 hbz
      generalize wr.drewN nq = wy at *
      have hSy : wy.heap[w.heap.size + 1]? = some (.cells #[.bool false, .string ByteArray.empty, .int .i64 0, .slice none 0 0, .slice none 0 0] 69 (0, 0)) := ((unhide HBy).block (w.heap.size + 1) (by omega)).trans (unhide HSB)
      have hQy : wy.heap[w.heap.size]? = some (.cells #[.bool false, .string ByteArray.empty, .int .i64 0, .slice none 0 0, .slice none 0 0] 69 (0, 0)) := ((unhide HBy).block w.heap.size (by omega)).trans (unhide HQ)
      have s0 : wy.cell? ⟨w.heap.size + 1, 0, none⟩ = some (.bool false) := (cell_in' hSy 0).1
      have s1 : wy.cell? ⟨w.heap.size + 1, 1, none⟩ = some (.string ByteArray.empty) := (cell_in' hSy 1).1
      have s2 : wy.cell? ⟨w.heap.size + 1, 2, none⟩ = some (.int .i64 0) := (cell_in' hSy 2).1
      have s3 : wy.cell? ⟨w.heap.size + 1, 3, none⟩ = some (.slice none 0 0) := (cell_in' hSy 3).1
      have s4 : wy.cell? ⟨w.heap.size + 1, 4, none⟩ = some (.slice none 0 0) := (cell_in' hSy 4).1
      have u0 : wy.cell? ⟨w.heap.size, 0, none⟩ = some (.bool false) := (cell_in' hQy 0).1
      have u1 : wy.cell? ⟨w.heap.size, 1, none⟩ = some (.string ByteArray.empty) := (cell_in' hQy 1).1
      have u2 : wy.cell? ⟨w.heap.size, 2, none⟩ = some (.int .i64 0) := (cell_in' hQy 2).1
      have u3 : wy.cell? ⟨w.heap.size, 3, none⟩ = some (.slice none 0 0) := (cell_in' hQy 3).1
      have u4 : wy.cell? ⟨w.heap.size, 4, none⟩ = some (.slice none 0 0) := (cell_in' hQy 4).1
      have f0 := (cell_in' hQy 0).2
      have f1 := (cell_in' hQy 1).2
      have f2 := (cell_in' hQy 2).2
      have f3 := (cell_in' hQy 3).2
      have f4 := (cell_in' hQy 4).2
      have HQy := hide hQy
      clear hSy hQy
      cases heq : (enm.toList == x1.toList) with
      | true =>
        have HF : Hid (hasN all x1 = true) := by
          show _ = true
          unfold hasN
          rw [List.any_eq_true]
          exact ⟨all[i], List.getElem_mem hil, by rw [hen]; exact heq⟩
        go_wp2_with fail
        refine bodyPost_ret (results_row_tmp rfl _ _ _ w.heap.size _ rfl (run_loadVar_row _ w.heap.size 69 69 _ (0, 0) _ (over5 (unhide HQy)) Tryd.underlying69 rfl (by show _ = some 5; kernel_rfl))) rfl ?_
        exact ⟨(((((unhide HByw).setCell (p := ⟨w.heap.size, 0, none⟩) (Nat.le_refl _) _).setCell (p := ⟨w.heap.size, 1, none⟩) (Nat.le_refl _) _).setCell (p := ⟨w.heap.size, 2, none⟩) (Nat.le_refl _) _).setCell (p := ⟨w.heap.size, 3, none⟩) (Nat.le_refl _) _).setCell (p := ⟨w.heap.size, 4, none⟩) (Nat.le_refl _) _, .inl ⟨6, by rw [unhide HTT, if_pos (unhide HF)], _, _, _, _, _, _, rfl⟩⟩
      | false =>
        have HNF : Hid (hasN (all.take (i + 1)) x1 = false) := by
          show _ = false
          rw [unhide HTK]
          unfold hasN
          rw [List.any_append]
          have := (unhide HK).2
          unfold hasN at this
          rw [this]
          simp [heq]
        clear s1 s2 s3 s4 u0 u1 u2 u3 u4 f0 f1 f2 f3 f4
        go_wp2_with fail
        go_quiet (fail)
        have hbz := below_drewN wy.heap.size wy nq
        have HBz := hide ((unhide HBy).trans (hbz.mono (unhide HBy).size))
        clear hbz k0 s0
        generalize wy.drewN nq = wz at *
        cases el with
        | false =>
          have HKN : Hid ((sideE false (all.take (i + 1))).length = k + 1) := by
            show _ = _
            rw [unhide HTK, sideE_same false _ _ rfl, List.length_append, (unhide HK).1]
            rfl
          go_wp2_with fail
          exact ⟨⟨HBz, i + 1, k + 1, by omega, by go_num, by go_num, by omega, unhide HKN, unhide HNF⟩, by simp [intOf]; omega⟩
        | true =>
          have HKN : Hid ((sideE false (all.take (i + 1))).length = k) := by
            show _ = _
            rw [unhide HTK, sideE_other false _ _ (by simp)]
            exact (unhide HK).1
          go_wp2_with fail
          exact ⟨⟨HBz, i + 1, k, by omega, by go_num, rfl, by omega, unhide HKN, unhide HNF⟩, by simp [intOf]; omega⟩
    · obtain rfl : i = all.length := by omega
      obtain ⟨hk1, hk2⟩ := unhide HK
      rw [List.take_length] at hk1 hk2
      have HH := hide hk2
      have hSr : wr.heap[w.heap.size + 1]? = some (.cells #[.bool false, .string ByteArray.empty, .int .i64 0, .slice none 0 0, .slice none 0 0] 69 (0, 0)) := ((unhide HBr).block (w.heap.size + 1) (by omega)).trans (unhide HSB)
      have hQr : wr.heap[w.heap.size]? = some (.cells #[.bool false, .string ByteArray.empty, .int .i64 0, .slice none 0 0, .slice none 0 0] 69 (0, 0)) := ((unhide HBr).block w.heap.size (by omega)).trans (unhide HQ)
      have s0 : wr.cell? ⟨w.heap.size + 1, 0, none⟩ = some (.bool false) := (cell_in' hSr 0).1
      have s1 : wr.cell? ⟨w.heap.size + 1, 1, none⟩ = some (.string ByteArray.empty) := (cell_in' hSr 1).1
      have s2 : wr.cell? ⟨w.heap.size + 1, 2, none⟩ = some (.int .i64 0) := (cell_in' hSr 2).1
      have s3 : wr.cell? ⟨w.heap.size + 1, 3, none⟩ = some (.slice none 0 0) := (cell_in' hSr 3).1
      have s4 : wr.cell? ⟨w.heap.size + 1, 4, none⟩ = some (.slice none 0 0) := (cell_in' hSr 4).1
      have u0 : wr.cell? ⟨w.heap.size, 0, none⟩ = some (.bool false) := (cell_in' hQr 0).1
      have u1 : wr.cell? ⟨w.heap.size, 1, none⟩ = some (.string ByteArray.empty) := (cell_in' hQr 1).1
      have u2 : wr.cell? ⟨w.heap.size, 2, none⟩ = some (.int .i64 0) := (cell_in' hQr 2).1
      have u3 : wr.cell? ⟨w.heap.size, 3, none⟩ = some (.slice none 0 0) := (cell_in' hQr 3).1
      have u4 : wr.cell? ⟨w.heap.size, 4, none⟩ = some (.slice none 0 0) := (cell_in' hQr 4).1
      have f0 := (cell_in' hQr 0).2
      have f1 := (cell_in' hQr 1).2
      have f2 := (cell_in' hQr 2).2
      have f3 := (cell_in' hQr 3).2
      have f4 := (cell_in' hQr 4).2
      have y1 := (cell_in' hSr 1).2
      have y2 := (cell_in' hSr 2).2
      have y3 := (cell_in' hSr 3).2
      have HQr := hide hQr
      have HSr := hide hSr
      have hsr := (unhide HBr).size
      clear hQr hSr HK hk2
      by_cases h6 : 6 ≤ k
      · have hd : decide ((6 : Int) ≤ (k : Int)) = true := by simp; omega
        have HE : Hid (takeS all (x0 :: x1 :: t) = .error 2) := by show _ = _; rw [unhide HTT, if_neg (by rw [unhide HH]; simp), if_pos (by omega)]
        go_wp2_with fail
        refine bodyPost_ret (results_row_tmp rfl _ _ _ w.heap.size _ rfl (run_loadVar_row _ w.heap.size 69 69 _ (0, 0) _ (over5 (unhide HQr)) Tryd.underlying69 rfl (by show _ = some 5; kernel_rfl))) rfl ?_
        exact ⟨(((((unhide HBw).setCell (p := ⟨w.heap.size, 0, none⟩) (Nat.le_refl _) _).setCell (p := ⟨w.heap.size, 1, none⟩) (Nat.le_refl _) _).setCell (p := ⟨w.heap.size, 2, none⟩) (Nat.le_refl _) _).setCell (p := ⟨w.heap.size, 3, none⟩) (Nat.le_refl _) _).setCell (p := ⟨w.heap.size, 4, none⟩) (Nat.le_refl _) _, .inl ⟨2, unhide HE, _, _, _, _, _, _, rfl⟩⟩
      · have hd : decide ((6 : Int) ≤ (k : Int)) = false := by simp; omega
        have HE : Hid (takeS all (x0 :: x1 :: t) = match roomP t with
            | .error k => .error k
            | .ok (r, t2) => match likesP t2 with
              | .error k => .error k
              | .ok t3 => .ok ⟨false, x1, r, t3⟩) := by show _ = _; rw [unhide HTT, if_neg (by rw [unhide HH]; simp), if_neg (by omega)]
        subst ht
        have HK := hide (room_err hcol hy0 hrm)
        have HE2 : Hid (takeS all (x0 :: x1 :: y :: t') = .error ke) := by
          show _ = _
          rw [unhide HE, hrm]
        clear hrm
        obtain ⟨wq, hwq⟩ : ∃ wq, wq = (((wr.setCell ⟨w.heap.size + 1, 1, none⟩ (.string x1)).setCell ⟨w.heap.size + 1, 2, none⟩ (.int .i64 1)).setCell ⟨w.heap.size + 1, 3, none⟩ (.slice none 0 0)) := ⟨_, rfl⟩
        have HB3 : Hid (Below w.heap.size w wq) := by rw [hwq]; exact below3 (unhide HBw) (Nat.le_succ _)
        have HS3 : Hid (wq.heap[w.heap.size + 1]? = some (.cells #[.bool false, .string x1, .int .i64 1, .slice none 0 0, .slice none 0 0] 69 (0, 0))) := by rw [hwq]; exact set3 (unhide HSr)
        have HQ3 : Hid (wq.heap[w.heap.size]? = some (.cells #[.bool false, .string ByteArray.empty, .int .i64 0, .slice none 0 0, .slice none 0 0] 69 (0, 0))) := by rw [hwq]; exact (off3 (by omega)).trans (unhide HQr)
        have hsz3 : w.heap.size + 1 + 1 ≤ wq.heap.size := by rw [hwq]; simp; omega
        have hys : y.size ≤ 9223372036854775807 := unhide HSZ y (by simp)
        have HWQ := hide hwq
        clear hwq
        have r2 : wr.cell? ⟨b, off + 2, none⟩ = some (.string y) := unhide HW2 wr (unhide HBw) y t' rfl
        go_wp2_with fail
        clear s0 s1 s2 s3 s4 u0 u1 u2 u3 u4 f0 f1 f2 f3 f4 y1 y2 y3 r2
        have q2 : wq.cell? ⟨b, off + 2, none⟩ = some (.string y) := unhide HW2 wq (unhide HB3) y t' rfl
        have hS3 := unhide HS3
        have hQ3 := unhide HQ3
        have s0 : wq.cell? ⟨w.heap.size + 1, 0, none⟩ = some (.bool false) := (cell_in' hS3 0).1
        have s1 : wq.cell? ⟨w.heap.size + 1, 1, none⟩ = some (.string x1) := (cell_in' hS3 1).1
        have s2 : wq.cell? ⟨w.heap.size + 1, 2, none⟩ = some (.int .i64 1) := (cell_in' hS3 2).1
        have s3 : wq.cell? ⟨w.heap.size + 1, 3, none⟩ = some (.slice none 0 0) := (cell_in' hS3 3).1
        have s4 : wq.cell? ⟨w.heap.size + 1, 4, none⟩ = some (.slice none 0 0) := (cell_in' hS3 4).1
        have u0 : wq.cell? ⟨w.heap.size, 0, none⟩ = some (.bool false) := (cell_in' hQ3 0).1
        have u1 : wq.cell? ⟨w.heap.size, 1, none⟩ = some (.string ByteArray.empty) := (cell_in' hQ3 1).1
        have u2 : wq.cell? ⟨w.heap.size, 2, none⟩ = some (.int .i64 0) := (cell_in' hQ3 2).1
        have u3 : wq.cell? ⟨w.heap.size, 3, none⟩ = some (.slice none 0 0) := (cell_in' hQ3 3).1
        have u4 : wq.cell? ⟨w.heap.size, 4, none⟩ = some (.slice none 0 0) := (cell_in' hQ3 4).1
        have f0 := (cell_in' hQ3 0).2
        have f1 := (cell_in' hQ3 1).2
        have f2 := (cell_in' hQ3 2).2
        have f3 := (cell_in' hQ3 3).2
        have f4 := (cell_in' hQ3 4).2
        clear hS3 hQ3

        go_loopw [11, 12] (fun iv _ w3 => w3 = wq ∧ ∃ i : Nat, i ≤ y.size ∧ iv = .int .i64 (i : Int) ∧ Hid (digFrom y 0 = digFrom y i)) (fun iv _ _ => y.size - (intOf iv).toNat)
        case atStart => exact ⟨(unhide HWQ).symm, 0, Nat.zero_le _, rfl, rfl⟩
        case round =>
          obtain ⟨rfl, i, hi, rfl, HD⟩ := hrel
          by_cases hiy : i < y.size
          · go_wp2_with fail
            refine (figure_any _ _).mono ?_
            rintro e w4 ⟨rfl, hw4⟩
            subst w4
            cases hf : isFig y[i].toNat with
            | true =>
              go_wp2_with fail
              exact ⟨⟨trivial, i + 1, by omega, by go_num, by show _ = _; rw [unhide HD, digFrom_yes hiy hf]⟩, by simp [intOf]; omega⟩
            | false =>
              have HE3 : Hid (takeS all (x0 :: x1 :: y :: t') = .error 3) := by
                show _ = _
                rw [unhide HE2, (unhide HK).1 (by rw [unhide HD, digFrom_no hiy hf])]
              go_wp2_with fail
              refine bodyPost_ret (results_row_tmp rfl _ _ _ w.heap.size _ rfl (run_loadVar_row _ w.heap.size 69 69 _ (0, 0) _ (over5 (unhide HQ3)) Tryd.underlying69 rfl (by show _ = some 5; kernel_rfl))) rfl ?_
              exact ⟨below5 (unhide HB3), .inl ⟨3, unhide HE3, _, _, _, _, _, _, rfl⟩⟩
          · obtain ⟨k1, k2, k3⟩ := (unhide HK).2 (by rw [unhide HD, digFrom_end hiy])
            by_cases h1 : 1 < y.size
            · have hd1 : decide ((1 : Int) < (y.size : Int)) = true := by simp; omega
              by_cases h48 : y[0].toNat = 48
              · have HE3 : Hid (takeS all (x0 :: x1 :: y :: t') = .error 3) := by
                  show _ = _
                  rw [unhide HE2, k1 h1 h48]
                clear k1 k2 k3
                go_wp2_with fail
                refine bodyPost_ret (results_row_tmp rfl _ _ _ w.heap.size _ rfl (run_loadVar_row _ w.heap.size 69 69 _ (0, 0) _ (over5 (unhide HQ3)) Tryd.underlying69 rfl (by show _ = some 5; kernel_rfl))) rfl ?_
                exact ⟨below5 (unhide HB3), .inl ⟨3, unhide HE3, _, _, _, _, _, _, rfl⟩⟩
              · have HE3 : Hid (takeS all (x0 :: x1 :: y :: t') = .error 9) := by
                  show _ = _
                  rw [unhide HE2, k2 h1 h48]
                clear k1 k2 k3
                go_wp2_with fail
                refine bodyPost_ret (results_row_tmp rfl _ _ _ w.heap.size _ rfl (run_loadVar_row _ w.heap.size 69 69 _ (0, 0) _ (over5 (unhide HQ3)) Tryd.underlying69 rfl (by show _ = some 5; kernel_rfl))) rfl ?_
                exact ⟨below5 (unhide HB3), .inl ⟨9, unhide HE3, _, _, _, _, _, _, rfl⟩⟩
            · have hy1 : y.size = 1 := by omega
              have hd1 : decide ((1 : Int) < (y.size : Int)) = false := by simp; omega
              obtain ⟨k4, k5⟩ := k3 hy1
              have HE3 : Hid (takeS all (x0 :: x1 :: y :: t') = .error 9) := by
                show _ = _
                rw [unhide HE2, k5]
              clear k1 k2 k3 k5
              generalize hg0 : y[0].toNat = dd at *
              by_cases h49 : dd < 49
              · have hd2 : decide ((dd : Int) < 49) = true := by simp; omega
                clear k4
                go_wp2_with fail
                refine bodyPost_ret (results_row_tmp rfl _ _ _ w.heap.size _ rfl (run_loadVar_row _ w.heap.size 69 69 _ (0, 0) _ (over5 (unhide HQ3)) Tryd.underlying69 rfl (by show _ = some 5; kernel_rfl))) rfl ?_
                exact ⟨below5 (unhide HB3), .inl ⟨9, unhide HE3, _, _, _, _, _, _, rfl⟩⟩
              · have hd2 : decide ((dd : Int) < 49) = false := by simp; omega
                have hd3 : decide ((52 : Int) < (dd : Int)) = true := by simp; omega
                clear k4
                go_wp2_with fail
                refine bodyPost_ret (results_row_tmp rfl _ _ _ w.heap.size _ rfl (run_loadVar_row _ w.heap.size 69 69 _ (0, 0) _ (over5 (unhide HQ3)) Tryd.underlying69 rfl (by show _ = some 5; kernel_rfl))) rfl ?_
                exact ⟨below5 (unhide HB3), .inl ⟨9, unhide HE3, _, _, _, _, _, _, rfl⟩⟩
end Go.Proofs.YtajdijjecojdhaaDoor
