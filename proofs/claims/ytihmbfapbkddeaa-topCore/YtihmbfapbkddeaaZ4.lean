import Derived.Test.YtihmbfapbkddeaaZ3
namespace Go.Proofs.Ytihmbfapbkddeaa
open Go.RowKit
theorem place_below (a : Option Addr) (n c : Nat) (l : List Int) (x : Int) (w : World) (h : Ints w a n c l) :
    Calls Try.prog 23 #[.slice a n c, .int .i64 x] w fun e w' => e = .returned (.int .i64 (idxFrom l x 0)) ∧ Below w.heap.size w w' :=
  (place_any a n c l x w h).mono fun _ _ ⟨he, hw⟩ => ⟨he, by rw [hw]; exact Below.refl _ _⟩
def betV (b m : Bool) : Value := .tuple #[.bool b, .bool (b && m)]
theorem drop_cons {α : Type} (l : List α) (j : Nat) (d : α) (h : j < l.length) : l.drop j = (l[j]?.getD d) :: l.drop (j + 1) := by
  rw [List.drop_eq_getElem_cons h, List.getElem?_eq_getElem h]; rfl
set_option maxRecDepth 100000 in
set_option maxHeartbeats 8000000 in
theorem refBetter_any (n : Nat) (wa : Option Addr) (wc : Nat) (WL : List Sl) (ga : Option Addr) (gc : Nat) (gt : List Int) (ha : Option Addr) (hn hc : Nat) (ws : List Nat) (pa : Option Addr) (pc : Nat) (pl : List Int) (w : World)
    (hW : Lsts w wa n wc WL) (hG : Ints w ga n gc gt) (hH : Ints w ha hn hc (ws.map Int.ofNat)) (hP : Ints w pa hn pc pl) (hr : ∀ x ∈ ws, x < n) (hn6 : n ≤ 6) (hh6 : hn ≤ 6) :
    Calls Try.prog 33 #[.slice wa n wc, .slice ga n gc, .slice ha hn hc, .slice pa hn pc] w fun e w' => e = .returned (betV (fineL (lisA WL) gt ws pl) (moreL (lisA WL) gt ws pl)) ∧ Below w.heap.size w w' := by
  have k1 := hW.2.1
  have k2 := hW.2.2.1
  have k3 := hG.2.1
  have k4 := hG.2.2.1
  have k5 := hH.2.1
  have k6 := hH.2.2.1
  have k7 := hP.2.1
  have k8 := hP.2.2.1
  unfold maxLen at k2 k4 k6 k8
  have HL1 : Hid (ws.length = hn) := by have := hH.1; show _ = _; simp at this; omega
  have HL2 : Hid (pl.length = hn) := by have := hP.1; show _ = _; omega
  have HW := hide hW
  have HG := hide hG
  have HH := hide hH
  have HP := hide hP
  have HR := hide hr
  clear hW hG hH hP hr
  go_enter Try.func33, Try.ntmps33
  go_wp2_with fail
  go_loopw [11, 10, 12, 13] (fun q mv _ _ wy => Below w.heap.size w wy ∧ ∃ (j : Nat) (m : Bool), j ≤ hn ∧ q = .int .i64 j ∧ mv = .bool m ∧ fineL (lisA WL) gt ws pl = fineL (lisA WL) gt (ws.drop j) (pl.drop j) ∧ moreL (lisA WL) gt ws pl = (m || moreL (lisA WL) gt (ws.drop j) (pl.drop j))) (fun q _ _ _ _ => hn - (intOf q).toNat)
  case atStart => exact ⟨Below.refl _ _, 0, false, Nat.zero_le _, rfl, rfl, rfl, rfl⟩
  case round =>
    rename World => wr
    obtain ⟨hbr, j, m, hj, rfl, rfl, hf, hm⟩ := hrel
    have HF := hide hf
    have HM := hide hm
    clear hf hm
    by_cases hlt : j < hn
    · obtain ⟨bH, oH, hHa, hbH, hcH⟩ := ((unhide HH).later hbr).cellAt (by omega)
      obtain ⟨bP, oP, hPa, hbP, hcP⟩ := ((unhide HP).later hbr).cellAt (by omega)
      subst hHa hPa
      have c1 := hcH j hlt
      have c2 := hcP j hlt
      have hjl : j < ws.length := by have := unhide HL1; omega
      have hjp : j < pl.length := by have := unhide HL2; omega
      rw [show (ws.map Int.ofNat)[j]?.getD 0 = ((ws[j]?.getD 0 : Nat) : Int) by rw [List.getElem?_map, List.getElem?_eq_getElem hjl]; rfl] at c1
      have hxn := unhide HR (ws[j]?.getD 0) (by rw [List.getElem?_eq_getElem hjl]; exact List.getElem_mem hjl)
      have HD1 := hide (drop_cons ws j 0 hjl)
      have HD2 := hide (drop_cons pl j 0 hjp)
      clear hcH hcP hjl hjp
      generalize ws[j]?.getD 0 = x at *
      generalize pl[j]?.getD 0 = c at *
      obtain ⟨bW, oW, hWa, hbW, hcW⟩ := ((unhide HW).later hbr).cellAt (by omega)
      obtain ⟨bG, oG, hGa, hbG, hcG⟩ := ((unhide HG).later hbr).cellAt (by omega)
      subst hWa hGa
      have c3 := hcW x hxn
      have c4 := hcG x hxn
      have hIx := ((unhide HW).later hbr).mem hxn
      have CA := hide (fun d os => Calls.regrown_of (place_below (slAt WL x).la (slAt WL x).ln (slAt WL x).lc (slAt WL x).ints c (Sort.grow (redrawn wr d) os) (hIx.later (below_regrown wr d os))))
      have HCB : Hid (∀ W, Below wr.heap.size wr W → ∀ d os, _) := fun W hb d os => Calls.regrown_of (place_below (slAt WL x).la (slAt WL x).ln (slAt WL x).lc (slAt WL x).ints (gt[x]?.getD 0) (Sort.grow (redrawn W d) os) ((hIx.later hb).later (below_regrown W d os)))
      have HPA : Hid (idxFrom (slAt WL x).ints c 0 = place (lisA WL) x c) := rfl
      have HPB : Hid (idxFrom (slAt WL x).ints (gt[x]?.getD 0) 0 = place (lisA WL) x (gt[x]?.getD 0)) := rfl
      have q1 := cell_regrown c1
      have q2 := cell_regrown c2
      have q3 := cell_regrown c3
      have HF1 : Hid (fineL (lisA WL) gt ws pl = (decide (place (lisA WL) x c ≤ place (lisA WL) x (gt[x]?.getD 0)) && fineL (lisA WL) gt (ws.drop (j + 1)) (pl.drop (j + 1)))) := by
        show _ = _
        rw [unhide HF, unhide HD1, unhide HD2]; rfl
      have HM1 : Hid (moreL (lisA WL) gt ws pl = (m || (decide (place (lisA WL) x c < place (lisA WL) x (gt[x]?.getD 0)) || moreL (lisA WL) gt (ws.drop (j + 1)) (pl.drop (j + 1))))) := by
        show _ = _
        rw [unhide HM, unhide HD1, unhide HD2]; rfl
      rw [unhide HPA] at CA
      rw [unhide HPB] at HCB
      clear hcW hcG hIx HPA HPB HD1 HD2
      generalize place (lisA WL) x c = A at *
      generalize place (lisA WL) x (gt[x]?.getD 0) = B at *
      generalize gt[x]?.getD 0 = gx at *
      generalize slAt WL x = sk at *
      obtain ⟨sa, sn, sc, sl⟩ := sk
      simp only at c3 q3 CA HCB
      go_wp2_with fail
      refine wp_region_quiet_below (by kernel_rfl) (by kernel_rfl) ?_
      iterate 13 (quiet_step (with_reducible exact unhide CA _ _))
      refine wpQuiet_nil ?_
      intro w1 hw'
      obtain ⟨⟨dq, osq⟩, hw''⟩ := hw'
      have hb1 : Below wr.heap.size wr w1 := by rw [hw'']; exact below_regrown _ _ _
      clear hw'' q1 q2 q3 CA
      have e1 := (hb1.cell (p := ⟨bH, oH + j, none⟩) hbH).trans c1
      have e3 := (hb1.cell (p := ⟨bW, oW + x, none⟩) hbW).trans c3
      have e4 := (hb1.cell (p := ⟨bG, oG + x, none⟩) hbG).trans c4
      have q1 := cell_regrown e1
      have q3 := cell_regrown e3
      have q4 := cell_regrown e4
      have CB := hide (unhide HCB w1 hb1)
      clear e1 e3 e4 HCB
      go_wp2_with fail
      refine wp_region_quiet_below (by kernel_rfl) (by kernel_rfl) ?_
      iterate 16 (quiet_step (with_reducible exact unhide CB _ _))
      refine wpQuiet_nil ?_
      intro w2 hw'
      obtain ⟨⟨dq2, osq2⟩, hw''⟩ := hw'
      have hb2 : Below w1.heap.size w1 w2 := by rw [hw'']; exact below_regrown _ _ _
      have hbw2 : Below w.heap.size w w2 := (hbr.trans (hb1.mono hbr.size)).trans (hb2.mono (hbr.trans (hb1.mono hbr.size)).size)
      clear hw'' q1 q3 q4 CB
      by_cases hAB : B < A
      · have HE : Hid (fineL (lisA WL) gt ws pl = false) := by
          show _ = _
          rw [unhide HF1, decide_eq_false (by omega)]; rfl
        go_wp2
        go_ret2
        refine ⟨?_, hbw2⟩
        rw [unhide HE]
        rfl
      · have HE : Hid (fineL (lisA WL) gt ws pl = fineL (lisA WL) gt (ws.drop (j + 1)) (pl.drop (j + 1))) := by
          show _ = _
          rw [unhide HF1, decide_eq_true (by omega)]; rfl
        cases m with
        | true =>
          go_wp2_with fail
          go_roundw
          case rel => exact ⟨hbw2, j + 1, true, by omega, by go_num, rfl, unhide HE, by rw [unhide HM1]; rfl⟩
          case measure => simp [intOf]; omega
        | false =>
          by_cases hlt2 : A < B
          · go_wp2_with fail
            go_roundw
            case rel => exact ⟨hbw2, j + 1, true, by omega, by go_num, by simp, unhide HE, by rw [unhide HM1, decide_eq_true hlt2]; rfl⟩
            case measure => simp [intOf]; omega
          · go_wp2_with fail
            go_roundw
            case rel => exact ⟨hbw2, j + 1, false, by omega, by go_num, by simp, unhide HE, by rw [unhide HM1, decide_eq_false hlt2]; rfl⟩
            case measure => simp [intOf]; omega
    · obtain rfl : j = hn := by omega
      have HE : Hid (fineL (lisA WL) gt ws pl = true ∧ moreL (lisA WL) gt ws pl = m) := by
        show _ ∧ _
        rw [unhide HF, unhide HM, List.drop_of_length_le (by have := unhide HL1; omega)]
        exact ⟨rfl, by cases m <;> rfl⟩
      go_wp2
      go_ret2
      refine ⟨?_, hbr⟩
      rw [(unhide HE).1, (unhide HE).2]
      rfl
end Go.Proofs.Ytihmbfapbkddeaa
