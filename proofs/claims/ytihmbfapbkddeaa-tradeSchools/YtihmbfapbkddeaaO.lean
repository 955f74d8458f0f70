import Derived.Test.YtihmbfapbkddeaaM
namespace Go.Proofs.Ytihmbfapbkddeaa
open Go.RowKit
theorem SchPost.err {WL FL : List Sl} {rl : List Int} {n m fn : Nat} {w : World} {e : Ending} {w' : World} (h : SchPost WL FL rl n m fn w e w') (hz : ¬ schE WL FL rl n m fn = 0) : e = .returned (two (.slice none 0 0) (schE WL FL rl n m fn)) ∧ Below w.heap.size w w' := by
  obtain ⟨hb, h | h⟩ := h
  · exact ⟨h.2, hb⟩
  · exact absurd h.1 hz
theorem SchPost.fine {WL FL : List Sl} {rl : List Int} {n m fn : Nat} {w : World} {e : Ending} {w' : World} (h : SchPost WL FL rl n m fn w e w') (hz : schE WL FL rl n m fn = 0) : ∃ a c T kk, e = .returned (two (.slice a n c) 0) ∧ Ints w' a n c (gotL T n) ∧ Reach n (lisA WL) (lisA FL) kk (Ex0 (fun s => rl[s]?.getD 0)) T ∧ Done n T ∧ Below w.heap.size w w' := by
  obtain ⟨hb, h | h⟩ := h
  · exact absurd hz h.1
  · obtain ⟨a, c, T, kk, h1, h2, h3, h4⟩ := h.2
    exact ⟨a, c, T, kk, h1, h2, h3, h4, hb⟩
set_option maxRecDepth 100000 in
set_option maxHeartbeats 4000000 in
theorem tradeSchools_any (n m fn : Nat) (wa : Option Addr) (wc : Nat) (WL : List Sl) (ra : Option Addr) (rc : Nat) (rl : List Int) (fa : Option Addr) (fc : Nat) (FL : List Sl) (w : World) (hW : Lsts w wa n wc WL) (hR : Ints w ra m rc rl) (hF : Lsts w fa fn fc FL)
    (hWs : ∀ s ∈ WL, s.ln ≤ 140737488351232) (hWn : n ≤ 140737488351232) (hFs : ∀ s ∈ FL, s.ln ≤ 140737488351232) (hFn : fn ≤ 140737488351232) :
    Calls Try.prog 5 #[.slice wa n wc, .slice ra m rc, .slice fa fn fc] w fun e w' => e = .returned (.bool true) ∧ Below w.heap.size w w' := by
  have h5 := hR.2.1
  have h6 := hR.2.2.1
  unfold maxLen at h6
  have CW := hide (heavy_any wa n wc WL w hW hWs hWn)
  have CF := hide (heavy_any fa fn fc FL w hF hFs hFn)
  have CS := hide (schools_any n m fn wa wc WL ra rc rl fa fc FL w hW hR hF)
  have HN := hide hW.1
  have HFN := hide hF.1
  have HWW := hide hW
  have HFF := hide hF
  have HRR := hide hR
  clear hW hF hR hWs hFs
  go_enter Try.func5, Try.ntmps5
  go_wp2_with fail
  refine (unhide CW).mono ?_
  rintro e w1 ⟨hv1, rfl, _, hw1⟩
  subst w1
  cases hv1 with
  | true =>
    go_wp2
    go_ret
    exact ⟨rfl, Below.refl _ _⟩
  | false =>
  go_wp2_with fail
  refine (unhide CF).mono ?_
  rintro e w1 ⟨hv2, rfl, _, hw1⟩
  subst w1
  cases hv2 with
  | true =>
    go_wp2
    go_ret
    exact ⟨rfl, Below.refl _ _⟩
  | false =>
  by_cases h100 : 100 < m
  · have d1 : decide (100 < (m : Int)) = true := decide_eq_true (by omega)
    go_wp2
    go_ret
    exact ⟨rfl, Below.refl _ _⟩
  have d1 : decide (100 < (m : Int)) = false := decide_eq_false (by omega)
  go_wp2_with fail
  refine (unhide CS).mono ?_
  intro e w1 hp1
  have hbS : Below w.heap.size w w1 := hp1.1
  have CS2 := hide (schoolsR_any n m fn wa wc WL ra rc rl fa fc FL w1 ((unhide HWW).later hbS) ((unhide HRR).later hbS) ((unhide HFF).later hbS))
  by_cases hz : schE WL FL rl n m fn = 0
  · obtain ⟨a1, c1, T1, k1, rfl, hI1, hr1, hd1, hb1⟩ := hp1.fine hz
    have HZ := hide hz
    unfold two
    clear hz
    go_wp2_with fail
    refine (unhide CS2).mono ?_
    intro e w2 hp2
    obtain ⟨a2, c2, T2, k2, rfl, hI2, hr2, hd2, hb2⟩ := hp2.fine (unhide HZ)
    unfold two
    obtain ⟨_, _, _, hrw, hrf, _, _⟩ := sch_ok (unhide HN) (unhide HFN) (unhide HZ)
    have hT : T1 = T2 := reach_one (fun i x hx => (hrw i x hx).1) (fun i x hx => (hrf i x hx).1) k2 k1 _ T1 T2 hr1 hd1 hr2 hd2
    subst hT
    have CC := sameInts_any a1 a2 n c1 n c2 (gotL T1 n) (gotL T1 n) w2 (hI1.later hb2) hI2
    rw [decide_eq_true rfl] at CC
    have C3 := hide CC
    have hbb := hb1.trans (hb2.mono hb1.size)
    clear CC hrw hrf hI1 hI2
    go_wp2_with (go_at_call 12; refine (unhide C3).mono ?_; rintro e w3 ⟨rfl, hb3⟩)
    go_ret
    exact ⟨rfl, hbb.trans (hb3.mono hbb.size)⟩
  · obtain ⟨rfl, hb1⟩ := hp1.err hz
    have HZ := hide hz
    unfold two
    clear hz
    go_wp2_with fail
    refine (unhide CS2).mono ?_
    intro e w2 hp2
    obtain ⟨rfl, hb2⟩ := hp2.err (unhide HZ)
    unfold two
    have hnil : Ints w2 none 0 0 [] := ⟨rfl, Nat.le_refl _, by unfold maxLen; omega, .inl rfl⟩
    have CC := sameInts_any none none 0 0 0 0 [] [] w2 hnil hnil
    rw [decide_eq_true rfl] at CC
    have C3 := hide CC
    have hbb := hb1.trans (hb2.mono hb1.size)
    clear CC
    go_wp2_with (go_at_call 12; refine (unhide C3).mono ?_; rintro e w3 ⟨rfl, hb3⟩)
    go_ret
    exact ⟨rfl, hbb.trans (hb3.mono hbb.size)⟩
end Go.Proofs.Ytihmbfapbkddeaa
