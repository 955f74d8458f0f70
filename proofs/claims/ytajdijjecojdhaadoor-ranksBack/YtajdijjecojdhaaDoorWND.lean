import Derived.Test.YtajdijjecojdhaaDoorWG5
import Derived.Test.YtajdijjecojdhaaDoorWLL
namespace Go.Proofs.YtajdijjecojdhaaDoor
open Go.RowKit
/-- The blocks of strings are as they were. -/
def K9 (w w' : World) : Prop := ∀ b, TB w 9 b → w'.heap[b]? = w.heap[b]?
theorem K9.tb {w w' : World} (h : K9 w w') {b : Nat} (hb : TB w 9 b) : TB w' 9 b := by
  obtain ⟨arr, fz, q⟩ := hb
  exact ⟨arr, fz, (h b ⟨arr, fz, q⟩).trans q⟩
theorem K9.of_below {w w' : World} (h : Below w.heap.size w w') : K9 w w' := fun b hb => h.block b hb.lt
theorem K9.trans {w w1 w2 : World} (h : K9 w w1) (h2 : K9 w1 w2) : K9 w w2 := fun b hb => (h2 b (h.tb hb)).trans (h b hb)
theorem K9.later {w w1 w2 : World} (h : K9 w w1) (h2 : Below w1.heap.size w1 w2) : K9 w w2 := h.trans (K9.of_below h2)
theorem K9.kept {w w1 w2 : World} {e' : TypeId} {base sz k : Nat} {v : Value} {xs : List Value} (h : K9 w w1) (ho : w1.ownsRow base e' sz v k xs) (hn : 9 ≠ e') (hg : w1.grownBy w2 v.ownBlock) : K9 w w2 := fun b hb => ((h.tb hb).kept ho hn hg).trans (h b hb)
theorem K9.set {w w1 : World} {g o : Nat} {u : Value} {e' : TypeId} (h : K9 w w1) (hg : TB w1 e' g) (hn : 9 ≠ e') : K9 w (w1.setCell ⟨g, o, none⟩ u) := fun b hb => (Below.heap_setCell _ _ _ _ (by show b ≠ g; exact (h.tb hb).ne hg hn)).trans (h b hb)
set_option maxRecDepth 100000 in
set_option maxHeartbeats 8000000 in
theorem take0_good (R b off n c : Nat) (x0 x1 : ByteArray) (t : List ByteArray) (aL : Option Addr) (nL cL : Nat) (lL : List Ag) (aR : Option Addr) (nR cR : Nat) (lR : List Ag) (vN : Value) (nN : Nat) (NL : List Ln) (w : World)
    (h : In9 w (some ⟨b, off, none⟩) (n + 2) (c + 2) (x0 :: x1 :: t)) (hne : ∀ x ∈ t, 0 < x.size ∧ x.size ≤ 281474976710656) (hg : Glob w) (h0 : (x0.toList == [108, 101, 102, 116]) = true) (h0' : (x0.toList == [114, 105, 103, 104, 116]) = false) (h1 : nameB x1 = true)
    (hR : w.heap[R]? = some (.cells #[.slice aL nL cL, .slice aR nR cR, vN] 58 (0, 0))) (hL : Ags w aL nL cL lL) (hRt : Ags w aR nR cR lR) (g1 : aidxFrom lL x1 0 < 0) (g2 : aidxFrom lR x1 0 < 0) (g3 : nL < 6)
    (oL : w.ownsRow (R + 1) 27 3 (.slice aL nL cL) nL (flat lL)) (oR : w.ownsRow (R + 1) 27 3 (.slice aR nR cR) nR (flat lR)) (hap : Ap (.slice aL nL cL) (.slice aR nR cR)) (hN : RowN (R + 1) w vN nN NL) (hnN : nN ≤ 1000) (r : Int) (t2 t3 : List ByteArray) (hroom : roomP t = .ok (r, t2)) (hlikes : likesP t2 = .ok t3) :
    Calls Tryd.prog 29 #[.pointer (some ⟨R, 0, none⟩), .slice (some ⟨b, off, none⟩) (n + 2) (c + 2)] w fun e w' => e = .returned (.tuple #[]) ∧ Below R w w' ∧ K9 w w' ∧ ∃ vS vM a4 n4 c4, w'.heap[R]? = some (.cells #[vS, .slice aR nR cR, vM] 58 (0, 0)) ∧ w'.ownsRow (R + 1) 27 3 vS (nL + 1) (flat (lL ++ [⟨x1, r, none, 0, 0, []⟩])) ∧ w'.ownsRow (R + 1) 27 3 (.slice aR nR cR) nR (flat lR) ∧ Ap vS (.slice aR nR cR) ∧ RowN (R + 1) w' vM (nN + 1) (NL ++ [⟨0, nL, a4, n4, c4, t3⟩]) := by
  have HIN := hide h
  have HST := hide h.1
  obtain ⟨hn, hc, hm, hs, hh⟩ := h.1
  unfold maxLen at hm
  rcases hh with hz | ⟨b', off', e, hlt, hcell⟩
  · omega
  cases e
  have q0 : w.cell? ⟨b, off, none⟩ = some (.string x0) := hcell 0 (by omega)
  have q1 : w.cell? ⟨b, off + 1, none⟩ = some (.string x1) := hcell 1 (by omega)
  have hs1 : x1.size ≤ maxLen := hs x1 (by simp)
  have hRlt : R < w.heap.size := (Array.getElem?_eq_some_iff.1 hR).1
  have r0 : w.cell? ⟨R, 0, none⟩ = some (.slice aL nL cL) := by unfold World.cell?; simp [hR]
  have r1 : w.cell? ⟨R, 1, none⟩ = some (.slice aR nR cR) := by unfold World.cell?; simp [hR]
  have HT9 : Hid (TB w 9 b) := by
    rcases h.2 with h2 | ⟨b2, o2, e, h2⟩
    · omega
    · cases e; exact h2
  have HX1 : Hid (x1.size ≤ 281474976710656) := by
    show x1.size ≤ 281474976710656
    unfold nameB at h1
    simp at h1
    have := h1.1.1.1.2
    omega
  have hn1 : 0 < n := by
    rcases Nat.eq_zero_or_pos n with q | q
    · exfalso
      have : t = [] := by
        cases t with
        | nil => rfl
        | cons y t => simp at hn; omega
      subst this
      cases hroom
      cases hlikes
    · exact q
  have hc1 : 0 < c := by omega
  have hc0 : ¬ c = 0 := by omega
  clear hcell hn hs h
  have H1 := hide h1
  have HRR := hide hR
  have HOL := hide oL
  have HOR := hide oR
  have HAP := hide hap
  have HN := hide hN
  clear h1 hR oL oR hap hN
  go_enter Tryd.func29, Tryd.ntmps29
  go_wp2_with fail
  refine (need_yes 3 _).mono ?_
  rintro e w1 ⟨rfl, hw1⟩
  subst w1
  have hd2 : decide ((1 : Int) < (n : Int) + 2) = true := decide_eq_true (by omega)
  go_wp2_with fail
  refine (need_yes 4 _).mono ?_
  rintro e w2 ⟨rfl, hw2⟩
  subst w2
  go_wp2_with fail
  refine (isName_any x1 _ hs1).mono ?_
  rintro e w3 ⟨rfl, hw3⟩
  subst w3
  rw [unhide H1]
  go_wp2_with fail
  refine (need_yes 3 _).mono ?_
  rintro e w4 ⟨rfl, hw4⟩
  subst w4
  go_wp2_with fail
  refine (placeN_any aL nL cL lL x1 _ hL).mono ?_
  rintro e w5 ⟨rfl, hb5⟩
  have s0 := (hb5.cell (p := ⟨R, 0, none⟩) hRlt).trans r0
  have s1 := (hb5.cell (p := ⟨R, 1, none⟩) hRlt).trans r1
  go_wp2_with fail
  refine (placeN_any aR nR cR lR x1 _ (hRt.later hb5)).mono ?_
  rintro e w6 ⟨rfl, hb6⟩
  have hRlt5 : R < w5.heap.size := Nat.lt_of_lt_of_le hRlt hb5.size
  have u0 := (hb6.cell (p := ⟨R, 0, none⟩) hRlt5).trans s0
  have u1 := (hb6.cell (p := ⟨R, 1, none⟩) hRlt5).trans s1
  clear s0 s1
  have gd2 : decide (aidxFrom lR x1 0 < 0) = true := decide_eq_true g2
  go_wp2_with fail
  refine (need_yes 6 _).mono ?_
  rintro e w7 ⟨rfl, hw7⟩
  subst w7
  have gd3 : decide ((nL : Int) < 6) = true := decide_eq_true (by omega)
  go_wp2_with fail
  refine (need_yes 2 _).mono ?_
  rintro e w8 ⟨rfl, hw8⟩
  subst w8
  have hb6w : Below w.heap.size w w6 := hb5.trans (hb6.mono hb5.size)
  have hRlt8 : R < w6.heap.size := Nat.lt_of_lt_of_le hRlt hb6w.size
  have HSR : Hid (∀ a', (n = 0 ∨ a' = some ⟨b, off + 2, none⟩) → Strz w6 a' n c t) := fun a' ha => ((unhide HST).rest2 a' ha).later hb6w
  have HGL := hide (hg.later hb6w)
  have HNE := hide hne
  have HRO := hide hroom
  have HLI := hide hlikes
  have HB6w := hide hb6w
  clear hne hroom hlikes HST hg hL hRt hb6w
  go_wp2_with fail
  have X1 := unhide HSR (some ⟨b, off + 2, none⟩) (Or.inr rfl)
  refine (takeRoom_anyB (some ⟨b, off + 2, none⟩) n c t w6 X1 (unhide HNE) (unhide HGL)).mono ?_
  clear X1
  rintro e w9 ⟨hb9, ⟨k, hk, _⟩ | ⟨r', t', a3, n3, c3, hk, rfl, hst3, hsb3⟩⟩
  · have := (unhide HRO).symm.trans hk
    cases this
  obtain ⟨rfl, rfl⟩ : r' = r ∧ t' = t2 := by
    have hk' := (unhide HRO).symm.trans hk
    injection hk' with hk'
    injection hk' with hk1 hk2
    exact ⟨hk1.symm, hk2.symm⟩
  have hn3 : n3 ≠ 0 := fun q => by
    have := hst3.1
    rw [q] at this
    have e2 := List.eq_nil_of_length_eq_zero this.symm
    have hl := unhide HLI
    rw [e2] at hl
    cases hl
  have v0 := (hb9.cell (p := ⟨R, 0, none⟩) hRlt8).trans u0
  have v1 := (hb9.cell (p := ⟨R, 1, none⟩) hRlt8).trans u1
  have HS9 := hide (hst3.later hb9)
  obtain ⟨o3, rfl⟩ : ∃ o3, a3 = some ⟨b, o3, none⟩ := by
    rcases hsb3 with q | ⟨b2, o2, o2', e1, e2⟩
    · exact absurd q hn3
    · cases e1; exact ⟨o2', e2⟩
  clear hst3 hk u0 u1 hsb3
  go_wp2_with fail
  refine (takeLikes_anyB (some ⟨b, o3, none⟩) n3 c3 _ w9 (unhide HS9)).mono ?_
  rintro e w10 ⟨hw10, ⟨k, hk, _⟩ | ⟨t', a4, n4, c4, hk, rfl, hst4, hsb4⟩⟩
  · have := (unhide HLI).symm.trans hk
    cases this
  subst w10
  obtain rfl : t' = t3 := by
    have hk' := (unhide HLI).symm.trans hk
    injection hk' with hk'
    exact hk'.symm
  have hb9w : Below w.heap.size w w9 := (unhide HB6w).trans (hb9.mono (unhide HB6w).size)
  have hRlt9 : R < w9.heap.size := Nat.lt_of_lt_of_le hRlt hb9w.size
  have hI4 : In9 w9 a4 n4 c4 t' := by
    refine ⟨hst4, ?_⟩
    rcases hsb4 with q | ⟨b2, o2, o2', e1, e2⟩
    · exact .inl q
    · cases e1
      obtain ⟨arr, fz, hq⟩ := unhide HT9
      exact .inr ⟨b, o2', e2, arr, fz, (hb9w.block b (unhide HT9).lt).trans hq⟩
  have HI4 := hide hI4
  have HN9 : Hid (RowN (R + 1) w9 vN nN NL) := ⟨owns_later (unhide HN).1 hb9w, fun x hx => ((unhide HN).2 x hx).later hb9w⟩
  have HL9 := hide (owns_later (unhide HOL) hb9w)
  have HR9 := hide (owns_later (unhide HOR) hb9w)
  have HRR9 : Hid (w9.heap[R]? = some (.cells #[.slice aL nL cL, .slice aR nR cR, vN] 58 (0, 0))) := (hb9w.block R hRlt).trans (unhide HRR)
  have HB9 := hide hb9w
  clear hst4 hk hb9 hsb4 hb9w hI4 hb5 hb6 v0 v1
  go_wp2_with fail
  refine wp_region_vals D11 S11 (J11 R w9 (.slice aL nL cL) (.slice aR nR cR) 0 aL nL cL vN nN (lnFlat NL) a4 n4 c4 t' (fun W => W.ownsRow (R + 1) 27 3 (.slice aL nL cL) nL (flat lL) ∧ W.ownsRow (R + 1) 27 3 (.slice aR nR cR) nR (flat lR) ∧ (∀ x ∈ NL, In9 W x.wa x.wn x.wc x.ws) ∧ In9 W a4 n4 c4 t' ∧ K9 w9 W)) (by kernel_rfl) (by kernel_rfl) (by kernel_rfl) (by kernel_rfl) (by kernel_rfl) (by kernel_rfl) (by kernel_rfl) ⟨Det.nil _, (Below.refl _ _).drew, unhide HRR9, ⟨unhide HL9, unhide HR9, (unhide HN9).2, unhide HI4, fun _ _ => rfl⟩, fun h => (by cases h), fun _ => (unhide HN9).1, fun h => (by cases h)⟩ (steps11 rfl rfl rfl (by omega) rfl hRlt9 (by omega) (fun W o hF => ⟨hF.1.alloc o, hF.2.1.alloc o, fun x hx => (hF.2.2.1 x hx).later (alloc_later W o), hF.2.2.2.1.later (alloc_later W o), hF.2.2.2.2.later (alloc_later W o)⟩) (fun W W' hF ho hg => ⟨hF.1.kept hg (own_apart hF.1 ho (by decide)), hF.2.1.kept hg (own_apart hF.2.1 ho (by decide)), fun x hx => (hF.2.2.1 x hx).kept ho (by decide) hg, hF.2.2.2.1.kept ho (by decide) hg, hF.2.2.2.2.kept ho (by decide) hg⟩) (fun W u hF ht => ⟨own_set hF.1 (Nat.lt_succ_self R), own_set hF.2.1 (Nat.lt_succ_self R), fun x hx => (hF.2.2.1 x hx).set ht (by decide), hF.2.2.2.1.set ht (by decide), hF.2.2.2.2.set ht (by decide)⟩) rfl rfl rfl rfl rfl rfl rfl rfl rfl rfl rfl rfl rfl rfl rfl rfl rfl rfl rfl rfl) ?_
  rintro l vals w11 ⟨-, k1, k2, ⟨k3, k4, k5, k6, k8⟩, -, -, k7⟩ hall
  have HK11 := hide (K9.trans (K9.of_below (unhide HB9)) k8)
  have k7 := k7 (hall 16 (by decide))
  rw [hall 19 (by decide)] at k2
  have HG11 : Hid (w11.heap[R]? = some (.cells #[.slice aL nL cL, .slice aR nR cR, vals 16] 58 (0, 0))) := k2
  have HB11 := hide ((show Below R w w9 from (unhide HB9).mono (by omega)).trans k1)
  have HRN : Hid (RowN (R + 1) w11 (vals 16) (nN + 1) (NL ++ [⟨0, nL, a4, n4, c4, t'⟩])) := by
    refine ⟨by rw [lnFlat_snoc]; exact k7, fun x hx => ?_⟩
    rcases List.mem_append.1 hx with q | q
    · exact k5 x q
    · rw [List.mem_singleton] at q; subst q; exact k6
  have HL11 := hide k3
  have HR11 := hide k4
  have hRlt11 : R < w11.heap.size := Nat.lt_of_lt_of_le hRlt9 k1.size
  clear k1 k2 k3 k4 k5 k6 k7 k8 hall HRR9 HN9 HL9 HR9 HI4
  simp only [finA, S11, Act.put, List.setIfInBounds_toArray, List.set_cons_succ, List.set_cons_zero]
  generalize vals 16 = vM at *
  go_wp2_with fail
  refine wp_region_vals D12 S12 (J12 R w11 #[.slice aL nL cL, .slice aR nR cR, vM] 0 (.slice aL nL cL) (.slice aR nR cR) nL (flat lL) x1 r' (fun W => W.ownsRow (R + 1) 27 3 (.slice aR nR cR) nR (flat lR) ∧ RowN (R + 1) W vM (nN + 1) (NL ++ [(⟨0, nL, a4, n4, c4, t'⟩ : Ln)]) ∧ K9 w11 W)) (by kernel_rfl) (by kernel_rfl) (by kernel_rfl) (by kernel_rfl) (by kernel_rfl) (by kernel_rfl) (by kernel_rfl) ⟨Det.nil _, (Below.refl _ _).drew, unhide HG11, ⟨unhide HR11, unhide HRN, fun _ _ => rfl⟩, fun h => (by cases h), fun _ => unhide HL11, fun h => (by cases h)⟩ (steps12 rfl rfl rfl rfl (by omega) rfl hRlt11 (by omega) (unhide HX1) nR (flat lR) (fun W hF => hF.1) (unhide HAP) (fun W W' hF hb => ⟨owns_later hF.1 hb, ⟨owns_later hF.2.1.1 hb, fun x hx => (hF.2.1.2 x hx).later hb⟩, hF.2.2.later hb⟩) (fun W W' hF ho hg => ⟨hF.1.kept hg (unhide HAP), ⟨hF.2.1.1.kept hg (own_apart hF.2.1.1 ho (by decide)), fun x hx => (hF.2.1.2 x hx).kept ho (by decide) hg⟩, hF.2.2.kept ho (by decide) hg⟩) (fun W u hF ht => ⟨own_set hF.1 (Nat.lt_succ_self R), ⟨own_set hF.2.1.1 (Nat.lt_succ_self R), fun x hx => (hF.2.1.2 x hx).set ht (by decide)⟩, hF.2.2.set ht (by decide)⟩) rfl rfl rfl rfl rfl rfl rfl rfl rfl rfl rfl rfl rfl rfl rfl rfl rfl rfl) ?_
  rintro l2 vals2 w12 ⟨-, k1, k2, ⟨k3, k4, k8⟩, -, -, k7⟩ hall
  have k7 := k7 (hall 13 (by decide))
  rw [hall 17 (by decide)] at k2
  have HF : Hid (Below R w w12 ∧ K9 w w12 ∧ ∃ vS vM a4 n4 c4, w12.heap[R]? = some (.cells #[vS, .slice aR nR cR, vM] 58 (0, 0)) ∧ w12.ownsRow (R + 1) 27 3 vS (nL + 1) (flat (lL ++ [⟨x1, r', none, 0, 0, []⟩])) ∧ w12.ownsRow (R + 1) 27 3 (.slice aR nR cR) nR (flat lR) ∧ Ap vS (.slice aR nR cR) ∧ RowN (R + 1) w12 vM (nN + 1) (NL ++ [⟨0, nL, a4, n4, c4, t'⟩])) := ⟨(unhide HB11).trans k1, K9.trans (unhide HK11) k8, vals2 13, vM, a4, n4, c4, k2, by rw [flat_snoc]; exact k7.1, k3, k7.2, k4⟩
  clear k1 k2 k3 k4 k7 k8 hall
  simp only [finA, S12, Act.put, List.setIfInBounds_toArray, List.set_cons_succ, List.set_cons_zero]
  go_wp2
  go_end0
  exact ⟨rfl, unhide HF⟩
set_option maxRecDepth 100000 in
set_option maxHeartbeats 8000000 in
theorem take1_good (R b off n c : Nat) (x0 x1 : ByteArray) (t : List ByteArray) (aL : Option Addr) (nL cL : Nat) (lL : List Ag) (aR : Option Addr) (nR cR : Nat) (lR : List Ag) (vN : Value) (nN : Nat) (NL : List Ln) (w : World)
    (h : In9 w (some ⟨b, off, none⟩) (n + 2) (c + 2) (x0 :: x1 :: t)) (hne : ∀ x ∈ t, 0 < x.size ∧ x.size ≤ 281474976710656) (hg : Glob w) (h0 : (x0.toList == [108, 101, 102, 116]) = false) (h0' : (x0.toList == [114, 105, 103, 104, 116]) = true) (h1 : nameB x1 = true)
    (hR : w.heap[R]? = some (.cells #[.slice aL nL cL, .slice aR nR cR, vN] 58 (0, 0))) (hL : Ags w aL nL cL lL) (hRt : Ags w aR nR cR lR) (g1 : aidxFrom lL x1 0 < 0) (g2 : aidxFrom lR x1 0 < 0) (g3 : nR < 6)
    (oL : w.ownsRow (R + 1) 27 3 (.slice aL nL cL) nL (flat lL)) (oR : w.ownsRow (R + 1) 27 3 (.slice aR nR cR) nR (flat lR)) (hap : Ap (.slice aL nL cL) (.slice aR nR cR)) (hN : RowN (R + 1) w vN nN NL) (hnN : nN ≤ 1000) (r : Int) (t2 t3 : List ByteArray) (hroom : roomP t = .ok (r, t2)) (hlikes : likesP t2 = .ok t3) :
    Calls Tryd.prog 29 #[.pointer (some ⟨R, 0, none⟩), .slice (some ⟨b, off, none⟩) (n + 2) (c + 2)] w fun e w' => e = .returned (.tuple #[]) ∧ Below R w w' ∧ K9 w w' ∧ ∃ vS vM a4 n4 c4, w'.heap[R]? = some (.cells #[.slice aL nL cL, vS, vM] 58 (0, 0)) ∧ w'.ownsRow (R + 1) 27 3 vS (nR + 1) (flat (lR ++ [⟨x1, r, none, 0, 0, []⟩])) ∧ w'.ownsRow (R + 1) 27 3 (.slice aL nL cL) nL (flat lL) ∧ Ap vS (.slice aL nL cL) ∧ RowN (R + 1) w' vM (nN + 1) (NL ++ [⟨1, nR, a4, n4, c4, t3⟩]) := by
  have HIN := hide h
  have HST := hide h.1
  obtain ⟨hn, hc, hm, hs, hh⟩ := h.1
  unfold maxLen at hm
  rcases hh with hz | ⟨b', off', e, hlt, hcell⟩
  · omega
  cases e
  have q0 : w.cell? ⟨b, off, none⟩ = some (.string x0) := hcell 0 (by omega)
  have q1 : w.cell? ⟨b, off + 1, none⟩ = some (.string x1) := hcell 1 (by omega)
  have hs1 : x1.size ≤ maxLen := hs x1 (by simp)
  have hRlt : R < w.heap.size := (Array.getElem?_eq_some_iff.1 hR).1
  have r0 : w.cell? ⟨R, 0, none⟩ = some (.slice aL nL cL) := by unfold World.cell?; simp [hR]
  have r1 : w.cell? ⟨R, 1, none⟩ = some (.slice aR nR cR) := by unfold World.cell?; simp [hR]
  have HT9 : Hid (TB w 9 b) := by
    rcases h.2 with h2 | ⟨b2, o2, e, h2⟩
    · omega
    · cases e; exact h2
  have HX1 : Hid (x1.size ≤ 281474976710656) := by
    show x1.size ≤ 281474976710656
    unfold nameB at h1
    simp at h1
    have := h1.1.1.1.2
    omega
  have hn1 : 0 < n := by
    rcases Nat.eq_zero_or_pos n with q | q
    · exfalso
      have : t = [] := by
        cases t with
        | nil => rfl
        | cons y t => simp at hn; omega
      subst this
      cases hroom
      cases hlikes
    · exact q
  have hc1 : 0 < c := by omega
  have hc0 : ¬ c = 0 := by omega
  clear hcell hn hs h
  have H1 := hide h1
  have HRR := hide hR
  have HOL := hide oL
  have HOR := hide oR
  have HAP := hide hap
  have HN := hide hN
  clear h1 hR oL oR hap hN
  go_enter Tryd.func29, Tryd.ntmps29
  go_wp2_with fail
  refine (need_yes 3 _).mono ?_
  rintro e w1 ⟨rfl, hw1⟩
  subst w1
  have hd2 : decide ((1 : Int) < (n : Int) + 2) = true := decide_eq_true (by omega)
  go_wp2_with fail
  refine (need_yes 4 _).mono ?_
  rintro e w2 ⟨rfl, hw2⟩
  subst w2
  go_wp2_with fail
  refine (isName_any x1 _ hs1).mono ?_
  rintro e w3 ⟨rfl, hw3⟩
  subst w3
  rw [unhide H1]
  go_wp2_with fail
  refine (need_yes 3 _).mono ?_
  rintro e w4 ⟨rfl, hw4⟩
  subst w4
  go_wp2_with fail
  refine (placeN_any aL nL cL lL x1 _ hL).mono ?_
  rintro e w5 ⟨rfl, hb5⟩
  have s0 := (hb5.cell (p := ⟨R, 0, none⟩) hRlt).trans r0
  have s1 := (hb5.cell (p := ⟨R, 1, none⟩) hRlt).trans r1
  go_wp2_with fail
  refine (placeN_any aR nR cR lR x1 _ (hRt.later hb5)).mono ?_
  rintro e w6 ⟨rfl, hb6⟩
  have hRlt5 : R < w5.heap.size := Nat.lt_of_lt_of_le hRlt hb5.size
  have u0 := (hb6.cell (p := ⟨R, 0, none⟩) hRlt5).trans s0
  have u1 := (hb6.cell (p := ⟨R, 1, none⟩) hRlt5).trans s1
  clear s0 s1
  have gd2 : decide (aidxFrom lR x1 0 < 0) = true := decide_eq_true g2
  go_wp2_with fail
  refine (need_yes 6 _).mono ?_
  rintro e w7 ⟨rfl, hw7⟩
  subst w7
  have gd3 : decide ((nR : Int) < 6) = true := decide_eq_true (by omega)
  go_wp2_with fail
  refine (need_yes 2 _).mono ?_
  rintro e w8 ⟨rfl, hw8⟩
  subst w8
  have hb6w : Below w.heap.size w w6 := hb5.trans (hb6.mono hb5.size)
  have hRlt8 : R < w6.heap.size := Nat.lt_of_lt_of_le hRlt hb6w.size
  have HSR : Hid (∀ a', (n = 0 ∨ a' = some ⟨b, off + 2, none⟩) → Strz w6 a' n c t) := fun a' ha => ((unhide HST).rest2 a' ha).later hb6w
  have HGL := hide (hg.later hb6w)
  have HNE := hide hne
  have HRO := hide hroom
  have HLI := hide hlikes
  have HB6w := hide hb6w
  clear hne hroom hlikes HST hg hL hRt hb6w
  go_wp2_with fail
  have X1 := unhide HSR (some ⟨b, off + 2, none⟩) (Or.inr rfl)
  refine (takeRoom_anyB (some ⟨b, off + 2, none⟩) n c t w6 X1 (unhide HNE) (unhide HGL)).mono ?_
  clear X1
  rintro e w9 ⟨hb9, ⟨k, hk, _⟩ | ⟨r', t', a3, n3, c3, hk, rfl, hst3, hsb3⟩⟩
  · have := (unhide HRO).symm.trans hk
    cases this
  obtain ⟨rfl, rfl⟩ : r' = r ∧ t' = t2 := by
    have hk' := (unhide HRO).symm.trans hk
    injection hk' with hk'
    injection hk' with hk1 hk2
    exact ⟨hk1.symm, hk2.symm⟩
  have hn3 : n3 ≠ 0 := fun q => by
    have := hst3.1
    rw [q] at this
    have e2 := List.eq_nil_of_length_eq_zero this.symm
    have hl := unhide HLI
    rw [e2] at hl
    cases hl
  have v0 := (hb9.cell (p := ⟨R, 0, none⟩) hRlt8).trans u0
  have v1 := (hb9.cell (p := ⟨R, 1, none⟩) hRlt8).trans u1
  have HS9 := hide (hst3.later hb9)
  obtain ⟨o3, rfl⟩ : ∃ o3, a3 = some ⟨b, o3, none⟩ := by
    rcases hsb3 with q | ⟨b2, o2, o2', e1, e2⟩
    · exact absurd q hn3
    · cases e1; exact ⟨o2', e2⟩
  clear hst3 hk u0 u1 hsb3
  go_wp2_with fail
  refine (takeLikes_anyB (some ⟨b, o3, none⟩) n3 c3 _ w9 (unhide HS9)).mono ?_
  rintro e w10 ⟨hw10, ⟨k, hk, _⟩ | ⟨t', a4, n4, c4, hk, rfl, hst4, hsb4⟩⟩
  · have := (unhide HLI).symm.trans hk
    cases this
  subst w10
  obtain rfl : t' = t3 := by
    have hk' := (unhide HLI).symm.trans hk
    injection hk' with hk'
    exact hk'.symm
  have hb9w : Below w.heap.size w w9 := (unhide HB6w).trans (hb9.mono (unhide HB6w).size)
  have hRlt9 : R < w9.heap.size := Nat.lt_of_lt_of_le hRlt hb9w.size
  have hI4 : In9 w9 a4 n4 c4 t' := by
    refine ⟨hst4, ?_⟩
    rcases hsb4 with q | ⟨b2, o2, o2', e1, e2⟩
    · exact .inl q
    · cases e1
      obtain ⟨arr, fz, hq⟩ := unhide HT9
      exact .inr ⟨b, o2', e2, arr, fz, (hb9w.block b (unhide HT9).lt).trans hq⟩
  have HI4 := hide hI4
  have HN9 : Hid (RowN (R + 1) w9 vN nN NL) := ⟨owns_later (unhide HN).1 hb9w, fun x hx => ((unhide HN).2 x hx).later hb9w⟩
  have HL9 := hide (owns_later (unhide HOL) hb9w)
  have HR9 := hide (owns_later (unhide HOR) hb9w)
  have HRR9 : Hid (w9.heap[R]? = some (.cells #[.slice aL nL cL, .slice aR nR cR, vN] 58 (0, 0))) := (hb9w.block R hRlt).trans (unhide HRR)
  have HB9 := hide hb9w
  clear hst4 hk hb9 hsb4 hb9w hI4 hb5 hb6 v0 v1
  go_wp2_with fail
  refine wp_region_vals D11 S11 (J11 R w9 (.slice aL nL cL) (.slice aR nR cR) 1 aR nR cR vN nN (lnFlat NL) a4 n4 c4 t' (fun W => W.ownsRow (R + 1) 27 3 (.slice aL nL cL) nL (flat lL) ∧ W.ownsRow (R + 1) 27 3 (.slice aR nR cR) nR (flat lR) ∧ (∀ x ∈ NL, In9 W x.wa x.wn x.wc x.ws) ∧ In9 W a4 n4 c4 t' ∧ K9 w9 W)) (by kernel_rfl) (by kernel_rfl) (by kernel_rfl) (by kernel_rfl) (by kernel_rfl) (by kernel_rfl) (by kernel_rfl) ⟨Det.nil _, (Below.refl _ _).drew, unhide HRR9, ⟨unhide HL9, unhide HR9, (unhide HN9).2, unhide HI4, fun _ _ => rfl⟩, fun h => (by cases h), fun _ => (unhide HN9).1, fun h => (by cases h)⟩ (steps11 rfl rfl rfl (by omega) rfl hRlt9 (by omega) (fun W o hF => ⟨hF.1.alloc o, hF.2.1.alloc o, fun x hx => (hF.2.2.1 x hx).later (alloc_later W o), hF.2.2.2.1.later (alloc_later W o), hF.2.2.2.2.later (alloc_later W o)⟩) (fun W W' hF ho hg => ⟨hF.1.kept hg (own_apart hF.1 ho (by decide)), hF.2.1.kept hg (own_apart hF.2.1 ho (by decide)), fun x hx => (hF.2.2.1 x hx).kept ho (by decide) hg, hF.2.2.2.1.kept ho (by decide) hg, hF.2.2.2.2.kept ho (by decide) hg⟩) (fun W u hF ht => ⟨own_set hF.1 (Nat.lt_succ_self R), own_set hF.2.1 (Nat.lt_succ_self R), fun x hx => (hF.2.2.1 x hx).set ht (by decide), hF.2.2.2.1.set ht (by decide), hF.2.2.2.2.set ht (by decide)⟩) rfl rfl rfl rfl rfl rfl rfl rfl rfl rfl rfl rfl rfl rfl rfl rfl rfl rfl rfl rfl) ?_
  rintro l vals w11 ⟨-, k1, k2, ⟨k3, k4, k5, k6, k8⟩, -, -, k7⟩ hall
  have HK11 := hide (K9.trans (K9.of_below (unhide HB9)) k8)
  have k7 := k7 (hall 16 (by decide))
  rw [hall 19 (by decide)] at k2
  have HG11 : Hid (w11.heap[R]? = some (.cells #[.slice aL nL cL, .slice aR nR cR, vals 16] 58 (0, 0))) := k2
  have HB11 := hide ((show Below R w w9 from (unhide HB9).mono (by omega)).trans k1)
  have HRN : Hid (RowN (R + 1) w11 (vals 16) (nN + 1) (NL ++ [⟨1, nR, a4, n4, c4, t'⟩])) := by
    refine ⟨by rw [lnFlat_snoc]; exact k7, fun x hx => ?_⟩
    rcases List.mem_append.1 hx with q | q
    · exact k5 x q
    · rw [List.mem_singleton] at q; subst q; exact k6
  have HL11 := hide k3
  have HR11 := hide k4
  have hRlt11 : R < w11.heap.size := Nat.lt_of_lt_of_le hRlt9 k1.size
  clear k1 k2 k3 k4 k5 k6 k7 k8 hall HRR9 HN9 HL9 HR9 HI4
  simp only [finA, S11, Act.put, List.setIfInBounds_toArray, List.set_cons_succ, List.set_cons_zero]
  generalize vals 16 = vM at *
  go_wp2_with fail
  refine wp_region_vals D12 S12 (J12 R w11 #[.slice aL nL cL, .slice aR nR cR, vM] 1 (.slice aR nR cR) (.slice aL nL cL) nR (flat lR) x1 r' (fun W => W.ownsRow (R + 1) 27 3 (.slice aL nL cL) nL (flat lL) ∧ RowN (R + 1) W vM (nN + 1) (NL ++ [(⟨1, nR, a4, n4, c4, t'⟩ : Ln)]) ∧ K9 w11 W)) (by kernel_rfl) (by kernel_rfl) (by kernel_rfl) (by kernel_rfl) (by kernel_rfl) (by kernel_rfl) (by kernel_rfl) ⟨Det.nil _, (Below.refl _ _).drew, unhide HG11, ⟨unhide HL11, unhide HRN, fun _ _ => rfl⟩, fun h => (by cases h), fun _ => unhide HR11, fun h => (by cases h)⟩ (steps12 rfl rfl rfl rfl (by omega) rfl hRlt11 (by omega) (unhide HX1) nL (flat lL) (fun W hF => hF.1) (unhide HAP).sym (fun W W' hF hb => ⟨owns_later hF.1 hb, ⟨owns_later hF.2.1.1 hb, fun x hx => (hF.2.1.2 x hx).later hb⟩, hF.2.2.later hb⟩) (fun W W' hF ho hg => ⟨hF.1.kept hg (unhide HAP).sym, ⟨hF.2.1.1.kept hg (own_apart hF.2.1.1 ho (by decide)), fun x hx => (hF.2.1.2 x hx).kept ho (by decide) hg⟩, hF.2.2.kept ho (by decide) hg⟩) (fun W u hF ht => ⟨own_set hF.1 (Nat.lt_succ_self R), ⟨own_set hF.2.1.1 (Nat.lt_succ_self R), fun x hx => (hF.2.1.2 x hx).set ht (by decide)⟩, hF.2.2.set ht (by decide)⟩) rfl rfl rfl rfl rfl rfl rfl rfl rfl rfl rfl rfl rfl rfl rfl rfl rfl rfl) ?_
  rintro l2 vals2 w12 ⟨-, k1, k2, ⟨k3, k4, k8⟩, -, -, k7⟩ hall
  have k7 := k7 (hall 13 (by decide))
  rw [hall 17 (by decide)] at k2
  have HF : Hid (Below R w w12 ∧ K9 w w12 ∧ ∃ vS vM a4 n4 c4, w12.heap[R]? = some (.cells #[.slice aL nL cL, vS, vM] 58 (0, 0)) ∧ w12.ownsRow (R + 1) 27 3 vS (nR + 1) (flat (lR ++ [⟨x1, r', none, 0, 0, []⟩])) ∧ w12.ownsRow (R + 1) 27 3 (.slice aL nL cL) nL (flat lL) ∧ Ap vS (.slice aL nL cL) ∧ RowN (R + 1) w12 vM (nN + 1) (NL ++ [⟨1, nR, a4, n4, c4, t'⟩])) := ⟨(unhide HB11).trans k1, K9.trans (unhide HK11) k8, vals2 13, vM, a4, n4, c4, k2, by rw [flat_snoc]; exact k7.1, k3, k7.2, k4⟩
  clear k1 k2 k3 k4 k7 k8 hall
  simp only [finA, S12, Act.put, List.setIfInBounds_toArray, List.set_cons_succ, List.set_cons_zero]
  go_wp2
  go_end0
  exact ⟨rfl, unhide HF⟩

end Go.Proofs.YtajdijjecojdhaaDoor
