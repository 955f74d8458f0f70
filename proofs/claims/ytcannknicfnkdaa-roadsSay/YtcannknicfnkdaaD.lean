import Derived.Test.YtcannknicfnkdaaC
namespace Go.Proofs.Ytcannknicfnkdaa
open Go.RowKit
theorem badK_yes {x : Int} (h : x < -999 ∨ 999 < x) : badK x = true := by unfold badK; simp; omega
theorem badK_no {x : Int} (h : ¬ (x < -999 ∨ 999 < x)) : badK x = false := by unfold badK; simp; omega
theorem badC_yes {m : Nat} {x : Int} (h : x < 0 ∨ (2 : Int) ^ m ≤ x) : badC m x = true := by unfold badC; simp; exact h
theorem badC_no {m : Nat} {x : Int} (h : ¬ (x < 0 ∨ (2 : Int) ^ m ≤ x)) : badC m x = false := by unfold badC; simp; omega
set_option maxRecDepth 100000 in
set_option maxHeartbeats 4000000 in
theorem roadsMay_any (ca : Option Addr) (cn cc : Nat) (C : List Sl) (ka : Option Addr) (kn kc : Nat) (K : List Sl) (w : World) (hC : Lsts w ca cn cc C) (hK : Lsts w ka kn kc K) :
    Calls Try.prog 11 #[rV ca cn cc ka kn kc] w fun e w' => e = .returned (.int .i64 (rE C K)) ∧ Below w.heap.size w w' := by
  have hc1 := hC.2.1
  have hc2 := hC.2.2.1
  have hk1 := hK.2.1
  have hk2 := hK.2.2.1
  unfold maxLen at hc2 hk2
  have hlC : cn = C.length := hC.1
  have hlK : kn = K.length := hK.1
  have HLC := hide hlC
  have HLK := hide hlK
  unfold rV
  have hbW : Below w.heap.size w (w.alloc (.cells #[.slice ca cn cc, .slice ka kn kc] 24)) := by go_grown
  have HBW := hide hbW
  by_cases hn : C.length < 1 ∨ 5 < C.length ∨ 6 < K.length
  · have hr : rE C K = 7 := by unfold rE; rw [if_pos hn]
    rw [hr]
    rw [← hlC, ← hlK] at hn
    clear hC hK hlC hlK hr hbW
    by_cases h1 : cn < 1
    · obtain rfl : cn = 0 := by omega
      go_enter Try.func11, Try.ntmps11
      go_wp2
      go_ret
      exact ⟨rfl, unhide HBW⟩
    · have h1' : 1 ≤ cn := by omega
      clear h1
      by_cases h2 : 5 < cn
      · clear hn
        go_enter Try.func11, Try.ntmps11
        go_wp2
        go_ret
        exact ⟨rfl, unhide HBW⟩
      · have h2' : cn ≤ 5 := by omega
        have h3 : 6 < kn := by omega
        clear hn h2
        go_enter Try.func11, Try.ntmps11
        go_wp2
        go_ret
        exact ⟨rfl, unhide HBW⟩
  · have RK := hide (fun (x : Int) (e : kE cn K = x) (hx : x ≠ 0) => rE_k hn (by rw [← hlC]; exact e) hx)
    have RC := hide (fun (e : kE cn K = 0) => rE_c hn (by rw [← hlC]; exact e))
    rw [← hlC, ← hlK] at hn
    rw [← hlK] at RC
    have h1 : 1 ≤ cn := by omega
    have h5 : cn ≤ 5 := by omega
    have h6 : kn ≤ 6 := by omega
    have HCW := hide (hC.later hbW)
    have HKW := hide (hK.later hbW)
    clear hn hC hK hlC hlK
    generalize rE C K = E at *
    obtain ⟨W, hW⟩ : ∃ W, w.alloc (.cells #[.slice ca cn cc, .slice ka kn kc] 24) = W := ⟨_, rfl⟩
    have w0 : W.cell? ⟨w.heap.size, 0, none⟩ = some (.slice ca cn cc) := by rw [← hW]; simp [World.cell?_alloc_at]
    have w1 : W.cell? ⟨w.heap.size, 1, none⟩ = some (.slice ka kn kc) := by rw [← hW]; simp [World.cell?_alloc_at]
    rw [hW] at HBW HCW HKW
    have HW := hide hW
    clear hW hbW
    go_enter Try.func11, Try.ntmps11
    go_wp2
    rw [unhide HW]
    go_loop [4, 5] (fun i _ => ∃ k : Nat, k ≤ kn ∧ i = .int .i64 k ∧ kE cn (K.drop k) = kE cn K) (fun i _ => kn - (intOf i).toNat)
    case atStart => exact ⟨0, Nat.zero_le _, rfl, by rw [List.drop_zero]⟩
    case round =>
      obtain ⟨k, hk, rfl, hke⟩ := hrel
      have HKE := hide hke
      clear hke
      by_cases hlt : k < kn
      · have hkl : k < K.length := by have := unhide HLK; omega
        obtain ⟨kb, ko, rfl, hkb, hcell⟩ := (unhide HKW).cellAt (by omega)
        have hck := hcell k hlt
        clear hcell
        obtain ⟨la, ln, lc, ints, es, l1, l2, hI⟩ := (unhide HKW).part hlt
        rw [es] at hck
        simp only at hck
        by_cases hln : ln = cn
        · subst ln
          have RB := hide (fun (q : Nat) (hq : q < ints.length) (h : badK (ints[q]?.getD 0) = true) => unhide RK 9 (by rw [← unhide HKE]; exact kE_bad hkl (by rw [es]) (by rw [es]; exact any_yes hq h)) (by decide))
          have RN := hide (fun (h : ∀ q, q < ints.length → badK (ints[q]?.getD 0) = false) => (show kE cn (K.drop (k + 1)) = kE cn K by rw [← unhide HKE]; exact (kE_next hkl (by rw [es]) (by rw [es]; exact any_no h)).symm))
          have HIL : Hid (cn = ints.length) := hI.1
          obtain ⟨ib, io, rfl, hib, hic⟩ := hI.cellAt (by omega)
          have HIC := hide hic
          clear hic es hkl hI
          go_wp2
          go_loop [5] (fun i => ∃ q : Nat, q ≤ cn ∧ i = .int .i64 q ∧ ∀ p, p < q → badK (ints[p]?.getD 0) = false) (fun i => cn - (intOf i).toNat)
          case atStart => exact ⟨0, Nat.zero_le _, rfl, fun p hp => absurd hp (Nat.not_lt_zero _)⟩
          case round =>
            obtain ⟨q, hq, rfl, hall⟩ := hrel
            have HA := hide hall
            clear hall
            by_cases hql : q < cn
            · have hx := unhide HIC q hql
              by_cases hb : ints[q]?.getD 0 < -999 ∨ 999 < ints[q]?.getD 0
              · have HR := hide (unhide RB q (by have := unhide HIL; omega) (badK_yes hb))
                generalize ints[q]?.getD 0 = x at *
                by_cases hb1 : x < -999
                · clear hb
                  go_wp2
                  go_ret
                  exact ⟨ret_int (unhide HR).symm, unhide HBW⟩
                · have hb1' : -999 ≤ x := by omega
                  have hb2 : 999 < x := by omega
                  clear hb hb1
                  go_wp2
                  go_ret
                  exact ⟨ret_int (unhide HR).symm, unhide HBW⟩
              · have HR : Hid (∀ p, p < q + 1 → badK (ints[p]?.getD 0) = false) := fun p hp => by
                  by_cases e : p = q
                  · rw [e]; exact badK_no hb
                  · exact unhide HA p (by omega)
                generalize ints[q]?.getD 0 = x at *
                have hb1' : -999 ≤ x := by omega
                have hb2 : x ≤ 999 := by omega
                clear hb
                go_wp2
                exact ⟨⟨q + 1, by omega, by go_num, unhide HR⟩, by simp [intOf]; omega⟩
            · obtain rfl : cn = q := by omega
              have HR := hide (unhide RN (fun p hp => unhide HA p (by have := unhide HIL; omega)))
              go_wp2
              exact ⟨⟨k + 1, by omega, by go_num, unhide HR⟩, by simp [intOf]; omega⟩
        · have dl : ((ln : Int) == (cn : Int)) = false := by simp; omega
          have HR : Hid (E = 7) := unhide RK 7 (by rw [← unhide HKE]; exact kE_len hkl (by rw [es]; exact hln)) (by decide)
          clear hln hkl es hI
          go_wp2
          go_ret
          exact ⟨ret_int (unhide HR).symm, unhide HBW⟩
      · obtain rfl : kn = k := by omega
        have HR := hide (unhide RC (by rw [← unhide HKE]; exact kE_end (by have := unhide HLK; omega)))
        clear RK RC
        have C0 := hide (fun (wr : World) (hb : Below W.heap.size W wr) => (hb.cell (p := ⟨w.heap.size, 0, none⟩) (World.block_lt_of_cell? W _ w0)).trans w0)
        have C1 := hide (fun (wr : World) (hb : Below W.heap.size W wr) => (hb.cell (p := ⟨w.heap.size, 1, none⟩) (World.block_lt_of_cell? W _ w1)).trans w1)
        have HBT := hide (fun (wr : World) (hb : Below W.heap.size W wr) => Below.trans (unhide HBW) (hb.mono (unhide HBW).size))
        go_wp2
        go_loopw [6, 7] (fun i _ wr => Hid (Below W.heap.size W wr) ∧ ∃ k : Nat, k ≤ cn ∧ i = .int .i64 k ∧ cE kn (C.drop k) = cE kn C) (fun i _ _ => cn - (intOf i).toNat)
        case atStart => exact ⟨Below.refl _ _, 0, Nat.zero_le _, rfl, by rw [List.drop_zero]⟩
        case round =>
          obtain ⟨HBr, k, hk, rfl, hce⟩ := hrel
          have HCE := hide hce
          clear hce w0 w1
          have w0 := unhide C0 wr (unhide HBr)
          have w1 := unhide C1 wr (unhide HBr)
          by_cases hlt : k < cn
          · have hkl : k < C.length := by have := unhide HLC; omega
            obtain ⟨kb, ko, rfl, hkb, hcell⟩ := ((unhide HCW).later (unhide HBr)).cellAt (by omega)
            have hck := hcell k hlt
            clear hcell
            obtain ⟨la, ln, lc, ints, es, l1, l2, hI⟩ := (unhide HCW).part hlt
            rw [es] at hck
            simp only at hck
            by_cases hln : ln < 1 ∨ 5 < ln
            · have HR : Hid (E = 7) := by rw [unhide HR, ← unhide HCE]; exact cE_len hkl (by rw [es]; exact hln)
              have HBX := hide (unhide HBT wr (unhide HBr))
              clear hkl es hI
              by_cases h0 : ln < 1
              · obtain rfl : ln = 0 := by omega
                go_wp2
                go_ret
                exact ⟨ret_int (unhide HR).symm, unhide HBX⟩
              · have h0' : 1 ≤ ln := by omega
                have h5' : 5 < ln := by omega
                clear hln h0
                go_wp2
                go_ret
                exact ⟨ret_int (unhide HR).symm, unhide HBX⟩
            · have h0' : 1 ≤ ln := by omega
              have h5' : ln ≤ 5 := by omega
              have RB := hide (fun (q : Nat) (hq : q < ints.length) (h : badC kn (ints[q]?.getD 0) = true) => (show E = 8 by rw [unhide HR, ← unhide HCE]; exact cE_bad hkl (by rw [es]; exact hln) (by rw [es]; exact any_yes hq h)))
              have RN := hide (fun (h : ∀ q, q < ints.length → badC kn (ints[q]?.getD 0) = false) => (show cE kn (C.drop (k + 1)) = cE kn C by rw [← unhide HCE]; exact (cE_next hkl (by rw [es]; exact hln) (by rw [es]; exact any_no h)).symm))
              have HIL : Hid (ln = ints.length) := hI.1
              have HP := hide (wpow6 h6)
              obtain ⟨ib, io, rfl, hib, hic⟩ := hI.cellAt (by omega)
              have HIC := hide (fun (wr : World) (hb : Below W.heap.size W wr) q hq => (hb.cell (p := ⟨ib, io + q, none⟩) hib).trans (hic q hq))
              have HCC := hide (fun (wr : World) (hb : Below W.heap.size W wr) => ((unhide HCW).later hb).cellAt (by omega))
              have HKC : Hid (∀ (wr : World) (hb : Below W.heap.size W wr), wr.cell? ⟨kb, ko + k, none⟩ = some (.slice (some ⟨ib, io, none⟩) ln lc)) := fun wr2 hb => by
                obtain ⟨kb2, ko2, e2, hkb2, hcell2⟩ := unhide HCC wr2 hb
                cases e2
                have := hcell2 k hlt
                rw [es] at this
                exact this
              clear hic es hkl hI hln HCC
              go_wp2
              go_loopw [7] (fun i wr => Hid (Below W.heap.size W wr) ∧ ∃ q : Nat, q ≤ ln ∧ i = .int .i64 q ∧ ∀ p, p < q → badC kn (ints[p]?.getD 0) = false) (fun i _ => ln - (intOf i).toNat)
              case atStart => exact ⟨HBr, 0, Nat.zero_le _, rfl, fun p hp => absurd hp (Nat.not_lt_zero _)⟩
              case round =>
                clear HBr w0 w1 hck
                obtain ⟨HBr, q, hq, rfl, hall⟩ := hrel
                have HA := hide hall
                clear hall
                have w0 := unhide C0 _ (unhide HBr)
                have w1 := unhide C1 _ (unhide HBr)
                have hck := unhide HKC _ (unhide HBr)
                have HBX := hide (unhide HBT _ (unhide HBr))
                by_cases hql : q < ln
                · have hx := unhide HIC _ (unhide HBr) q hql
                  by_cases hb : ints[q]?.getD 0 < 0 ∨ (2 : Int) ^ kn ≤ ints[q]?.getD 0
                  · have HR := hide (unhide RB q (by have := unhide HIL; omega) (badC_yes hb))
                    generalize ints[q]?.getD 0 = x at *
                    by_cases hb1 : x < 0
                    · have hd : decide (x < 0) = true := by simp [hb1]
                      clear hb hb1
                      go_wp2_with fail
                      go_quiet (fail)
                      go_wp2
                      go_ret
                      exact ⟨ret_int (unhide HR).symm, (unhide HBX).trans (below_drewN _ _ _)⟩
                    · have hb2 : (2 : Int) ^ kn ≤ x := by omega
                      have hd : decide (x < 0) = false := by simp; omega
                      have hd2 : decide (wrap64 ((2 : Int) ^ kn) ≤ x) = true := by rw [unhide HP]; simp [hb2]
                      clear hb hb1 hb2
                      go_wp2_with fail
                      go_quiet (fail)
                      go_wp2
                      go_ret
                      exact ⟨ret_int (unhide HR).symm, (unhide HBX).trans (below_drewN _ _ _)⟩
                  · have HR : Hid (∀ p, p < q + 1 → badC kn (ints[p]?.getD 0) = false) := fun p hp => by
                      by_cases e : p = q
                      · rw [e]; exact badC_no hb
                      · exact unhide HA p (by omega)
                    generalize ints[q]?.getD 0 = x at *
                    have hd : decide (x < 0) = false := by simp; omega
                    have hd2 : decide (wrap64 ((2 : Int) ^ kn) ≤ x) = false := by rw [unhide HP]; simp; omega
                    clear hb
                    go_wp2_with fail
                    go_quiet (fail)
                    go_wp2
                    go_roundw
                    case rel => exact ⟨(unhide HBr).trans (below_drewN _ _ _), q + 1, by omega, by go_num, unhide HR⟩
                    case measure => simp [intOf]; omega
                · obtain rfl : ln = q := by omega
                  have HR := hide (unhide RN (fun p hp => unhide HA p (by have := unhide HIL; omega)))
                  go_wp2
                  go_roundw
                  case rel => exact ⟨HBr, k + 1, by omega, by go_num, unhide HR⟩
                  case measure => simp [intOf]; omega
          · have HR2 : Hid (E = 0) := by rw [unhide HR, ← unhide HCE]; exact cE_end (by have := unhide HLC; omega)
            have HBX := hide (unhide HBT _ (unhide HBr))
            go_wp2
            go_ret
            exact ⟨ret_int (unhide HR2).symm, unhide HBX⟩
end Go.Proofs.Ytcannknicfnkdaa
