import Derived.Test.YtcannknicfnkdaaD
namespace Go.Proofs.Ytcannknicfnkdaa
open Go.RowKit
open Classical in
/-- What is said of where all are. -/
noncomputable def aE (C K : List Sl) (at' : List Int) : Int := if rE C K = 0 then (if at'.length = C.length then (if ∃ i, i < at'.length ∧ (nth at' i < 0 ∨ ((slAt C i).ln : Int) ≤ nth at' i) then 9 else 0) else 7) else rE C K
theorem aE_r {C K : List Sl} {p : List Int} (h : rE C K ≠ 0) : aE C K p = rE C K := by unfold aE; rw [if_neg h]
theorem aE_n {C K : List Sl} {p : List Int} (h : rE C K = 0) (hl : p.length ≠ C.length) : aE C K p = 7 := by unfold aE; rw [if_pos h, if_neg hl]
theorem aE_b {C K : List Sl} {p : List Int} (h : rE C K = 0) (hl : p.length = C.length) (i : Nat) (hi : i < p.length) (hb : nth p i < 0 ∨ ((slAt C i).ln : Int) ≤ nth p i) : aE C K p = 9 := by unfold aE; rw [if_pos h, if_pos hl, if_pos ⟨i, hi, hb⟩]
theorem aE_o {C K : List Sl} {p : List Int} (h : rE C K = 0) (hl : p.length = C.length) (ho : ∀ i, i < p.length → ¬ (nth p i < 0 ∨ ((slAt C i).ln : Int) ≤ nth p i)) : aE C K p = 0 := by
  unfold aE
  rw [if_pos h, if_pos hl, if_neg]
  rintro ⟨i, hi, hb⟩
  exact ho i hi hb
/-- The box in which a function has laid the roads, in a later world. -/
theorem box_cells {w : World} (ca : Option Addr) (cn cc : Nat) (ka : Option Addr) (kn kc : Nat) : ∃ W, w.alloc (.cells #[.slice ca cn cc, .slice ka kn kc] 24) = W ∧ Below w.heap.size w W ∧ w.heap.size < W.heap.size ∧ (∀ wr, Below W.heap.size W wr → wr.cell? ⟨w.heap.size, 0, none⟩ = some (.slice ca cn cc) ∧ wr.cell? ⟨w.heap.size, 1, none⟩ = some (.slice ka kn kc)) := by
  refine ⟨_, rfl, by go_grown, by simp, fun wr hb => ⟨(hb.cell (p := ⟨w.heap.size, 0, none⟩) (by simp)).trans (by simp [World.cell?_alloc_at]), (hb.cell (p := ⟨w.heap.size, 1, none⟩) (by simp)).trans (by simp [World.cell?_alloc_at])⟩⟩
set_option maxRecDepth 100000 in
set_option maxHeartbeats 4000000 in
theorem atMay_any (ca : Option Addr) (cn cc : Nat) (C : List Sl) (ka : Option Addr) (kn kc : Nat) (K : List Sl) (pa : Option Addr) (pn pc : Nat) (p : List Int) (w : World) (hC : Lsts w ca cn cc C) (hK : Lsts w ka kn kc K) (hp : Ints w pa pn pc p) :
    Calls Try.prog 6 #[rV ca cn cc ka kn kc, .slice pa pn pc] w fun e w' => e = .returned (.int .i64 (aE C K p)) ∧ Below w.heap.size w w' := by
  have hc1 := hC.2.1
  have hc2 := hC.2.2.1
  have hp1 := hp.2.1
  have hp2 := hp.2.2.1
  unfold maxLen at hc2 hp2
  have HLC : Hid (cn = C.length) := hC.1
  have HLP : Hid (pn = p.length) := hp.1
  obtain ⟨W, hW, hbW, hlt0, hbox⟩ := box_cells (w := w) ca cn cc ka kn kc
  have HW := hide hW
  have HBW := hide hbW
  have HBX0 := hide hbox
  have HBT := hide (fun (wr : World) (hb : Below W.heap.size W wr) => Below.trans hbW (hb.mono hbW.size))
  have w0 := (hbox W (Below.refl _ _)).1
  have w1 := (hbox W (Below.refl _ _)).2
  have CR := hide (roadsMay_any ca cn cc C ka kn kc K W (hC.later hbW) (hK.later hbW))
  have HCW := hide (hC.later hbW)
  have HPW := hide (hp.later hbW)
  have RR := hide (fun h => aE_r (C := C) (K := K) (p := p) h)
  have RN := hide (fun h g => aE_n (C := C) (K := K) (p := p) h g)
  have RB := hide (fun h g => aE_b (C := C) (K := K) (p := p) h g)
  have RO := hide (fun h g => aE_o (C := C) (K := K) (p := p) h g)
  clear hC hK hp hW hbW hbox hlt0
  unfold rV at *
  generalize aE C K p = E at *
  go_enter Try.func6, Try.ntmps6
  go_wp2_with fail
  rw [unhide HW]
  go_wp2_with fail
  refine (unhide CR).mono ?_
  rintro e wa ⟨rfl, hba⟩
  have HBa := hide hba
  clear hba w0 w1
  have w0 := (unhide HBX0 _ (unhide HBa)).1
  have w1 := (unhide HBX0 _ (unhide HBa)).2
  have HBX := hide (unhide HBT _ (unhide HBa))
  by_cases hr : rE C K = 0
  · rw [hr]
    have RN := hide (unhide RN hr)
    have RB := hide (unhide RB hr)
    have RO := hide (unhide RO hr)
    clear RR hr
    by_cases hl : cn = pn
    · subst hl
      have hl2 : p.length = C.length := by have := unhide HLC; have := unhide HLP; omega
      have RB := hide (unhide RB hl2)
      have RO := hide (unhide RO hl2)
      clear RN hl2
      go_wp2
      go_loopw [6] (fun i wr => Hid (Below W.heap.size W wr) ∧ ∃ k : Nat, k ≤ cn ∧ i = .int .i64 k ∧ ∀ j, j < k → ¬ (nth p j < 0 ∨ ((slAt C j).ln : Int) ≤ nth p j)) (fun i _ => cn - (intOf i).toNat)
      case atStart => exact ⟨HBa, 0, Nat.zero_le _, rfl, fun j hj => absurd hj (Nat.not_lt_zero _)⟩
      case round =>
        clear HBa w0 w1 HBX
        obtain ⟨HBr, k, hk, rfl, hall⟩ := hrel
        have HA := hide hall
        clear hall
        have w0 := (unhide HBX0 _ (unhide HBr)).1
        have w1 := (unhide HBX0 _ (unhide HBr)).2
        have HBX := hide (unhide HBT _ (unhide HBr))
        by_cases hlt : k < cn
        · obtain ⟨kb, ko, rfl, hkb, hcell⟩ := ((unhide HCW).later (unhide HBr)).cellAt (by omega)
          have hck := hcell k hlt
          clear hcell
          obtain ⟨la, ln, lc, ints, es, l1, l2, hI⟩ := (unhide HCW).part hlt
          rw [es] at hck
          simp only at hck
          clear hI
          obtain ⟨pb, po, rfl, hpb, hpc⟩ := ((unhide HPW).later (unhide HBr)).nth (by omega)
          have hpk := hpc k hlt
          clear hpc
          by_cases hb : nth p k < 0 ∨ (ln : Int) ≤ nth p k
          · have HR := hide (unhide RB k (by have := unhide HLP; omega) (by rw [es]; exact hb))
            clear es
            generalize nth p k = x at *
            by_cases hb1 : x < 0
            · have hd : decide (x < 0) = true := by simp [hb1]
              clear hb hb1
              go_wp2_with fail
              go_quiet (fail)
              go_wp2
              go_ret
              exact ⟨ret_int (unhide HR).symm, (unhide HBX).trans (below_drewN _ _ _)⟩
            · have hd : decide (x < 0) = false := by simp; omega
              have hd2 : decide ((ln : Int) ≤ x) = true := by simp; omega
              clear hb hb1
              go_wp2_with fail
              go_quiet (fail)
              go_wp2
              go_ret
              exact ⟨ret_int (unhide HR).symm, (unhide HBX).trans (below_drewN _ _ _)⟩
          · have HR : Hid (∀ j, j < k + 1 → ¬ (nth p j < 0 ∨ ((slAt C j).ln : Int) ≤ nth p j)) := fun j hj => by
              by_cases e : j = k
              · rw [e, es]; exact hb
              · exact unhide HA j (by omega)
            clear es
            generalize nth p k = x at *
            have hd : decide (x < 0) = false := by simp; omega
            have hd2 : decide ((ln : Int) ≤ x) = false := by simp; omega
            clear hb
            go_wp2_with fail
            go_quiet (fail)
            go_wp2
            go_roundw
            case rel => exact ⟨(unhide HBr).trans (below_drewN _ _ _), k + 1, by omega, by go_num, unhide HR⟩
            case measure => simp [intOf]; omega
        · obtain rfl : cn = k := by omega
          have HR := hide (unhide RO (fun j hj => unhide HA j (by have := unhide HLP; omega)))
          go_wp2
          go_ret
          exact ⟨ret_int (unhide HR).symm, unhide HBX⟩
    · have hd : ((pn : Int) == (cn : Int)) = false := by simp; omega
      have HR := hide (unhide RN (by have := unhide HLC; have := unhide HLP; omega))
      clear hl
      go_wp2
      go_ret
      exact ⟨ret_int (unhide HR).symm, unhide HBX⟩
  · have HR := hide (unhide RR hr)
    generalize rE C K = r at *
    have hd : (r == 0) = false := by simp [hr]
    clear hr
    go_wp2
    go_ret
    exact ⟨ret_int (unhide HR).symm, unhide HBX⟩
set_option maxRecDepth 100000 in
set_option maxHeartbeats 4000000 in
theorem mayBeAt_any (ca : Option Addr) (cn cc : Nat) (C : List Sl) (ka : Option Addr) (kn kc : Nat) (K : List Sl) (pa : Option Addr) (pn pc : Nat) (p : List Int) (w : World) (hC : Lsts w ca cn cc C) (hK : Lsts w ka kn kc K) (hp : Ints w pa pn pc p) :
    Calls Try.prog 22 #[rV ca cn cc ka kn kc, .slice pa pn pc] w fun e w' => e = .returned (.int .i64 (aE C K p)) ∧ Below w.heap.size w w' := by
  have hc1 := hC.2.1
  have hc2 := hC.2.2.1
  have hp1 := hp.2.1
  have hp2 := hp.2.2.1
  unfold maxLen at hc2 hp2
  have HLC : Hid (cn = C.length) := hC.1
  have HLP : Hid (pn = p.length) := hp.1
  obtain ⟨W, hW, hbW, hlt0, hbox⟩ := box_cells (w := w) ca cn cc ka kn kc
  have HW := hide hW
  have HBW := hide hbW
  have HBX0 := hide hbox
  have HBT := hide (fun (wr : World) (hb : Below W.heap.size W wr) => Below.trans hbW (hb.mono hbW.size))
  have w0 := (hbox W (Below.refl _ _)).1
  have w1 := (hbox W (Below.refl _ _)).2
  have CR := hide (roads_any ca cn cc C ka kn kc K W (hC.later hbW) (hK.later hbW))
  have HCW := hide (hC.later hbW)
  have HPW := hide (hp.later hbW)
  have RR := hide (fun h => aE_r (C := C) (K := K) (p := p) h)
  have RN := hide (fun h g => aE_n (C := C) (K := K) (p := p) h g)
  have RB := hide (fun h g => aE_b (C := C) (K := K) (p := p) h g)
  have RO := hide (fun h g => aE_o (C := C) (K := K) (p := p) h g)
  clear hC hK hp hW hbW hbox hlt0
  unfold rV at *
  generalize aE C K p = E at *
  go_enter Try.func22, Try.ntmps22
  go_wp2_with fail
  rw [unhide HW]
  go_wp2_with fail
  refine (unhide CR).mono ?_
  rintro e wa ⟨rfl, hba⟩
  have HBa := hide hba
  clear hba w0 w1
  have w0 := (unhide HBX0 _ (unhide HBa)).1
  have w1 := (unhide HBX0 _ (unhide HBa)).2
  have HBX := hide (unhide HBT _ (unhide HBa))
  by_cases hr : rE C K = 0
  · rw [hr]
    have RN := hide (unhide RN hr)
    have RB := hide (unhide RB hr)
    have RO := hide (unhide RO hr)
    clear RR hr
    by_cases hl : cn = pn
    · subst hl
      have hl2 : p.length = C.length := by have := unhide HLC; have := unhide HLP; omega
      have RB := hide (unhide RB hl2)
      have RO := hide (unhide RO hl2)
      clear RN hl2
      go_wp2
      go_loopw [21, 6, 7] (fun i _ _ wr => Hid (Below W.heap.size W wr) ∧ ∃ k : Nat, k ≤ cn ∧ i = .int .i64 k ∧ ∀ j, j < k → ¬ (nth p j < 0 ∨ ((slAt C j).ln : Int) ≤ nth p j)) (fun i _ _ _ => cn - (intOf i).toNat)
      case atStart => exact ⟨HBa, 0, Nat.zero_le _, rfl, fun j hj => absurd hj (Nat.not_lt_zero _)⟩
      case round =>
        clear HBa w0 w1 HBX
        obtain ⟨HBr, k, hk, rfl, hall⟩ := hrel
        have HA := hide hall
        clear hall
        have w0 := (unhide HBX0 _ (unhide HBr)).1
        have w1 := (unhide HBX0 _ (unhide HBr)).2
        have HBX := hide (unhide HBT _ (unhide HBr))
        by_cases hlt : k < cn
        · obtain ⟨kb, ko, rfl, hkb, hcell⟩ := ((unhide HCW).later (unhide HBr)).cellAt (by omega)
          have hck := hcell k hlt
          clear hcell
          obtain ⟨la, ln, lc, ints, es, l1, l2, hI⟩ := (unhide HCW).part hlt
          rw [es] at hck
          simp only at hck
          clear hI
          obtain ⟨pb, po, rfl, hpb, hpc⟩ := ((unhide HPW).later (unhide HBr)).nth (by omega)
          have hpk := hpc k hlt
          clear hpc
          by_cases hb : nth p k < 0 ∨ (ln : Int) ≤ nth p k
          · have HR := hide (unhide RB k (by have := unhide HLP; omega) (by rw [es]; exact hb))
            clear es
            generalize nth p k = x at *
            by_cases hb1 : x < 0
            · have hd : decide (x < 0) = true := by simp [hb1]
              clear hb hb1
              go_wp2
              go_ret
              exact ⟨ret_int (unhide HR).symm, unhide HBX⟩
            · have hd : decide (x < 0) = false := by simp; omega
              have hd2 : decide ((ln : Int) ≤ x) = true := by simp; omega
              clear hb hb1
              go_wp2
              go_ret
              exact ⟨ret_int (unhide HR).symm, unhide HBX⟩
          · have HR : Hid (∀ j, j < k + 1 → ¬ (nth p j < 0 ∨ ((slAt C j).ln : Int) ≤ nth p j)) := fun j hj => by
              by_cases e : j = k
              · rw [e, es]; exact hb
              · exact unhide HA j (by omega)
            clear es
            generalize nth p k = x at *
            have hd : decide (x < 0) = false := by simp; omega
            have hd2 : decide ((ln : Int) ≤ x) = false := by simp; omega
            clear hb
            go_wp2
            go_roundw
            case rel => exact ⟨HBr, k + 1, by omega, by go_num, unhide HR⟩
            case measure => simp [intOf]; omega
        · obtain rfl : cn = k := by omega
          have HR := hide (unhide RO (fun j hj => unhide HA j (by have := unhide HLP; omega)))
          go_wp2
          go_ret
          exact ⟨ret_int (unhide HR).symm, unhide HBX⟩
    · have hd : ((pn : Int) == (cn : Int)) = false := by simp; omega
      have HR := hide (unhide RN (by have := unhide HLC; have := unhide HLP; omega))
      clear hl
      go_wp2
      go_ret
      exact ⟨ret_int (unhide HR).symm, unhide HBX⟩
  · have HR := hide (unhide RR hr)
    generalize rE C K = r at *
    have hd : (r == 0) = false := by simp [hr]
    clear hr
    go_wp2
    go_ret
    exact ⟨ret_int (unhide HR).symm, unhide HBX⟩
end Go.Proofs.Ytcannknicfnkdaa
