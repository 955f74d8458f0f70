import Derived.Test.YtbcchbhchfdbiaaWA
import Derived.Test.YtbcchbhchfdbiaaWG2
import Derived.Test.YtbcchbhchfdbiaaWG8
namespace Go.Proofs.Ytbcchbhchfdbiaa
open Go.RowKit
set_option maxRecDepth 100000 in
set_option maxHeartbeats 2000000 in
/-- Two tables that are the same. -/
theorem sameLists_any (n : Nat) (a a' : Option Addr) (c c' : Nat) (L L' : List Sl) (w : World) (h : Lsts w a n c L) (h' : Lsts w a' n c' L') (hl : lists L = lists L') :
    Calls Try.prog 42 #[.slice a n c, .slice a' n c'] w fun e w' => e = .returned (.bool true) ∧ Below w.heap.size w w' := by
  have h1 := h.2.1
  have h2 := h.2.2.1
  have h3 := h'.2.1
  have h4 := h'.2.2.1
  unfold maxLen at h2 h4
  have HH := hide h
  have HH' := hide h'
  have HE : Hid (∀ i, i < n → (slAt L i).ints = (slAt L' i).ints) := fun i hi => by
    have e1 : i < L.length := by have := h.1; omega
    have e2 : i < L'.length := by have := h'.1; omega
    have : (lists L)[i]? = (lists L')[i]? := by rw [hl]
    unfold lists at this
    rw [List.getElem?_map, List.getElem?_map, List.getElem?_eq_getElem e1, List.getElem?_eq_getElem e2] at this
    unfold slAt
    rw [List.getElem?_eq_getElem e1, List.getElem?_eq_getElem e2]
    simpa using this
  clear h h' hl
  go_enter Try.func42, Try.ntmps42
  go_wp2_with fail
  go_loopw [5] (fun i wr => Below w.heap.size w wr ∧ ∃ k : Nat, k ≤ n ∧ i = .int .i64 k) (fun i _ => n - (intOf i).toNat)
  case atStart => exact ⟨Below.refl _ _, 0, Nat.zero_le _, rfl⟩
  case round =>
    obtain ⟨hbr, k, hk, rfl⟩ := hrel
    by_cases hlt : k < n
    · obtain ⟨b1, o1, e1, hb1, hc1⟩ := ((unhide HH).later hbr).cellAt (by omega)
      obtain ⟨b2, o2, e2, hb2, hc2⟩ := ((unhide HH').later hbr).cellAt (by omega)
      subst e1 e2
      have q1 := hc1 k hlt
      have q2 := hc2 k hlt
      have I1 := ((unhide HH).later hbr).mem hlt
      have I2 := ((unhide HH').later hbr).mem hlt
      have C1 := hide (fun d os => Calls.regrown_of (v := .bool true) (by
        have := sameInts_any _ _ _ _ _ _ _ _ (Sort.grow (redrawn wr d) os) (I1.later (below_regrown wr d os)) (I2.later (below_regrown wr d os))
        rw [decide_eq_true (unhide HE k hlt)] at this
        exact this))
      clear hc1 hc2 I1 I2
      generalize slAt L k = s1 at *
      generalize slAt L' k = s2 at *
      obtain ⟨sa, sn, sc, si⟩ := s1
      obtain ⟨ta, tn, tc, ti⟩ := s2
      simp only at q1 q2 C1
      have q1' := fun d os => cell_regrown q1 d os
      have q2' := fun d os => cell_regrown q2 d os
      go_wp2_with fail
      refine wp_region_quiet_below (by kernel_rfl) (by kernel_rfl) ?_
      iterate 10 (quiet_step (first | with_reducible exact unhide C1 _ _))
      refine wpQuiet_nil ?_
      intro _ hw'
      obtain ⟨⟨dq, osq⟩, hw''⟩ := hw'
      subst hw''
      have hbq := below_regrown wr dq osq
      go_wp2_with fail
      go_roundw
      case rel => exact ⟨hbr.trans (hbq.mono hbr.size), k + 1, by omega, by go_num⟩
      case measure => simp [intOf]; omega
    · obtain rfl : n = k := by omega
      go_wp2_with fail
      go_ret
      exact ⟨rfl, hbr⟩
end Go.Proofs.Ytbcchbhchfdbiaa
namespace Go.Proofs.Ytbcchbhchfdbiaa
open Go.RowKit
set_option maxRecDepth 100000 in
set_option maxHeartbeats 2000000 in
/-- What is not heavy is small. -/
theorem heavyTree_any (P : Int) (a : Option Addr) (n c : Nat) (L : List Nd) (w : World) (h : Nodes w a n c L) (hn : n ≤ 140737488351232) (hs : ∀ d ∈ L, d.k.ln ≤ 140737488351232 ∧ d.p.ln ≤ 140737488351232) :
    Calls Try.prog 6 #[tV P a n c] w fun e w' => ∃ hv : Bool, e = .returned (.bool hv) ∧ Below w.heap.size w w' ∧ (hv = false → n ≤ 500 ∧ ∀ i, i < n → (ndAt L i).k.ln ≤ 500 ∧ (ndAt L i).p.ln ≤ 500) := by
  have hc1 := h.2.1
  have hc2 := h.2.2.1
  unfold maxLen at hc2
  obtain ⟨W, hW, hbW, hlt0, hbox⟩ := tbox (w := w) P a n c
  have HW := hide hW
  have HBX := hide hbox
  have HBT := hide (fun (wr : World) (hb : Below W.heap.size W wr) => Below.trans hbW (hb.mono hbW.size))
  have w0 := (hbox W (Below.refl _ _)).1
  have w1 := (hbox W (Below.refl _ _)).2
  have HN := hide (h.later hbW)
  have HS : Hid (∀ i, i < n → (ndAt L i).k.ln ≤ 140737488351232 ∧ (ndAt L i).p.ln ≤ 140737488351232) := fun i hi => hs _ (ndAt_mem (by have := h.1; omega))
  clear h hW hbW hbox hlt0 hs
  unfold tV
  go_enter Try.func6, Try.ntmps6
  go_wp2_with fail
  rw [unhide HW]
  go_wp2_with fail
  clear w0 w1
  go_loopw [4, 3] (fun iv tv wr => Hid (Below W.heap.size W wr) ∧ ∃ i t : Nat, i ≤ n ∧ iv = .int .i64 (i : Int) ∧ tv = .int .i64 (t : Int) ∧ n ≤ t ∧ t ≤ 281474976703000 ∧ Hid (∀ j, j < i → (ndAt L j).k.ln ≤ t ∧ (ndAt L j).p.ln ≤ t)) (fun iv _ _ => n - (intOf iv).toNat)
  case atStart => exact ⟨Below.refl _ _, 0, n, Nat.zero_le _, rfl, rfl, Nat.le_refl _, by omega, fun j hj => by omega⟩
  case round =>
    obtain ⟨HBr, i, t, hi, rfl, rfl, hnt, htm, HA⟩ := hrel
    obtain ⟨x0, x1⟩ := unhide HBX wr (unhide HBr)
    by_cases hlt : i < n
    · by_cases hle : t ≤ 500
      · obtain ⟨b, off, rfl, hb, hcell⟩ := (unhide HN).cellAt (by omega)
        obtain ⟨c0, c1, c2⟩ := hcell wr (unhide HBr) i hlt
        have hM := ((unhide HN).later (unhide HBr)).mem hlt
        have k1 := hM.1.2.1
        have k2 := hM.1.2.2.1
        have p1 := hM.2.2.1
        have p2 := hM.2.2.2.1
        unfold maxLen at k2 p2
        obtain ⟨s1, s2⟩ := unhide HS i hlt
        have HE : Hid (∀ kn pn, kn = (ndAt L i).k.ln → pn = (ndAt L i).p.ln → ∀ j, j < i + 1 → (ndAt L j).k.ln ≤ t + kn + pn ∧ (ndAt L j).p.ln ≤ t + kn + pn) := fun kn pn e1 e2 j hj => by
          by_cases e : j = i
          · subst e
            omega
          · have := unhide HA j (by omega)
            omega
        clear hcell hM
        have HE' := unhide HE _ _ rfl rfl
        clear HE
        have HE := hide HE'
        clear HE'
        generalize hd : ndAt L i = d at c0 c1 c2 k1 k2 p1 p2 s1 s2
        rw [hd] at HE
        clear hd
        obtain ⟨pl, ⟨ka, kn, kc, kids⟩, ⟨pa, pn, pc, pay⟩⟩ := d
        simp only at c0 c1 c2 k1 k2 p1 p2 s1 s2 HE
        have hq1 : IntKind.i64.wrap ((t : Int) + (kn : Int)) = (t : Int) + (kn : Int) := wrap_in _ (by omega) (by omega)
        have hq2 : IntKind.i64.wrap ((t : Int) + (kn : Int) + (pn : Int)) = (t : Int) + (kn : Int) + (pn : Int) := wrap_in _ (by omega) (by omega)
        have x1' := fun d os => cell_regrown x1 d os
        have c1' := fun d os => cell_regrown c1 d os
        have c2' := fun d os => cell_regrown c2 d os
        go_wp2_with fail
        refine wp_region_quiet_below (by kernel_rfl) (by kernel_rfl) ?_
        iterate 18 (quiet_step (fail))
        refine wpQuiet_nil ?_
        intro _ hw'
        obtain ⟨⟨dq, osq⟩, hw''⟩ := hw'
        subst hw''
        have hbq := below_regrown wr dq osq
        go_wp2_with fail
        go_roundw
        case rel => exact ⟨(unhide HBr).trans (hbq.mono (unhide HBr).size), i + 1, t + kn + pn, by omega, by go_num, by go_num, by omega, by omega, HE⟩
        case measure => simp [intOf]; omega
      · have d1 : decide ((t : Int) ≤ 500) = false := by simp; omega
        have d2 : decide (500 < (t : Int)) = true := by simp; omega
        go_wp2_with fail
        go_ret
        exact ⟨true, rfl, unhide HBT _ (unhide HBr), fun e => by cases e⟩
    · have d0 : decide ((i : Int) < (n : Int)) = false := by simp; omega
      by_cases hle : t ≤ 500
      · have d2 : decide (500 < (t : Int)) = false := by simp; omega
        go_wp2_with fail
        go_ret
        refine ⟨false, rfl, unhide HBT _ (unhide HBr), fun _ => ⟨by omega, fun j hj => ?_⟩⟩
        have := unhide HA j (by omega)
        omega
      · have d2 : decide (500 < (t : Int)) = true := by simp; omega
        go_wp2_with fail
        go_ret
        exact ⟨true, rfl, unhide HBT _ (unhide HBr), fun e => by cases e⟩
end Go.Proofs.Ytbcchbhchfdbiaa
namespace Go.Proofs.Ytbcchbhchfdbiaa
open Go.RowKit
theorem plN_pos (L : List Nd) : ∀ i, 1 ≤ plN L i
  | 0 => Nat.le_refl _
  | i + 1 => Nat.mul_pos (plN_pos L i) (gW_pos i)
set_option maxRecDepth 100000 in
set_option maxHeartbeats 2000000 in
/-- How many plans there are: at most 256, if it says so. -/
theorem planned_any (P : Int) (a : Option Addr) (n c : Nat) (L : List Nd) (w : World) (h : Nodes w a n c L) (hs : ∀ i, i < n → (ndAt L i).k.ln ≤ 500) :
    Calls Try.prog 7 #[tV P a n c] w fun e w' => ∃ hv : Bool, e = .returned (.bool hv) ∧ Below w.heap.size w w' ∧ (hv = true → plN L n ≤ 256) := by
  have hc1 := h.2.1
  have hc2 := h.2.2.1
  unfold maxLen at hc2
  obtain ⟨W, hW, hbW, hlt0, hbox⟩ := tbox (w := w) P a n c
  have HW := hide hW
  have HBX := hide hbox
  have HBT := hide (fun (wr : World) (hb : Below W.heap.size W wr) => Below.trans hbW (hb.mono hbW.size))
  have w0 := (hbox W (Below.refl _ _)).1
  have w1 := (hbox W (Below.refl _ _)).2
  have HN := hide (h.later hbW)
  have HS := hide hs
  clear h hW hbW hbox hlt0 hs
  unfold tV
  go_enter Try.func7, Try.ntmps7
  go_wp2_with fail
  rw [unhide HW]
  go_wp2_with fail
  clear w0 w1
  go_loopw [4, 3] (fun iv tv wr => Hid (Below W.heap.size W wr) ∧ ∃ i t : Nat, i ≤ n ∧ iv = .int .i64 (i : Int) ∧ tv = .int .i64 (t : Int) ∧ t ≤ 128000 ∧ Hid (t = plN L i)) (fun iv _ _ => n - (intOf iv).toNat)
  case atStart => exact ⟨Below.refl _ _, 0, 1, Nat.zero_le _, rfl, rfl, by omega, rfl⟩
  case round =>
    obtain ⟨HBr, i, t, hi, rfl, rfl, htm, HA⟩ := hrel
    obtain ⟨x0, x1⟩ := unhide HBX wr (unhide HBr)
    by_cases hlt : i < n
    · by_cases hle : t ≤ 256
      · obtain ⟨b, off, rfl, hb, hcell⟩ := (unhide HN).cellAt (by omega)
        obtain ⟨c0, c1, c2⟩ := hcell wr (unhide HBr) i hlt
        have hM := ((unhide HN).later (unhide HBr)).mem hlt
        have k1 := hM.1.2.1
        have k2 := hM.1.2.2.1
        unfold maxLen at k2
        have s1 := unhide HS i hlt
        have HE : Hid (t * gW L i = plN L (i + 1)) := by rw [unhide HA]; rfl
        unfold gW at HE
        clear hcell hM
        generalize hd : ndAt L i = d at c0 c1 c2 k1 k2 s1 HE
        clear hd
        obtain ⟨pl, ⟨ka, kn, kc, kids⟩, ⟨pa, pn, pc, pay⟩⟩ := d
        simp only at c0 c1 c2 k1 k2 s1 HE
        by_cases hk : 0 < kn
        · have d3 : decide (0 < (kn : Int)) = true := by simp; omega
          have HE2 : Hid (t * kn = plN L (i + 1)) := by have := unhide HE; rwa [if_pos hk] at this
          have hm1 : t * kn ≤ 256 * 500 := Nat.mul_le_mul hle s1
          have hm2 : IntKind.i64.wrap ((t : Int) * (kn : Int)) = ((t * kn : Nat) : Int) := by rw [← Int.natCast_mul]; exact wrap_in _ (by omega) (by omega)
          obtain ⟨m, hm⟩ : ∃ m, m = t * kn := ⟨_, rfl⟩
          rw [← hm] at hm1 hm2
          rw [← hm] at HE2
          clear hm
          clear HE
          go_wp2_with fail
          go_roundw
          case rel => exact ⟨HBr, i + 1, m, by omega, by go_num, rfl, by omega, HE2⟩
          case measure => simp [intOf]; omega
        · have d3 : decide (0 < (kn : Int)) = false := by simp; omega
          have HE2 : Hid (t = plN L (i + 1)) := by have := unhide HE; rwa [if_neg hk, Nat.mul_one] at this
          clear HE
          go_wp2_with fail
          go_roundw
          case rel => exact ⟨HBr, i + 1, t, by omega, by go_num, rfl, by omega, HE2⟩
          case measure => simp [intOf]; omega
      · have d1 : decide ((t : Int) ≤ 256) = false := by simp; omega
        go_wp2_with fail
        go_ret
        exact ⟨false, rfl, unhide HBT _ (unhide HBr), fun e => by cases e⟩
    · have d0 : decide ((i : Int) < (n : Int)) = false := by simp; omega
      obtain rfl : i = n := by omega
      by_cases hle : t ≤ 256
      · have d2 : decide ((t : Int) ≤ 256) = true := by simp; omega
        go_wp2_with fail
        go_ret
        exact ⟨true, rfl, unhide HBT _ (unhide HBr), fun _ => by rw [← unhide HA]; exact hle⟩
      · have d2 : decide ((t : Int) ≤ 256) = false := by simp; omega
        go_wp2_with fail
        go_ret
        exact ⟨false, rfl, unhide HBT _ (unhide HBr), fun e => by cases e⟩
end Go.Proofs.Ytbcchbhchfdbiaa
