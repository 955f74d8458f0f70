import Derived.Test.YtcannknicfnkdaaE
import Derived.Test.YtcannknicfnkdaaP
namespace Go.Proofs.Ytcannknicfnkdaa
open Go.RowKit
/-- Roads that may be. -/
structure Rds (C K : List Sl) (n m : Nat) : Prop where
  lC : C.length = n
  lK : K.length = m
  n1 : 1 ≤ n
  n5 : n ≤ 5
  m6 : m ≤ 6
  kl : ∀ e, e < m → (slAt K e).ln = n
  ok : OkK n m K
  cl : ∀ i, i < n → 1 ≤ (slAt C i).ln ∧ (slAt C i).ln ≤ 5
  cb : ∀ i, i < n → ∀ k, k < (slAt C i).ln → 0 ≤ nth (slAt C i).ints k ∧ nth (slAt C i).ints k < (2 : Int) ^ m
theorem kE_all {n : Nat} : ∀ {L : List Sl}, kE n L = 0 → ∀ s ∈ L, s.ln = n ∧ s.ints.any badK = false
  | [], _, s, h => by cases h
  | s :: t, h, x, hx => by
    unfold kE at h
    by_cases h1 : s.ln = n
    · rw [if_pos h1] at h
      cases hb : s.ints.any badK with
      | true => rw [hb, if_pos rfl] at h; cases h
      | false =>
        rw [hb, if_neg (by decide)] at h
        rcases List.mem_cons.1 hx with e | e
        · rw [e]; exact ⟨h1, hb⟩
        · exact kE_all h x e
    · rw [if_neg h1] at h; cases h
theorem cE_all {m : Nat} : ∀ {L : List Sl}, cE m L = 0 → ∀ s ∈ L, ¬ (s.ln < 1 ∨ 5 < s.ln) ∧ s.ints.any (badC m) = false
  | [], _, s, h => by cases h
  | s :: t, h, x, hx => by
    unfold cE at h
    by_cases h1 : s.ln < 1 ∨ 5 < s.ln
    · rw [if_pos h1] at h; cases h
    · rw [if_neg h1] at h
      cases hb : s.ints.any (badC m) with
      | true => rw [hb, if_pos rfl] at h; cases h
      | false =>
        rw [hb, if_neg (by decide)] at h
        rcases List.mem_cons.1 hx with e | e
        · rw [e]; exact ⟨h1, hb⟩
        · exact cE_all h x e
theorem any_at {p : Int → Bool} {l : List Int} (h : l.any p = false) {k : Nat} (hk : k < l.length) : p (nth l k) = false := by
  rw [List.any_eq_false] at h
  have := h l[k] (List.getElem_mem hk)
  unfold nth
  rw [List.getElem?_eq_getElem hk]
  simpa using this
theorem rds_of {C K : List Sl} (hC : ∀ s ∈ C, s.ln = s.ints.length) (hK : ∀ s ∈ K, s.ln = s.ints.length) (h : rE C K = 0) : Rds C K C.length K.length := by
  unfold rE at h
  by_cases h1 : C.length < 1 ∨ 5 < C.length ∨ 6 < K.length
  · rw [if_pos h1] at h; cases h
  · rw [if_neg h1] at h
    by_cases h2 : kE C.length K = 0
    · rw [if_pos h2] at h
      have hk := kE_all h2
      have hc := cE_all h
      refine ⟨rfl, rfl, by omega, by omega, by omega, fun e he => (hk _ (slAt_mem he)).1, fun e he k hk' => ?_, fun i hi => ?_, fun i hi k hk' => ?_⟩
      · have a := hk _ (slAt_mem he)
        have b := any_at a.2 (k := k) (by rw [← hK _ (slAt_mem he), a.1]; exact hk')
        unfold badK at b
        unfold co
        simp at b
        omega
      · have := (hc _ (slAt_mem hi)).1
        omega
      · have a := hc _ (slAt_mem hi)
        have b := any_at a.2 (k := k) (by rw [← hC _ (slAt_mem hi)]; exact hk')
        unfold badC at b
        simp at b
        exact ⟨by omega, by omega⟩
    · rw [if_neg h2] at h; exact absurd h h2
theorem aE_zero {C K : List Sl} {p : List Int} (h : aE C K p = 0) : rE C K = 0 ∧ OkP C C.length p := by
  by_cases h1 : rE C K = 0
  · refine ⟨h1, ?_⟩
    by_cases h2 : p.length = C.length
    · refine ⟨h2, fun i hi => ?_⟩
      by_cases h3 : nth p i < 0 ∨ ((slAt C i).ln : Int) ≤ nth p i
      · rw [aE_b h1 h2 i (by omega) h3] at h; cases h
      · omega
    · rw [aE_n h1 h2] at h; cases h
  · rw [aE_r h1] at h; exact absurd h h1
theorem Lsts.lens {w : World} {a : Option Addr} {n c : Nat} {L : List Sl} (h : Lsts w a n c L) : ∀ s ∈ L, s.ln = s.ints.length := fun s hs => (h.2.2.2.1 s hs).1
/-- A set of roads that is chosen. -/
theorem Rds.cv {C K : List Sl} {n m : Nat} (h : Rds C K n m) {p : List Int} (hp : OkP C n p) {i : Nat} (hi : i < n) : 0 ≤ cv C i (nth p i) ∧ cv C i (nth p i) < 64 := by
  have h1 := hp.2 i hi
  have h2 := h.cb i hi (nth p i).toNat (by omega)
  have h3 := pow6 h.m6
  unfold Proofs.Ytcannknicfnkdaa.cv
  omega
theorem and_tab : ∀ Y : Fin 64, bits BinOp.and IntKind.i64 ((Y.val : Nat) : Int) 1 = ((Y.val % 2 : Nat) : Int) := by decide
theorem and1 {x : Int} (h0 : 0 ≤ x) (h1 : x < 64) (j : Nat) : bits BinOp.and IntKind.i64 (x / 2 ^ j) 1 = (bt x j : Int) := by
  obtain ⟨X, rfl⟩ : ∃ X : Nat, x = X := ⟨x.toNat, by omega⟩
  have h2 : X / 2 ^ j < 64 := Nat.lt_of_le_of_lt (Nat.div_le_self _ _) (by omega)
  have e : ((X : Int) / 2 ^ j) = ((X / 2 ^ j : Nat) : Int) := by simp
  rw [e]
  exact and_tab ⟨X / 2 ^ j, h2⟩
/-- How many take each road, as taken counts it. -/
def tkF (C : List Sl) (p : List Int) (i j e : Nat) : Int := if e < j then (us C p e (i + 1) : Int) else (us C p e i : Int)
set_option maxRecDepth 100000 in
set_option maxHeartbeats 4000000 in
theorem taken_any (ca : Option Addr) (n cc : Nat) (C : List Sl) (ka : Option Addr) (m kc : Nat) (K : List Sl) (pa : Option Addr) (pc : Nat) (p : List Int) (w : World) (hC : Lsts w ca n cc C) (hK : Lsts w ka m kc K) (hp : Ints w pa n pc p) (hR : Rds C K n m) (hO : OkP C n p) :
    Calls Try.prog 24 #[rV ca n cc ka m kc, .slice pa n pc] w fun e w' => ∃ g, e = .returned (.slice (some ⟨g, 0, none⟩) m m) ∧ Ints w' (some ⟨g, 0, none⟩) m m (lF m (fun e => (us C p e n : Int))) ∧ Below w.heap.size w w' := by
  obtain ⟨i3, hi3, hz0, hz1, hz2⟩ := info_parts info3
  have hc1 := hC.2.1
  have hc2 := hC.2.2.1
  have hk1 := hK.2.1
  have hk2 := hK.2.2.1
  have hp1 := hp.2.1
  have hp2 := hp.2.2.1
  unfold maxLen at hc2 hk2 hp2
  have n1 := hR.n1
  have n5 := hR.n5
  have m6 := hR.m6
  obtain ⟨W, hW, hbW, hlt0, hbox⟩ := box_cells (w := w) ca n cc ka m kc
  have HW := hide hW
  have HBX0 := hide hbox
  have HBT := hide (fun (wr : World) (hb : Below W.heap.size W wr) => Below.trans hbW (hb.mono hbW.size))
  have w0 := (hbox W (Below.refl _ _)).1
  have w1 := (hbox W (Below.refl _ _)).2
  have HCW := hide (hC.later hbW)
  have HPW := hide (hp.later hbW)
  have HR := hide hR
  have HO := hide hO
  clear hC hK hp hW hbW hbox hlt0 hR hO
  unfold rV
  go_enter Try.func24, Try.ntmps24
  go_wp2_with (at_make; rw [unhide HW]; refine wpList_make_full _ rfl _ _ 25 rfl W.heap.size 3 i3 _ 1 Try.underlying25 hi3 hz0 hz1 .i64 .i64 _ _ m rfl rfl rfl rfl (by rw [hz2]; omega) (by unfold maxLen; omega) (Nat.le_refl _) ?_; intro w2 ho2 hg2)
  have HB2 : Hid (Below W.heap.size W w2) := (Below.refl W.heap.size W).grown hg2 (Nat.le_refl _) (fun k hk => by cases hk)
  have HRW2 : Hid (Row W.heap.size w2 (some ⟨W.heap.size, 0, none⟩) m (tkF C p 0 0)) := (row_made ho2).same (fun j hj => by unfold tkF; rw [if_neg (by omega)]; rfl)
  clear ho2 hg2 w0 w1
  obtain ⟨B, hB⟩ : ∃ B, B = W.heap.size := ⟨_, rfl⟩
  rw [← hB] at HB2 HRW2 HBX0 HBT
  rw [← hB]
  have HBB := hide hB
  clear hB
  go_loopw [15, 6, 7, 8] (fun i _ _ _ wr => Hid (Below B W wr) ∧ ∃ k : Nat, k ≤ n ∧ i = .int .i64 k ∧ Hid (Row B wr (some ⟨B, 0, none⟩) m (tkF C p k 0))) (fun i _ _ _ _ => n - (intOf i).toNat)
  case atStart => exact ⟨HB2, 0, Nat.zero_le _, rfl, HRW2⟩
  case round =>
    clear HB2 HRW2
    obtain ⟨HBr, i, hi, rfl, HRr⟩ := hrel
    by_cases hlt : i < n
    · obtain ⟨pb, po, rfl, hpb, hpc⟩ := (unhide HPW).nth (by omega)
      have hpk := ((unhide HBr).cell (p := ⟨pb, po + i, none⟩) (by rw [unhide HBB]; exact hpb)).trans (hpc i hlt)
      have hO1 := (unhide HO).2 i hlt
      have hCV := (unhide HR).cv (unhide HO) hlt
      unfold cv at hCV
      obtain ⟨cb', co', rfl, hcb, hcc⟩ := (unhide HCW).cellAt (by omega)
      have HCK : Hid (∀ (wr : World), Below B W wr → wr.cell? ⟨cb', co' + i, none⟩ = some (.slice (slAt C i).la (slAt C i).ln (slAt C i).lc)) := fun wr hb => (hb.cell (p := ⟨cb', co' + i, none⟩) (by rw [unhide HBB]; exact hcb)).trans (hcc i hlt)
      have hI := (unhide HCW).mem hlt
      have hl1 := hI.2.1
      have hl2 := hI.2.2.1
      unfold maxLen at hl2
      obtain ⟨t, ht⟩ : ∃ t : Nat, nth p i = t := ⟨(nth p i).toNat, by omega⟩
      rw [ht] at hpk hO1 hCV
      have htl : t < (slAt C i).ln := by omega
      obtain ⟨ib, io, eib, hib, hic⟩ := hI.nth (by omega)
      have HIC : Hid (∀ (wr : World), Below B W wr → wr.cell? ⟨ib, io + t, none⟩ = some (.int .i64 (nth (slAt C i).ints t))) := fun wr hb => (hb.cell (p := ⟨ib, io + t, none⟩) (by rw [unhide HBB]; exact hib)).trans (hic t htl)
      have HUS : Hid (∀ e, (us C p e (i + 1) : Int) = us C p e i + bt (nth (slAt C i).ints t) e) := fun e => by
        show ((us C p e i + bt (cv C i (nth p i)) e : Nat) : Int) = _
        unfold cv
        rw [ht]
        simp
      have HUL : Hid (∀ e, us C p e i ≤ i) := fun e => us_le C p e i
      rw [eib] at HCK
      simp only [Int.toNat_natCast] at hCV
      clear hI hic hcc hpc eib hO1 ht
      generalize slAt C i = S at *
      obtain ⟨la, ln, lc, ints⟩ := S
      simp only at HCK HIC hCV HUS hl1 hl2 htl
      generalize nth ints t = x at *
      go_wp2
      go_loopw [22, 8] (fun i' _ wr => Hid (Below B W wr) ∧ ∃ j : Nat, j ≤ m ∧ i' = .int .i64 j ∧ Hid (Row B wr (some ⟨B, 0, none⟩) m (tkF C p i j))) (fun i' _ _ => m - (intOf i').toNat)
      case atStart => exact ⟨HBr, 0, Nat.zero_le _, rfl, HRr⟩
      case round =>
        clear HBr HRr hpk
        obtain ⟨HBr, j, hj, rfl, HRr⟩ := hrel
        by_cases hjl : j < m
        · have w0 := (unhide HBX0 _ (unhide HBr)).1
          have hck := unhide HCK _ (unhide HBr)
          have hx := unhide HIC _ (unhide HBr)
          obtain ⟨r1, r2, r3, -⟩ := (unhide HRr).at hjl
          have hul := unhide HUL j
          have r0 : tkF C p i j j = us C p j i := by unfold tkF; rw [if_neg (by omega)]
          rw [r0] at r1
          clear r0
          obtain ⟨u, hu⟩ : ∃ u, u = us C p j i := ⟨_, rfl⟩
          rw [← hu] at r1 hul
          have HUE := hide hu
          clear hu
          go_wp2_with fail
          refine wp_region_still_tail 17 (by kernel_rfl) (by kernel_rfl) ?_
          simp only [List.take_succ_cons, List.take_zero, List.drop_succ_cons, List.drop_zero]
          show wpStill Try.prog _ wr.drew (fun a' => wpList Try.prog _ _ _ a' wr.drew) _ _
          repeat still_step
          refine wpStill_nil ?_
          rw [and1 hCV.1 hCV.2]
          have hbt := bt_le x j
          have ew : IntKind.i64.wrap ((u : Int) + (bt x j : Int)) = (u : Int) + (bt x j : Int) := by rw [IntKind.wrap_i64]; omega
          rw [ew]
          clear ew
          have HF : Hid (Row B (wr.setCell ⟨B, j, none⟩ (.int .i64 ((u : Int) + (bt x j : Int)))) (some ⟨B, 0, none⟩) m (tkF C p i (j + 1))) := (unhide HRr).set hjl (fun e he hne => by
            unfold tkF
            by_cases q : e < j
            · rw [if_pos q, if_pos (by omega)]
            · rw [if_neg q, if_neg (by omega)]) (by unfold tkF; rw [if_pos (by omega), unhide HUS, ← unhide HUE])
          go_wp2_with fail
          go_roundw
          case rel => exact ⟨((unhide HBr).setCell (p := ⟨B, j, none⟩) (Nat.le_refl _) _).trans (Below.refl _ _).drew, j + 1, by omega, by go_num, (unhide HF).later (Below.refl _ _).drew⟩
          case measure => simp [intOf]; omega
        · obtain rfl : m = j := by omega
          have HF : Hid (Row B wr (some ⟨B, 0, none⟩) m (tkF C p (i + 1) 0)) := (unhide HRr).same (fun e he => by unfold tkF; rw [if_pos he, if_neg (by omega)])
          go_wp2
          go_roundw
          case rel => exact ⟨HBr, i + 1, by omega, by go_num, HF⟩
          case measure => simp [intOf]; omega
    · obtain rfl : n = i := by omega
      have HF := hide ((unhide HRr).ints (cap := m) (l := lF m (fun e => (us C p e n : Int))) (by rw [lF_len]) (Nat.le_refl _) (by unfold maxLen; omega) (fun e he => by
        show _ = nth _ _
        rw [lF_at he]
        unfold tkF
        rw [if_neg (by omega)]))
      have HBX := hide (unhide HBT _ (unhide HBr))
      go_wp2
      go_ret
      exact ⟨B, rfl, unhide HF, unhide HBX⟩
end Go.Proofs.Ytcannknicfnkdaa
