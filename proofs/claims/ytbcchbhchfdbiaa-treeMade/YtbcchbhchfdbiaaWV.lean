import Derived.Test.YtbcchbhchfdbiaaWU
namespace Go.Proofs.Ytbcchbhchfdbiaa
open Go.RowKit Go.Shelf
/-- Where TreeOf stands. -/
def TI (w : World) (P : Nat) (i nx : Value) (wr : World) : Prop :=
  Below w.heap.size w wr ∧ w.heap.size + 2 ≤ wr.heap.size ∧ wr.heap[w.heap.size]? = some (.cells #[.int .i64 0, .slice none 0 0] 24 (0, 0)) ∧
    ∃ (k : Nat) (v : Value) (L : List Nd), i = .int .i64 (k : Int) ∧ nx = .int .i64 (sK L k : Nat) ∧ sK L k ≤ 40 ∧ k ≤ sK L k ∧ TN P L k ∧ wr.heap[w.heap.size + 1]? = some (.cells #[.int .i64 (P : Int), v] 24 (0, 0)) ∧ RowN (w.heap.size + 2) wr v k L
/-- The node that is being made. -/
def NI (wq : World) (pl : Int) (wr : World) (vk vp : Value) : Prop :=
  Below wq.heap.size wq wr ∧ wr.heap[wq.heap.size]? = some (.cells #[.int .i64 pl, vk, vp] 51 (0, 0))
def kidL (nx j : Nat) : List Int := (List.range j).map (fun t => ((nx + t : Nat) : Int))
theorem kidL_succ (nx j : Nat) : kidL nx (j + 1) = kidL nx j ++ [((nx + j : Nat) : Int)] := by
  unfold kidL; rw [List.range_succ, List.map_append]; rfl
theorem kidL_at {nx j t : Nat} (h : t < j) : nth (kidL nx j) t = ((nx + t : Nat) : Int) := by
  unfold kidL nth; rw [List.getElem?_map, List.getElem?_range h]; rfl
theorem kidL_len (nx j : Nat) : (kidL nx j).length = j := by simp [kidL]
/-- A node more. -/
theorem ti_next {w wq wz w3 : World} {P i nx : Nat} {L : List Nd} {v v3 : Value} {d : Nd} {C : Obj} (hbr : Below w.heap.size w wq) (hsr : w.heap.size + 2 ≤ wq.heap.size) (hx0 : wq.heap[w.heap.size]? = some (.cells #[.int .i64 0, .slice none 0 0] 24 (0, 0)))
    (hx1 : wq.heap[w.heap.size + 1]? = some (.cells #[.int .i64 (P : Int), v] 24 (0, 0))) (hrow : RowN (w.heap.size + 2) wq v i L) (hTN : TN P L i) (hnx : sK L i = nx) (hlt : i < nx) (hbz : Below wq.heap.size wq wz) (hk : Own3 (w.heap.size + 2) wz d.k) (hp : Own3 (w.heap.size + 2) wz d.p) (hok : NOk P nx d) (h40 : nx + d.k.ln ≤ 40)
    (ho3 : w3.ownsRow (w.heap.size + 2) 51 3 v3 (i + 1) (flatN (L ++ [d]))) (hg3 : (wz.alloc C).grownBy w3 v.ownBlock) :
    w3.cell? ⟨w.heap.size + 1, 1, none⟩ = some v ∧ w3.frozen? ⟨w.heap.size + 1, 1, none⟩ = false ∧ w.heap.size + 1 < w3.heap.size ∧ TI w P (.int .i64 ((i : Int) + 1)) (.int .i64 ((nx + d.k.ln : Nat) : Int)) (w3.setCell ⟨w.heap.size + 1, 1, none⟩ v3) := by
  have hbA : Below wz.heap.size wz (wz.alloc C) := by go_grown
  have hbq : Below wq.heap.size wq (wz.alloc C) := hbz.trans (hbA.mono hbz.size)
  have hrz := hrow.later hbq
  have hsz := hbq.size
  have hb3 : Below (w.heap.size + 2) (wz.alloc C) w3 := (Below.refl _ _).grown hg3 (by omega) (fun q hq => (hrz.1.lt q hq).1)
  have hX1 := (hb3.block (w.heap.size + 1) (by omega)).trans ((hbq.block (w.heap.size + 1) (by omega)).trans hx1)
  have hX0 := (hb3.block w.heap.size (by omega)).trans ((hbq.block w.heap.size (by omega)).trans hx0)
  have hbw : Below w.heap.size w w3 := (hbr.trans (hbq.mono hbr.size)).trans (hb3.mono (by omega))
  have hn3 := hrz.next (hk.later hbA) (hp.later hbA) ho3 hg3
  obtain ⟨hT, hS⟩ := hTN.next (by rw [hnx]; exact hlt) (by rw [hnx]; exact hok)
  rw [hnx] at hS
  have hs3 := hb3.size
  refine ⟨by simpa using (cell_in' hX1 1).1, (cell_in' hX1 1).2, blk_lt hX1, hbw.setCell (p := ⟨w.heap.size + 1, 1, none⟩) (by show _ ≤ w.heap.size + 1; omega) _, by simp; omega, ?_, i + 1, v3, L ++ [d], by go_num, by rw [hS], by omega, by omega, hT, ?_, hn3.other (by omega)⟩
  · rw [Below.heap_setCell _ _ _ _ (by show _ ≠ w.heap.size + 1; omega)]; exact hX0
  · rw [heap_setCell_same _ _ _ _ _ _ hX1]; rfl
set_option maxRecDepth 100000 in
set_option maxHeartbeats 8000000 in
theorem treeOf_any (a : Option Addr) (rn c : Nat) (l : List Int) (P I : Nat) (w : World) (h : Ints w a rn c l) (hR : ∀ x ∈ l, InR x) (hrn : rn ≤ 256) (P1 : 1 ≤ P) (P5 : P ≤ 5) (hI : I ≤ 20) :
    Calls Try.prog 22 #[.slice a rn c, .int .i64 P, .int .i64 I] w fun e w' => ∃ ta n tc L, e = .returned (tV P ta n tc) ∧ Nodes w' ta n tc L ∧ BT P n L (sK L) ∧ Below w.heap.size w w' := by
  have CA : Hid (∀ W, Below w.heap.size w W → ∀ k, k ≤ 1000 → Calls Try.prog 44 #[.slice a rn c, .int .i64 (k : Nat)] W fun e w' => e = .returned (.int .i64 (atV l k)) ∧ w' = W) := fun W hW k hk => at_val a rn c l k W (h.later hW) hk hrn
  have CP : Hid (∀ W k N, 0 < N → N ≤ 3000 → Calls Try.prog 21 #[.int .i64 (atV l k), .int .i64 (N : Nat)] W fun e w' => e = .returned (.int .i64 (pkN (atV l k) N)) ∧ w' = W) := fun W k N h0 h1 => pick_val (atV l k) N (atV_in hR k) h0 h1 W
  have hA : Below w.heap.size w ((w.alloc (.cells #[.int .i64 0, .slice none 0 0] 24)).alloc (.cells #[.int .i64 (P : Int), .slice none 0 0] 24)) := by go_grown
  have hBx : ((w.alloc (.cells #[.int .i64 0, .slice none 0 0] 24)).alloc (.cells #[.int .i64 (P : Int), .slice none 0 0] 24)).heap[w.heap.size]? = some (.cells #[.int .i64 0, .slice none 0 0] 24 (0, 0)) := by
    rw [Below.heap_alloc _ _ _ (by simp)]; exact World.alloc_heap_new _ _
  have hsz1 : (w.alloc (.cells #[.int .i64 0, .slice none 0 0] 24)).heap.size = w.heap.size + 1 := by simp
  have hBy : ((w.alloc (.cells #[.int .i64 0, .slice none 0 0] 24)).alloc (.cells #[.int .i64 (P : Int), .slice none 0 0] 24)).heap[w.heap.size + 1]? = some (.cells #[.int .i64 (P : Int), .slice none 0 0] 24 (0, 0)) := by
    rw [← hsz1]; exact World.alloc_heap_new _ _
  have hsz0 : ((w.alloc (.cells #[.int .i64 0, .slice none 0 0] 24)).alloc (.cells #[.int .i64 (P : Int), .slice none 0 0] 24)).heap.size = w.heap.size + 2 := by simp
  have r1 := h.2.1
  have r2 := h.2.2.1
  unfold maxLen at r2
  clear h hR hsz1
  unfold tV
  go_enter Try.func22, Try.ntmps22
  go_wp2_with fail
  generalize (w.alloc (.cells #[.int .i64 0, .slice none 0 0] 24)).alloc (.cells #[.int .i64 (P : Int), .slice none 0 0] 24) = W0 at *
  have HA0 : Hid (TI w P (.int .i64 0) (.int .i64 1) W0) := ⟨hA, by omega, hBx, 0, .slice none 0 0, [], rfl, rfl, by decide, by decide, TN.nil P, hBy, World.ownsRow_nil _ _ _ _, fun s hs' => by cases hs'⟩
  clear hA hBx hBy hsz0
  go_loopw [9, 8, 10, 11, 12, 13, 14] (fun i nx _ _ _ _ _ wr => Hid (TI w P i nx wr)) (fun i _ _ _ _ _ _ _ => 40 - (intOf i).toNat)
  case atStart => exact HA0
  case round =>
    clear HA0
    obtain ⟨hbr, hsr, hx0, i, v, L, rfl, rfl, h40, hle, hTN, hx1, hrow⟩ := unhide hrel
    have HBR := hide hbr
    have HX0 := hide hx0
    have HX1 := hide hx1
    have HRW := hide hrow
    have HSR := hide hsr
    have HTN := hide hTN
    obtain ⟨nx, hnx⟩ : ∃ nx, sK L i = nx := ⟨_, rfl⟩
    have HNX := hide hnx
    rw [hnx] at h40 hle ⊢
    clear hrel hbr hx0 hrow hsr hTN hnx
    by_cases hlt : i < nx
    · have hbA : Below wr.heap.size wr (wr.alloc (.cells #[.int .i64 0, .slice none 0 0, .slice none 0 0] 51)) := by go_grown
      have hnA : (wr.alloc (.cells #[.int .i64 0, .slice none 0 0, .slice none 0 0] 51)).heap[wr.heap.size]? = some (.cells #[.int .i64 0, .slice none 0 0, .slice none 0 0] 51 (0, 0)) := World.alloc_heap_new _ _
      have hszA : (wr.alloc (.cells #[.int .i64 0, .slice none 0 0, .slice none 0 0] 51)).heap.size = wr.heap.size + 1 := by simp
      have hbwA : Below w.heap.size w (wr.alloc (.cells #[.int .i64 0, .slice none 0 0, .slice none 0 0] 51)) := (unhide HBR).trans (hbA.mono (unhide HBR).size)
      have C1 := unhide CA _ hbwA (3 * i) (by omega)
      have C2 := unhide CP (wr.alloc (.cells #[.int .i64 0, .slice none 0 0, .slice none 0 0] 51)) (3 * i) 3 (by omega) (by omega)
      have hpk := pkN_lt (atV l (3 * i)) (n := 3) (by omega)
      have e1 : ((3 * i : Nat) : Int) = 3 * (i : Int) := by simp
      rw [e1] at C1
      have w1 : wrap64 (3 * (i : Int)) = 3 * (i : Int) := wrap64_in _ (by omega) (by omega)
      have C1 := hide C1
      have C2 := hide C2
      have HPK := hide hpk
      have HNI : Hid (NI wr 0 (wr.alloc (.cells #[.int .i64 0, .slice none 0 0, .slice none 0 0] 51)) (.slice none 0 0) (.slice none 0 0)) := ⟨hbA, hnA⟩
      have HWA : Hid (∀ wz, Below wr.heap.size wr wz → Below w.heap.size w wz) := fun wz hz => (unhide HBR).trans (hz.mono (unhide HBR).size)
      by_cases hcase : i < I ∧ nx + (1 + pkN (atV l (3 * i)) 3) ≤ 40
      · obtain ⟨hc1, hc2⟩ := hcase
        have D1 := unhide CA _ hbwA (3 * i + 1) (by omega)
        have D2 := unhide CP (wr.alloc (.cells #[.int .i64 0, .slice none 0 0, .slice none 0 0] 51)) (3 * i + 1) P (by omega) (by omega)
        have hpl := pkN_lt (atV l (3 * i + 1)) (n := P) (by omega)
        have e2 : ((3 * i + 1 : Nat) : Int) = 3 * (i : Int) + 1 := by simp
        rw [e2] at D1
        have D1 := hide D1
        have D2 := hide D2
        generalize pkN (atV l (3 * i)) 3 = pv at *
        generalize atV l (3 * i) = av at *
        generalize pkN (atV l (3 * i + 1)) P = pl at *
        generalize atV l (3 * i + 1) = bv at *
        clear e1 e2 hbA hnA hbwA
        go_wp2_with fail
        refine (unhide C1).mono ?_
        rintro e w4 ⟨rfl, hw4⟩
        subst w4
        go_wp2_with fail
        refine (unhide C2).mono ?_
        rintro e w4 ⟨rfl, hw4⟩
        subst w4
        go_wp2_with fail
        refine (unhide D1).mono ?_
        rintro e w4 ⟨rfl, hw4⟩
        subst w4
        go_wp2_with fail
        refine (unhide D2).mono ?_
        rintro e w4 ⟨rfl, hw4⟩
        subst w4
        go_wp2_with fail
        have HNI2 : Hid (NI wr pl (wr.alloc (.cells #[.int .i64 (pl : Int), .slice none 0 0, .slice none 0 0] 51)) (.slice none 0 0) (.slice none 0 0)) := ⟨by go_grown, World.alloc_heap_new _ _⟩
        clear HNI C1 C2 D1 D2 hszA
        rename World => wq
        go_loopw [8, 12] (fun nv jv wr => ∃ j : Nat, j ≤ 1 + pv ∧ nv = .int .i64 ((nx + j : Nat) : Int) ∧ jv = .int .i64 (j : Int) ∧ Hid (∃ vk, NI wq pl wr vk (.slice none 0 0) ∧ wr.ownsRow (wq.heap.size + 1) 3 1 vk j (intVals (kidL nx j)))) (fun _ jv _ => 1 + pv - (intOf jv).toNat)
        case atStart => exact ⟨0, Nat.zero_le _, rfl, rfl, ⟨_, unhide HNI2, World.ownsRow_nil _ _ _ _⟩⟩
        case round =>
          clear HNI2
          obtain ⟨j, hj, rfl, rfl, HV⟩ := hrel
          obtain ⟨vk, hNI, hown⟩ := unhide HV
          by_cases hjl : j < 1 + pv
          · have hlt' : (j : Int) < 1 + (pv : Int) := by omega
            have hc1' := (cell_in' hNI.2 1).1
            simp at hc1'
            have hsz := blk_lt hNI.2
            have HO := hide hown
            have HNI3 := hide hNI
            have HST : Hid (∀ (v2 : Value) (w3 : World), w3.ownsRow (wq.heap.size + 1) 3 1 v2 (j + 1) (intVals (kidL nx j) ++ [.int .i64 ((nx + j : Nat) : Int)]) → (wr.alloc (.cells #[.int .i64 ((nx + j : Nat) : Int)] 3)).grownBy w3 vk.ownBlock → w3.cell? ⟨wq.heap.size, 1, none⟩ = some vk ∧ w3.frozen? ⟨wq.heap.size, 1, none⟩ = false ∧ wq.heap.size < w3.heap.size ∧ ∃ vk, NI wq pl (w3.setCell ⟨wq.heap.size, 1, none⟩ v2) vk (.slice none 0 0) ∧ (w3.setCell ⟨wq.heap.size, 1, none⟩ v2).ownsRow (wq.heap.size + 1) 3 1 vk (j + 1) (intVals (kidL nx (j + 1)))) := fun v2 w3 ho2 hg2 => by
              have hb3 : Below (wq.heap.size + 1) wr w3 := ((Below.refl _ wr).alloc (by omega) (.cells #[.int .i64 ((nx + j : Nat) : Int)] 3)).grown hg2 (by simp; omega) (fun q hq => (hown.lt q hq).1)
              have hB := (hb3.block wq.heap.size (by omega)).trans hNI.2
              refine ⟨by simpa using (cell_in' hB 1).1, (cell_in' hB 1).2, blk_lt hB, v2, ⟨(hNI.1.trans (hb3.mono (by omega))).setCell (p := ⟨wq.heap.size, 1, none⟩) (Nat.le_refl _) _, ?_⟩, ?_⟩
              · rw [heap_setCell_same _ _ _ _ _ _ hB]; rfl
              · rw [kidL_succ, intVals_append]
                exact ownsRow_setCell_below ho2 (a := ⟨wq.heap.size, 1, none⟩) (Nat.lt_succ_self _) _
            have hszr : wq.heap.size + 1 ≤ wr.heap.size := hsz
            clear hNI hown HV
            go_wp2_with (
              at_builtin
              refine wpList_append_int _ rfl _ _ rfl (wq.heap.size + 1) _ _ _ rfl ((unhide HO).alloc _) wr.heap.size ((nx + j : Nat) : Int) rfl (by simp) (by omega) (by simp; omega) ?_
              intro v2 w3 ho2 hg2
              obtain ⟨q1, q2, q3, q4⟩ := unhide HST v2 w3 ho2 hg2
              obtain ⟨g3, cap3, hv3e⟩ := own3_slice ho2 (Nat.succ_pos j)
              subst hv3e
              have HR3 := hide q4
              clear q4 ho2 hg2)
            exact ⟨⟨j + 1, by omega, by go_num, by go_num, HR3⟩, by simp [intOf]; omega⟩
          · obtain rfl : j = 1 + pv := by omega
            obtain ⟨ka, kc, hvk, hK3⟩ := own3_of (lo := w.heap.size + 2) hown (by omega) (by have := unhide HSR; omega)
            subst hvk
            have hOK : NOk P nx ⟨(pl : Int), ⟨ka, 1 + pv, kc, kidL nx (1 + pv)⟩, slNone⟩ := ⟨fun t ht => kidL_at ht, by show 1 + pv ≤ 3; have := unhide HPK; omega, (kidL_len _ _).symm, rfl, fun h0 => by exact absurd (show 1 + pv = 0 from h0) (by omega), fun _ => ⟨by show (0 : Int) ≤ (pl : Int); omega, by show (pl : Int) < (P : Int); omega, rfl⟩⟩
            have hP3 : Own3 (w.heap.size + 2) wr slNone := ⟨⟨rfl, Nat.le_refl _, by unfold maxLen; decide, .inl rfl⟩, .inl rfl, fun b o e => by cases e⟩
            have HST := hide (fun (w3 : World) (v3 : Value) ho3 hg3 => ti_next (w3 := w3) (v3 := v3) (C := .cells #[.int .i64 (pl : Int), .slice ka (1 + pv) kc, .slice none 0 0] 51) (unhide HBR) (unhide HSR) (unhide HX0) (unhide HX1) (unhide HRW) (unhide HTN) (unhide HNX) hlt hNI.1 (d := ⟨(pl : Int), ⟨ka, 1 + pv, kc, kidL nx (1 + pv)⟩, slNone⟩) hK3 hP3 hOK (by show nx + (1 + pv) ≤ 40; omega) ho3 hg3)
            have hbA : Below wr.heap.size wr (wr.alloc (.cells #[.int .i64 (pl : Int), .slice ka (1 + pv) kc, .slice none 0 0] 51)) := by go_grown
            have HOX := hide ((unhide HRW).later (hNI.1.trans (hbA.mono hNI.1.size))).1
            have hX1 := (hNI.1.block (w.heap.size + 1) (by have := unhide HSR; omega)).trans (unhide HX1)
            have x1 := (cell_in' hX1 1).1
            have y0 := (cell_in' hNI.2 0).1
            have y1 := (cell_in' hNI.2 1).1
            have y2 := (cell_in' hNI.2 2).1
            simp at x1 y0 y1 y2
            have hszr := hNI.1.size
            have hsr := unhide HSR
            have hne2 : ¬ w.heap.size + 1 = wr.heap.size := by omega
            have hlt2 : w.heap.size + 1 < wr.heap.size := by omega
            clear hX1 hNI hown hK3 hP3 hOK HV hbA
            go_wp2_with (
              at_builtin
              refine wpList_append_node _ rfl _ _ rfl (w.heap.size + 2) _ i L rfl (unhide HOX) wr.heap.size ⟨(pl : Int), ⟨ka, 1 + pv, kc, kidL nx (1 + pv)⟩, slNone⟩ rfl (by simp) (by simp) (by simp [slNone]) (by omega) (by simp; omega) ?_
              intro v3 w3 ho3 hg3
              obtain ⟨q1, q2, q3, q4⟩ := unhide HST w3 v3 ho3 hg3
              obtain ⟨g3, cap3, hv3e⟩ := ownN_slice ho3 (Nat.succ_pos i)
              subst hv3e
              have HR3 := hide q4
              clear q4 ho3 hg3)
            refine ⟨?_, by simp [intOf]; omega⟩
            rw [show ((nx : Int) + (1 + (pv : Int))) = ((nx + (1 + pv) : Nat) : Int) by omega]
            exact HR3
      · generalize pkN (atV l (3 * i)) 3 = pv at *
        generalize atV l (3 * i) = av at *
        clear e1 hbA hnA hbwA
        by_cases hc1 : i < I
        · have hc2 : ¬ nx + (1 + pv) ≤ 40 := fun q => hcase ⟨hc1, q⟩
          have hd : decide ((nx : Int) + (1 + (pv : Int)) ≤ 40) = false := by simp; omega
          clear hcase
          go_wp2_with fail
          refine (unhide C1).mono ?_
          rintro e w4 ⟨rfl, hw4⟩
          subst w4
          go_wp2_with fail
          refine (unhide C2).mono ?_
          rintro e w4 ⟨rfl, hw4⟩
          subst w4
          go_wp2_with fail
          have HNI2 := HNI
          clear HNI C1 C2 hszA
          rename World => wq
          go_loopw [13, 14] (fun jv _ wr => ∃ j : Nat, j ≤ P ∧ jv = .int .i64 (j : Int) ∧ Hid (∃ vp tl, NI wq 0 wr (.slice none 0 0) vp ∧ wr.ownsRow (wq.heap.size + 1) 3 1 vp j (intVals tl) ∧ ∀ x ∈ tl, -4 ≤ x ∧ x ≤ 4)) (fun jv _ _ => P - (intOf jv).toNat)
          case atStart => exact ⟨0, Nat.zero_le _, rfl, ⟨_, [], unhide HNI2, World.ownsRow_nil _ _ _ _, fun x hx => by cases hx⟩⟩
          case round =>
            clear HNI2
            obtain ⟨j, hj, rfl, HV⟩ := hrel
            obtain ⟨vp, tl, hNI, hown, htl⟩ := unhide HV
            by_cases hjl : j < P
            · have D1 := unhide CA wr (unhide HWA wr hNI.1) (3 * i + j) (by omega)
              have D2 := unhide CP wr (3 * i + j) 9 (by omega) (by omega)
              have hpx := pkN_lt (atV l (3 * i + j)) (n := 9) (by omega)
              have e2 : ((3 * i + j : Nat) : Int) = 3 * (i : Int) + (j : Int) := by simp
              rw [e2] at D1
              have D1 := hide D1
              have D2 := hide D2
              generalize pkN (atV l (3 * i + j)) 9 = px at *
              generalize atV l (3 * i + j) = bv at *
              have hc1' := (cell_in' hNI.2 2).1
              simp at hc1'
              have hsz := blk_lt hNI.2
              have HO := hide hown
              have HNI3 := hide hNI
              have HST : Hid (∀ (v2 : Value) (w3 : World), w3.ownsRow (wq.heap.size + 1) 3 1 v2 (j + 1) (intVals tl ++ [.int .i64 ((px : Int) - 4)]) → (wr.alloc (.cells #[.int .i64 ((px : Int) - 4)] 3)).grownBy w3 vp.ownBlock → w3.cell? ⟨wq.heap.size, 2, none⟩ = some vp ∧ w3.frozen? ⟨wq.heap.size, 2, none⟩ = false ∧ wq.heap.size < w3.heap.size ∧ ∃ vp tl, NI wq 0 (w3.setCell ⟨wq.heap.size, 2, none⟩ v2) (.slice none 0 0) vp ∧ (w3.setCell ⟨wq.heap.size, 2, none⟩ v2).ownsRow (wq.heap.size + 1) 3 1 vp (j + 1) (intVals tl) ∧ ∀ x ∈ tl, -4 ≤ x ∧ x ≤ 4) := fun v2 w3 ho2 hg2 => by
                have hb3 : Below (wq.heap.size + 1) wr w3 := ((Below.refl _ wr).alloc (by omega) (.cells #[.int .i64 ((px : Int) - 4)] 3)).grown hg2 (by simp; omega) (fun q hq => (hown.lt q hq).1)
                have hB := (hb3.block wq.heap.size (by omega)).trans hNI.2
                refine ⟨by simpa using (cell_in' hB 2).1, (cell_in' hB 2).2, blk_lt hB, v2, tl ++ [(px : Int) - 4], ⟨(hNI.1.trans (hb3.mono (by omega))).setCell (p := ⟨wq.heap.size, 2, none⟩) (Nat.le_refl _) _, ?_⟩, ?_, fun x hx => ?_⟩
                · rw [heap_setCell_same _ _ _ _ _ _ hB]; rfl
                · rw [intVals_append]
                  exact ownsRow_setCell_below ho2 (a := ⟨wq.heap.size, 2, none⟩) (Nat.lt_succ_self _) _
                · rcases List.mem_append.1 hx with h' | h'
                  · exact htl x h'
                  · rw [List.mem_singleton] at h'; omega
              have hszr : wq.heap.size + 1 ≤ wr.heap.size := hsz
              clear hNI hown HV e2 htl
              go_wp2_with fail
              refine (unhide D1).mono ?_
              rintro e w4 ⟨rfl, hw4⟩
              subst w4
              go_wp2_with fail
              refine (unhide D2).mono ?_
              rintro e w4 ⟨rfl, hw4⟩
              subst w4
              go_wp2_with (
                at_builtin
                refine wpList_append_int _ rfl _ _ rfl (wq.heap.size + 1) _ _ _ rfl ((unhide HO).alloc _) wr.heap.size ((px : Int) - 4) rfl (by simp) (by omega) (by simp; omega) ?_
                intro v2 w3 ho2 hg2
                obtain ⟨q1, q2, q3, q4⟩ := unhide HST v2 w3 ho2 hg2
                obtain ⟨g3, cap3, hv3e⟩ := own3_slice ho2 (Nat.succ_pos j)
                subst hv3e
                have HR3 := hide q4
                clear q4 ho2 hg2)
              exact ⟨⟨j + 1, by omega, by go_num, HR3⟩, by simp [intOf]; omega⟩
            · obtain rfl : j = P := by omega
              obtain ⟨ka, kc, hvk, hK3⟩ := own3_of (lo := w.heap.size + 2) hown (by omega) (by have := unhide HSR; omega)
              have hlen : j = tl.length := by have := hown.1; rw [intVals_len] at this; omega
              subst hvk
              have hOK : NOk j nx ⟨0, slNone, ⟨ka, j, kc, tl⟩⟩ := ⟨fun t ht => by exact absurd (show t < 0 from ht) (by omega), by show 0 ≤ 3; omega, rfl, hlen, fun _ => ⟨rfl, rfl, htl⟩, fun h0 => by exact absurd (show 0 < 0 from h0) (by omega)⟩
              have hP3 : Own3 (w.heap.size + 2) wr slNone := ⟨⟨rfl, Nat.le_refl _, by unfold maxLen; decide, .inl rfl⟩, .inl rfl, fun b o e => by cases e⟩
              have HST := hide (fun (w3 : World) (v3 : Value) ho3 hg3 => ti_next (w3 := w3) (v3 := v3) (C := .cells #[.int .i64 0, .slice none 0 0, .slice ka j kc] 51) (unhide HBR) (unhide HSR) (unhide HX0) (unhide HX1) (unhide HRW) (unhide HTN) (unhide HNX) hlt hNI.1 (d := ⟨0, slNone, ⟨ka, j, kc, tl⟩⟩) hP3 hK3 hOK (by show nx + 0 ≤ 40; omega) ho3 hg3)
              have hbA : Below wr.heap.size wr (wr.alloc (.cells #[.int .i64 0, .slice none 0 0, .slice ka j kc] 51)) := by go_grown
              have HOX := hide ((unhide HRW).later (hNI.1.trans (hbA.mono hNI.1.size))).1
              have hX1 := (hNI.1.block (w.heap.size + 1) (by have := unhide HSR; omega)).trans (unhide HX1)
              have x1 := (cell_in' hX1 1).1
              have y0 := (cell_in' hNI.2 0).1
              have y1 := (cell_in' hNI.2 1).1
              have y2 := (cell_in' hNI.2 2).1
              simp at x1 y0 y1 y2
              have hszr := hNI.1.size
              have hsr := unhide HSR
              have hne2 : ¬ w.heap.size + 1 = wr.heap.size := by omega
              have hlt2 : w.heap.size + 1 < wr.heap.size := by omega
              clear hX1 hNI hown hK3 hP3 hOK HV hbA htl hlen
              go_wp2_with (
                at_builtin
                refine wpList_append_node _ rfl _ _ rfl (w.heap.size + 2) _ i L rfl (unhide HOX) wr.heap.size ⟨0, slNone, ⟨ka, j, kc, tl⟩⟩ rfl (by simp) (by simp [slNone]) (by simp) (by omega) (by simp; omega) ?_
                intro v3 w3 ho3 hg3
                obtain ⟨q1, q2, q3, q4⟩ := unhide HST w3 v3 ho3 hg3
                obtain ⟨g3, cap3, hv3e⟩ := ownN_slice ho3 (Nat.succ_pos i)
                subst hv3e
                have HR3 := hide q4
                clear q4 ho3 hg3)
              exact ⟨HR3, by simp [intOf]; omega⟩
        · clear hcase
          have hd : decide ((i : Int) < (I : Int)) = false := by simp; omega
          go_wp2_with fail
          refine (unhide C1).mono ?_
          rintro e w4 ⟨rfl, hw4⟩
          subst w4
          go_wp2_with fail
          refine (unhide C2).mono ?_
          rintro e w4 ⟨rfl, hw4⟩
          subst w4
          go_wp2_with fail
          have HNI2 := HNI
          clear HNI C1 C2 hszA
          rename World => wq
          go_loopw [13, 14] (fun jv _ wr => ∃ j : Nat, j ≤ P ∧ jv = .int .i64 (j : Int) ∧ Hid (∃ vp tl, NI wq 0 wr (.slice none 0 0) vp ∧ wr.ownsRow (wq.heap.size + 1) 3 1 vp j (intVals tl) ∧ ∀ x ∈ tl, -4 ≤ x ∧ x ≤ 4)) (fun jv _ _ => P - (intOf jv).toNat)
          case atStart => exact ⟨0, Nat.zero_le _, rfl, ⟨_, [], unhide HNI2, World.ownsRow_nil _ _ _ _, fun x hx => by cases hx⟩⟩
          case round =>
            clear HNI2
            obtain ⟨j, hj, rfl, HV⟩ := hrel
            obtain ⟨vp, tl, hNI, hown, htl⟩ := unhide HV
            by_cases hjl : j < P
            · have D1 := unhide CA wr (unhide HWA wr hNI.1) (3 * i + j) (by omega)
              have D2 := unhide CP wr (3 * i + j) 9 (by omega) (by omega)
              have hpx := pkN_lt (atV l (3 * i + j)) (n := 9) (by omega)
              have e2 : ((3 * i + j : Nat) : Int) = 3 * (i : Int) + (j : Int) := by simp
              rw [e2] at D1
              have D1 := hide D1
              have D2 := hide D2
              generalize pkN (atV l (3 * i + j)) 9 = px at *
              generalize atV l (3 * i + j) = bv at *
              have hc1' := (cell_in' hNI.2 2).1
              simp at hc1'
              have hsz := blk_lt hNI.2
              have HO := hide hown
              have HNI3 := hide hNI
              have HST : Hid (∀ (v2 : Value) (w3 : World), w3.ownsRow (wq.heap.size + 1) 3 1 v2 (j + 1) (intVals tl ++ [.int .i64 ((px : Int) - 4)]) → (wr.alloc (.cells #[.int .i64 ((px : Int) - 4)] 3)).grownBy w3 vp.ownBlock → w3.cell? ⟨wq.heap.size, 2, none⟩ = some vp ∧ w3.frozen? ⟨wq.heap.size, 2, none⟩ = false ∧ wq.heap.size < w3.heap.size ∧ ∃ vp tl, NI wq 0 (w3.setCell ⟨wq.heap.size, 2, none⟩ v2) (.slice none 0 0) vp ∧ (w3.setCell ⟨wq.heap.size, 2, none⟩ v2).ownsRow (wq.heap.size + 1) 3 1 vp (j + 1) (intVals tl) ∧ ∀ x ∈ tl, -4 ≤ x ∧ x ≤ 4) := fun v2 w3 ho2 hg2 => by
                have hb3 : Below (wq.heap.size + 1) wr w3 := ((Below.refl _ wr).alloc (by omega) (.cells #[.int .i64 ((px : Int) - 4)] 3)).grown hg2 (by simp; omega) (fun q hq => (hown.lt q hq).1)
                have hB := (hb3.block wq.heap.size (by omega)).trans hNI.2
                refine ⟨by simpa using (cell_in' hB 2).1, (cell_in' hB 2).2, blk_lt hB, v2, tl ++ [(px : Int) - 4], ⟨(hNI.1.trans (hb3.mono (by omega))).setCell (p := ⟨wq.heap.size, 2, none⟩) (Nat.le_refl _) _, ?_⟩, ?_, fun x hx => ?_⟩
                · rw [heap_setCell_same _ _ _ _ _ _ hB]; rfl
                · rw [intVals_append]
                  exact ownsRow_setCell_below ho2 (a := ⟨wq.heap.size, 2, none⟩) (Nat.lt_succ_self _) _
                · rcases List.mem_append.1 hx with h' | h'
                  · exact htl x h'
                  · rw [List.mem_singleton] at h'; omega
              have hszr : wq.heap.size + 1 ≤ wr.heap.size := hsz
              clear hNI hown HV e2 htl
              go_wp2_with fail
              refine (unhide D1).mono ?_
              rintro e w4 ⟨rfl, hw4⟩
              subst w4
              go_wp2_with fail
              refine (unhide D2).mono ?_
              rintro e w4 ⟨rfl, hw4⟩
              subst w4
              go_wp2_with (
                at_builtin
                refine wpList_append_int _ rfl _ _ rfl (wq.heap.size + 1) _ _ _ rfl ((unhide HO).alloc _) wr.heap.size ((px : Int) - 4) rfl (by simp) (by omega) (by simp; omega) ?_
                intro v2 w3 ho2 hg2
                obtain ⟨q1, q2, q3, q4⟩ := unhide HST v2 w3 ho2 hg2
                obtain ⟨g3, cap3, hv3e⟩ := own3_slice ho2 (Nat.succ_pos j)
                subst hv3e
                have HR3 := hide q4
                clear q4 ho2 hg2)
              exact ⟨⟨j + 1, by omega, by go_num, HR3⟩, by simp [intOf]; omega⟩
            · obtain rfl : j = P := by omega
              obtain ⟨ka, kc, hvk, hK3⟩ := own3_of (lo := w.heap.size + 2) hown (by omega) (by have := unhide HSR; omega)
              have hlen : j = tl.length := by have := hown.1; rw [intVals_len] at this; omega
              subst hvk
              have hOK : NOk j nx ⟨0, slNone, ⟨ka, j, kc, tl⟩⟩ := ⟨fun t ht => by exact absurd (show t < 0 from ht) (by omega), by show 0 ≤ 3; omega, rfl, hlen, fun _ => ⟨rfl, rfl, htl⟩, fun h0 => by exact absurd (show 0 < 0 from h0) (by omega)⟩
              have hP3 : Own3 (w.heap.size + 2) wr slNone := ⟨⟨rfl, Nat.le_refl _, by unfold maxLen; decide, .inl rfl⟩, .inl rfl, fun b o e => by cases e⟩
              have HST := hide (fun (w3 : World) (v3 : Value) ho3 hg3 => ti_next (w3 := w3) (v3 := v3) (C := .cells #[.int .i64 0, .slice none 0 0, .slice ka j kc] 51) (unhide HBR) (unhide HSR) (unhide HX0) (unhide HX1) (unhide HRW) (unhide HTN) (unhide HNX) hlt hNI.1 (d := ⟨0, slNone, ⟨ka, j, kc, tl⟩⟩) hP3 hK3 hOK (by show nx + 0 ≤ 40; omega) ho3 hg3)
              have hbA : Below wr.heap.size wr (wr.alloc (.cells #[.int .i64 0, .slice none 0 0, .slice ka j kc] 51)) := by go_grown
              have HOX := hide ((unhide HRW).later (hNI.1.trans (hbA.mono hNI.1.size))).1
              have hX1 := (hNI.1.block (w.heap.size + 1) (by have := unhide HSR; omega)).trans (unhide HX1)
              have x1 := (cell_in' hX1 1).1
              have y0 := (cell_in' hNI.2 0).1
              have y1 := (cell_in' hNI.2 1).1
              have y2 := (cell_in' hNI.2 2).1
              simp at x1 y0 y1 y2
              have hszr := hNI.1.size
              have hsr := unhide HSR
              have hne2 : ¬ w.heap.size + 1 = wr.heap.size := by omega
              have hlt2 : w.heap.size + 1 < wr.heap.size := by omega
              clear hX1 hNI hown hK3 hP3 hOK HV hbA htl hlen
              go_wp2_with (
                at_builtin
                refine wpList_append_node _ rfl _ _ rfl (w.heap.size + 2) _ i L rfl (unhide HOX) wr.heap.size ⟨0, slNone, ⟨ka, j, kc, tl⟩⟩ rfl (by simp) (by simp [slNone]) (by simp) (by omega) (by simp; omega) ?_
                intro v3 w3 ho3 hg3
                obtain ⟨q1, q2, q3, q4⟩ := unhide HST w3 v3 ho3 hg3
                obtain ⟨g3, cap3, hv3e⟩ := ownN_slice ho3 (Nat.succ_pos i)
                subst hv3e
                have HR3 := hide q4
                clear q4 ho3 hg3)
              exact ⟨HR3, by simp [intOf]; omega⟩
    · obtain rfl : nx = i := by omega
      have hs1 : sK L nx = nx := unhide HNX
      have hi1 : 1 ≤ nx := by
        rcases Nat.eq_zero_or_pos nx with e | e
        · subst e; exact absurd hs1 (by show ¬ 1 = 0; omega)
        · exact e
      have hbt := (unhide HTN).bt P1 P5 hi1 h40 hs1
      obtain ⟨g3, cap3, hv3e⟩ := ownN_slice (unhide HRW).1 (by omega)
      subst hv3e
      obtain ⟨d0, g0⟩ := cell_in' hx1 0
      obtain ⟨d1, g1⟩ := cell_in' hx1 1
      obtain ⟨s0, t0⟩ := cell_in' (unhide HX0) 0
      obtain ⟨s1, t1⟩ := cell_in' (unhide HX0) 1
      simp at d0 d1 s0 s1
      have hsw := unhide HSR
      have HFX : Hid (∃ ta n tc L, Ending.returned (.agg #[.int .i64 (P : Int), .slice (some ⟨g3, 0, none⟩) nx cap3]) = .returned (.agg #[.int .i64 (P : Int), .slice ta n tc]) ∧ Nodes ((wr.setCell ⟨w.heap.size, 0, none⟩ (.int .i64 (P : Int))).setCell ⟨w.heap.size, 1, none⟩ (.slice (some ⟨g3, 0, none⟩) nx cap3)) ta n tc L ∧ BT P n L (sK L) ∧ Below w.heap.size w ((wr.setCell ⟨w.heap.size, 0, none⟩ (.int .i64 (P : Int))).setCell ⟨w.heap.size, 1, none⟩ (.slice (some ⟨g3, 0, none⟩) nx cap3))) := by
        have hRC := ((unhide HRW).other (g := w.heap.size) (o := 0) (u := .int .i64 (P : Int)) (by omega)).other (g := w.heap.size) (o := 1) (u := .slice (some ⟨g3, 0, none⟩) nx cap3) (by omega)
        obtain ⟨ca, cc, e1, hLC⟩ := hRC.nodes
        exact ⟨ca, nx, cc, L, by rw [e1], hLC, hbt, ((unhide HBR).setCell (p := ⟨w.heap.size, 0, none⟩) (Nat.le_refl _) _).setCell (p := ⟨w.heap.size, 1, none⟩) (Nat.le_refl _) _⟩
      have HY0 := HX0
      clear hx1 hsw hbt hs1
      go_wp2_with fail
      have hr : ((wr.setCell ⟨w.heap.size, 0, none⟩ (.int .i64 (P : Int))).setCell ⟨w.heap.size, 1, none⟩ (.slice (some ⟨g3, 0, none⟩) nx cap3)).heap[w.heap.size]? = some (.cells #[.int .i64 (P : Int), .slice (some ⟨g3, 0, none⟩) nx cap3] 24 (0, 0)) := by
        rw [heap_setCell_same _ _ _ _ _ _ (heap_setCell_same _ _ _ _ _ _ (unhide HY0))]; rfl
      (try simp only [Exit.inBlock, Exit.then])
      refine bodyPost_ret (results_cell_row rfl _ _ w.heap.size 24 _ (0, 0) _ rfl hr Try.underlying24 rfl (by show _ = some 2; kernel_rfl)) rfl ?_
      exact unhide HFX
end Go.Proofs.Ytbcchbhchfdbiaa
