import Derived.Test.YtaaikaeknealkaaO
namespace Go.Proofs.Ytaaikaeknealkaa
open Go.RowKit
theorem sB_step (o : Nat → Int) (i : Int) (k : Nat) : sB o i (k + 1) = sB o i k + (if o k = i then 2 ^ k else 0) := by
  unfold sB
  rw [bs]
  congr 1
  by_cases h : o k = i
  · rw [if_pos h, if_pos (decide_eq_true h)]
  · rw [if_neg h, if_neg (by simp [h])]
theorem val_take : ∀ (ws : List (Nat → Int)) (l : List Int) (k : Nat), ws.length = l.length → k < ws.length → val (ws.take (k + 1)) (l.take (k + 1)) = val (ws.take k) (l.take k) + (ws[k]?.getD (fun _ => 0)) (nth l k).toNat := by
  intro ws
  induction ws with
  | nil => intro l k _ hk; simp at hk
  | cons w ws ih =>
    intro l k hl hk
    cases l with
    | nil => simp at hl
    | cons s l =>
      cases k with
      | zero => simp [val, nth]
      | succ k =>
        have := ih l k (by simpa using hl) (by simpa using hk)
        rw [List.take_succ_cons, List.take_succ_cons, List.take_succ_cons, List.take_succ_cons, val, val, this]
        have e1 : (w :: ws)[k + 1]? = ws[k]? := rfl
        have e2 : nth (s :: l) (k + 1) = nth l k := rfl
        rw [e1, e2]
        omega
theorem fs_at {L : List Sl} {k : Nat} (h : k < L.length) : (fs L)[k]?.getD (fun _ => 0) = nth (slAt L k).ints := by
  unfold fs slAt
  rw [List.getElem?_map, List.getElem?_eq_getElem h]
  rfl
def GivP (n : Nat) (p : Int × List Int) (w : World) (e : Ending) (w' : World) : Prop := ∃ sa sc, e = .returned (.tuple #[.slice sa n sc, .int .i64 p.1]) ∧ Ints w' sa n sc p.2 ∧ Below w.heap.size w w'
set_option maxRecDepth 100000 in
set_option maxHeartbeats 4000000 in
theorem leaf_any (it : Nat) (hit : it ≤ 4) (but : Int) (L : List Sl) (a : Option Addr) (n c : Nat) (who : List Int) (wa : Option Addr) (wc : Nat) (w : World) (h : Lsts w a n c L) (hn1 : 1 ≤ n) (hn4 : n ≤ 4) (hk : Lok (2 ^ it) L) (hw : Ints w wa it wc who) (hr : ∀ x ∈ who, -1 ≤ x ∧ x < (n : Int)) :
    Calls Try.prog 16 #[bidV it a n c, .slice wa it wc, .int .i64 but] w (GivP n (leaf (fs L) it who) w) := by
  unfold bidV
  have hl : n = L.length := h.1
  have hfl : (fs L).length = n := by rw [hl]; simp [fs]
  have hwl : it = who.length := hw.1
  have h1 := h.2.1
  have h2 := h.2.2.1
  have h3 := hw.2.1
  have h4 := hw.2.2.1
  unfold maxLen at h2 h4
  have hA : Below w.heap.size w (w.alloc (.cells #[.int .i64 (it : Int), .slice a n c] 24)) := by go_grown
  have hBx : (w.alloc (.cells #[.int .i64 (it : Int), .slice a n c] 24)).heap[w.heap.size]? = some (.cells #[.int .i64 (it : Int), .slice a n c] 24 (0, 0)) := heap_alloc_new _ _
  have HL : Hid (∀ W, Below w.heap.size w W → Lsts W a n c L) := fun W hW => h.later hW
  have HW : Hid (∀ W, Below w.heap.size w W → Ints W wa it wc who) := fun W hW => hw.later hW
  have HRG : Hid (∀ k, k < it → -1 ≤ oL who k ∧ oL who k < (n : Int)) := fun k hk' => hr _ (oL_mem (by omega))
  have HON : Hid (∀ k, k < it → nth who k = oL who k) := fun k hk' => by unfold nth oL; rw [List.getElem?_eq_getElem (by omega)]; rfl
  have HLK := hide hk
  have HF : Hid (∀ w' sa sc, Below w.heap.size w w' → Ints w' sa n sc (setsL (oL who) n it) → GivP n (leaf (fs L) it who) w (.returned (.tuple #[.slice sa n sc, .int .i64 (val (fs L) (setsL (oL who) n it))])) w') := fun w' sa sc q1 q2 => by
    have e : leaf (fs L) it who = (val (fs L) (setsL (oL who) n it), setsL (oL who) n it) := by unfold leaf; rw [hfl]
    rw [e]
    exact ⟨sa, sc, rfl, q2, q1⟩
  have HVT : Hid (∀ k, k < n → val ((fs L).take (k + 1)) ((setsL (oL who) n it).take (k + 1)) = val ((fs L).take k) ((setsL (oL who) n it).take k) + nth (slAt L k).ints (sB (oL who) (k : Int) it)) := fun k hk' => by
    rw [val_take _ _ k (by rw [hfl]; simp [setsL]) (by omega), fs_at (by omega), setsL_at hk', Int.toNat_natCast]
  have HVN : Hid (∀ k, 0 ≤ val ((fs L).take k) ((setsL (oL who) n it).take k) ∧ val ((fs L).take k) ((setsL (oL who) n it).take k) ≤ 4000) := fun k => by
    have := val_nn (m := 2 ^ it) ((fs L).take k) ((setsL (oL who) n it).take k) (fun v hv => hk.wok v (List.mem_of_mem_take hv)) (fun x hx => setsL_rng x (List.mem_of_mem_take hx))
    have hl2 : ((fs L).take k).length ≤ 4 := by rw [List.length_take]; omega
    omega
  have HVE : Hid (val ((fs L).take n) ((setsL (oL who) n it).take n) = val (fs L) (setsL (oL who) n it)) := by
    show _ = _
    rw [List.take_of_length_le (by omega), List.take_of_length_le (by simp [setsL])]
  have HSL : Hid (∀ i, i < n → nth (setsL (oL who) n it) i = ((sB (oL who) (i : Int) it : Nat) : Int)) := fun i hi => setsL_at hi
  have HSLN : Hid ((setsL (oL who) n it).length = n) := by show _ = _; simp [setsL]
  obtain ⟨i3, hi3, hz0, hz1, hz2⟩ := info_parts info3
  clear h hw hr hk hl hfl hwl
  generalize GivP n (leaf (fs L) it who) w = PP at *
  generalize hvf : (fun k : Nat => val ((fs L).take k) ((setsL (oL who) n it).take k)) = vf at *
  have hvf2 : ∀ k : Nat, val ((fs L).take k) ((setsL (oL who) n it).take k) = vf k := fun k => by rw [← hvf]
  simp only [hvf2] at HVT HVN HVE
  have HV0 : Hid (vf 0 = 0) := by rw [← hvf]; rfl
  clear hvf hvf2
  go_enter Try.func16, Try.ntmps16
  go_wp2_with (at_make; refine wpList_make_full _ rfl _ _ 26 rfl (w.alloc (.cells #[.int .i64 (it : Int), .slice a n c] 24)).heap.size 3 i3 _ 1 Try.underlying26 hi3 hz0 hz1 .i64 .i64 _ _ n rfl rfl rfl rfl (by rw [hz2]; omega) (by unfold maxLen; omega) (Nat.le_refl _) ?_; intro w3 ho3 hg3)
  have hbC : Below (w.alloc (.cells #[.int .i64 (it : Int), .slice a n c] 24)).heap.size (w.alloc (.cells #[.int .i64 (it : Int), .slice a n c] 24)) w3 := (Below.refl _ _).grown hg3 (Nat.le_refl _) (fun k hk => by cases hk)
  have hsz1 : (w.alloc (.cells #[.int .i64 (it : Int), .slice a n c] 24)).heap.size = w.heap.size + 1 := by simp
  rw [hsz1] at ho3 hbC
  have HR3 := hide (row_made ho3)
  clear ho3 hg3
  generalize w.alloc (.cells #[.int .i64 (it : Int), .slice a n c] 24) = W1 at *
  have HX : Hid (∀ W, Below (w.heap.size + 1) W1 W → W.cell? ⟨w.heap.size, 1, none⟩ = some (.slice a n c)) := fun W hW => (cell_in' ((hW.block w.heap.size (by omega)).trans hBx) 1).1
  clear hBx
  go_wp2_with fail
  go_loopw [9] (fun i wr => Below (w.heap.size + 1) W1 wr ∧ ∃ k : Nat, k ≤ it ∧ i = .int .i64 k ∧ Row (w.heap.size + 1) wr (some ⟨w.heap.size + 1, 0, none⟩) n (fun i => ((sB (oL who) (i : Int) k : Nat) : Int))) (fun i _ => it - (intOf i).toNat)
  case atStart => exact ⟨hbC, 0, Nat.zero_le _, rfl, (unhide HR3).same (fun j _ => rfl)⟩
  case round =>
    obtain ⟨hbr, k, hkk, rfl, hR⟩ := hrel
    have hbw := hA.trans (hbr.mono (by omega))
    have HR := hide hR
    clear hR
    by_cases hlt : k < it
    · obtain ⟨b1, o1, e1, hb1, hc1⟩ := (unhide HW wr hbw).nth (by omega)
      subst e1
      have q1 := hc1 k hlt
      rw [unhide HON k hlt] at q1
      have hrg := unhide HRG k hlt
      have HST : Hid (∀ i : Nat, sB (oL who) (i : Int) (k + 1) = sB (oL who) (i : Int) k + (if oL who k = (i : Int) then 2 ^ k else 0)) := fun i => sB_step _ _ _
      have hbd : ∀ i : Int, sB (oL who) i k < 16 := fun i => Nat.lt_of_lt_of_le (bs_lt _ k) (pow_le (by omega))
      clear hc1
      generalize oL who k = x at *
      by_cases hx : x < 0
      · have HRN : Hid (Row (w.heap.size + 1) wr (some ⟨w.heap.size + 1, 0, none⟩) n (fun i => ((sB (oL who) (i : Int) (k + 1) : Nat) : Int))) := (unhide HR).same (fun j _ => by rw [unhide HST j, if_neg (by omega)]; rfl)
        clear hbd
        go_wp2_with fail
        go_roundw
        case rel => exact ⟨hbr, k + 1, by omega, by go_num, unhide HRN⟩
        case measure => simp [intOf]; omega
      · obtain ⟨i, rfl⟩ : ∃ i : Nat, x = i := ⟨x.toNat, by omega⟩
        have hin : i < n := by omega
        obtain ⟨rc, rf, rs, rg⟩ := (unhide HR).at hin
        obtain ⟨P2, hP2⟩ : ∃ P2 : Nat, P2 = 2 ^ k := ⟨_, rfl⟩
        have hwp2 := wrap_pow hP2 (by omega)
        have hP16 : P2 ≤ 16 := by rw [hP2]; exact pow_le (by omega)
        have HRN : Hid (Row (w.heap.size + 1) (wr.setCell ⟨w.heap.size + 1, i, none⟩ (.int .i64 (((sB (oL who) (i : Int) k : Nat) : Int) + (P2 : Int)))) (some ⟨w.heap.size + 1, 0, none⟩) n (fun i => ((sB (oL who) (i : Int) (k + 1) : Nat) : Int))) := (unhide HR).set hin (fun j _ hj => by rw [unhide HST j, if_neg (by omega)]; rfl) (by rw [unhide HST i, if_pos rfl, hP2]; simp)
        have hbi := hbd (i : Int)
        have hb5 : Below (w.heap.size + 1) W1 (wr.setCell ⟨w.heap.size + 1, i, none⟩ (.int .i64 (((sB (oL who) (i : Int) k : Nat) : Int) + (P2 : Int)))) := hbr.setCell (p := ⟨w.heap.size + 1, i, none⟩) (Nat.le_refl _) _
        clear hbd hP2 HST
        generalize sB (oL who) (i : Int) k = y at *
        go_wp2_with fail
        refine wp_region_still_tail 16 (by kernel_rfl) (by kernel_rfl) ?_
        simp only [List.take_succ_cons, List.take_zero, List.drop_succ_cons, List.drop_zero]
        show wpStill Try.prog _ wr.drew (fun a' => wpList Try.prog _ _ _ a' wr.drew) _ _
        repeat still_step
        refine wpStill_nil ?_
        go_wp2_with fail
        go_roundw
        case rel => exact ⟨hb5.trans (Below.refl _ _).drew, k + 1, by omega, by go_num, (unhide HRN).later (Below.refl _ _).drew⟩
        case measure => simp [intOf]; omega
    · obtain rfl : k = it := by omega
      have HRI := hide ((unhide HR).ints (l := setsL (oL who) n k) (unhide HSLN).symm (Nat.le_refl _) (by unfold maxLen; omega) (fun j hj => (unhide HSL j hj).symm))
      have HRc : Hid (∀ W, Below wr.heap.size wr W → ∀ j, j < n → W.cell? ⟨w.heap.size + 1, j, none⟩ = some (.int .i64 ((sB (oL who) (j : Int) k : Nat) : Int))) := fun W hW j hj => (((unhide HR).later hW).at hj).1
      clear HR
      go_wp2_with fail
      go_loopw [11, 10] (fun i x ws => Below wr.heap.size wr ws ∧ ∃ j : Nat, j ≤ n ∧ i = .int .i64 j ∧ x = .int .i64 (vf j)) (fun i _ _ => n - (intOf i).toNat)
      case atStart => exact ⟨Below.refl _ _, 0, Nat.zero_le _, rfl, by rw [unhide HV0]⟩
      case round =>
        obtain ⟨hbs, j, hj, rfl, rfl⟩ := hrel
        have hbt := hbr.trans (hbs.mono (by have := hbr.size; omega))
        have hbw2 := hbw.trans (hbs.mono hbw.size)
        by_cases hlj : j < n
        · have hbx := unhide HX wr hbt
          have hLw := unhide HL wr hbw2
          obtain ⟨lb, lo, hlae, hlb, hlcell⟩ := hLw.cellAt (by omega)
          subst hlae
          have hlx := hlcell j hlj
          have hI6 := hLw.mem hlj
          have hmem := unhide HLK _ (slAt_mem (l := L) (j := j) (by have := hLw.1; omega))
          have hlnx := hmem.1
          have hsb : sB (oL who) (j : Int) k < 2 ^ k := bs_lt _ _
          obtain ⟨mb, mo, hmae, hmb, hmcell⟩ := hI6.nth (by omega)
          have hmx := hmcell (sB (oL who) (j : Int) k) (by omega)
          have hk1 := hI6.2.1
          have hk2 := hI6.2.2.1
          unfold maxLen at hk2
          have hy := hmem.2 _ hsb
          have hsc := unhide HRc wr hbs j hlj
          have hvt := unhide HVT j hlj
          have hvn := unhide HVN j
          have hln2 : sB (oL who) (j : Int) k < (slAt L j).ln := by omega
          clear hmcell hlcell hI6 hLw hmem hlnx hsb
          generalize nth (slAt L j).ints (sB (oL who) (j : Int) k) = y at *
          generalize sB (oL who) (j : Int) k = q at *
          generalize slAt L j = s at *
          obtain ⟨s1, s2, s3, s4⟩ := s
          simp only at hlx hmae hk1 hk2 hln2
          subst hmae
          have HVT2 := hide hvt
          clear hvt
          generalize vf j = z at *
          go_wp2_with fail
          go_quiet (fail)
          go_wp2_with fail
          go_roundw
          case rel => exact ⟨hbs.trans ((below_drewN _ _ _).mono hbs.size), j + 1, by omega, by go_num, by rw [unhide HVT2]⟩
          case measure => simp [intOf]; omega
        · obtain rfl : n = j := by omega
          have HFX := unhide HF wr _ _ hbw2 ((unhide HRI).later hbs)
          rw [← unhide HVE] at HFX
          have HFX := hide HFX
          generalize vf n = z at *
          go_wp2
          exact unhide HFX
end Go.Proofs.Ytaaikaeknealkaa
