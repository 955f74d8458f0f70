import Derived.Test.YtaaikaeknealkaaQ
import Derived.Test.YtaaikaeknealkaaJ
namespace Go.Proofs.Ytaaikaeknealkaa
open Go.RowKit
theorem fs_erase : ∀ (L : List Sl) (i : Nat), fs (L.eraseIdx i) = (fs L).eraseIdx i
  | [], _ => rfl
  | _ :: _, 0 => rfl
  | s :: L, i + 1 => by
    show nth s.ints :: fs (L.eraseIdx i) = nth s.ints :: (fs L).eraseIdx i
    rw [fs_erase L i]
theorem kept_other {w : World} {base n g o : Nat} {v u : Value} {xs : List Value} (h : w.ownsRow base 3 1 v n xs) (hg : g < base) : (w.setCell ⟨g, o, none⟩ u).ownsRow base 3 1 v n xs := by
  refine ⟨h.1, ?_⟩
  rcases h.2 with e | ⟨g', cap, cur, e, hb, hh, h1, h2, h3, h4⟩
  · exact .inl e
  · refine .inr ⟨g', cap, cur, e, hb, ?_, h1, h2, h3, h4⟩
    rw [Below.heap_setCell _ _ _ _ (by show _ ≠ g; omega)]
    exact hh
def SaleP (n : Nat) (L : List Sl) (al : Nat) (w : World) (e : Ending) (w' : World) : Prop := Below w.heap.size w w' ∧ ∃ sa sc pa pc, e = .returned (saleV (.slice sa n sc) (.slice pa n pc)) ∧ Ints w' sa n sc (bst (fs L) al).2 ∧ Ints w' pa n pc (lF n (pay L al))
theorem lF_succ (k : Nat) (f : Nat → Int) : lF (k + 1) f = lF k f ++ [f k] := by
  unfold lF
  rw [List.range_succ, List.map_append]
  rfl
def RInv (w1 : World) (n : Nat) (s : Value) (f : Nat → Int) (i : Value) (wr : World) : Prop :=
  Below w1.heap.size w1 wr ∧ w1.heap.size < wr.heap.size ∧ ∃ (k : Nat) (v : Value), k ≤ n ∧ i = .int .i64 k ∧ wr.heap[w1.heap.size]? = some (.cells #[s, v] 28 (0, 0)) ∧ wr.ownsRow (w1.heap.size + 1) 3 1 v k (intVals (lF k f))
theorem wrap64_in' (x : Int) (h1 : -9223372036854775808 ≤ x) (h2 : x ≤ 9223372036854775807) : wrap64 x = x := wrap64_in x h1 h2
set_option maxRecDepth 100000 in
set_option maxHeartbeats 8000000 in
theorem saleR_any (it : Nat) (a : Option Addr) (n c : Nat) (L : List Sl) (w : World) (h : Lsts w a n c L) (hz : seE (it : Int) L = 0) :
    Calls Try.prog 10 #[bidV it a n c] w (SaleP n L (2 ^ it - 1) w) := by
  obtain ⟨-, h4, hn1, hn4, hLok, hzero⟩ := seE_zero hz
  have hl : n = L.length := h.1
  rw [← hl] at hn1 hn4
  rw [Int.toNat_natCast] at hLok
  have hit : it ≤ 4 := by omega
  have hal : 2 ^ it - 1 < 2 ^ it := by have := Nat.two_pow_pos it; omega
  have hfl : (fs L).length = n := by rw [hl]; simp [fs]
  have HG0 : Hid (∀ W, Below w.heap.size w W → Calls Try.prog 16 #[.agg #[.int .i64 (it : Int), .slice a n c], .slice none 0 0, .int .i64 (-1)] W (GivP n (bst (fs L) (2 ^ it - 1)) W)) := fun W hW => by
    have := given_any it hit (-1) (by omega) L a n c hn1 hn4 hLok it [] none 0 W (by simp) (h.later hW) ⟨rfl, Nat.le_refl _, by unfold maxLen; omega, .inl rfl⟩ (fun x hx => by cases hx)
    rw [gv_bst hit hLok.wok] at this
    exact this
  have HGi : Hid (∀ (i : Nat) W, i < n → Below w.heap.size w W → Calls Try.prog 16 #[.agg #[.int .i64 (it : Int), .slice a n c], .slice none 0 0, .int .i64 (i : Int)] W fun e w' => ∃ v, e = .returned (.tuple #[v, .int .i64 (bst (fs (L.eraseIdx i)) (2 ^ it - 1)).1]) ∧ Below W.heap.size W w') := fun i W hi hW => by
    have hw0 : wz (fs L) i = 0 := by unfold wz; rw [fs_at (by omega)]; exact hzero _ (slAt_mem (by omega))
    have := given_any it hit (i : Int) (by omega) L a n c hn1 hn4 hLok it [] none 0 W (by simp) (h.later hW) ⟨rfl, Nat.le_refl _, by unfold maxLen; omega, .inl rfl⟩ (fun x hx => by cases hx)
    refine this.mono ?_
    rintro e w' ⟨sa, sc, rfl, _, hb⟩
    rw [gv_but hit hLok.wok (by omega) hw0, ← fs_erase]
    exact ⟨_, rfl, hb⟩
  have hble := bst_le (fs L) hLok.wok (2 ^ it - 1) hal
  have hblen := bst_len (fs L) hLok.wok (2 ^ it - 1) hal
  rw [hfl] at hble hblen
  have HRG : Hid (∀ j, j < n → 0 ≤ nth (bst (fs L) (2 ^ it - 1)).2 j ∧ nth (bst (fs L) (2 ^ it - 1)).2 j ≤ ((2 ^ it - 1 : Nat) : Int)) := fun j hj => bst_rng (fs L) hLok.wok (2 ^ it - 1) hal _ (by unfold nth; rw [List.getElem?_eq_getElem (by omega)]; exact List.getElem_mem _)
  have HPY : Hid (∀ j, j < n → 0 ≤ (bst (fs (L.eraseIdx j)) (2 ^ it - 1)).1 ∧ (bst (fs (L.eraseIdx j)) (2 ^ it - 1)).1 ≤ 4000) := fun j hj => by
    have := bst_le (fs (L.eraseIdx j)) (hLok.erase j).wok (2 ^ it - 1) hal
    have e : (fs (L.eraseIdx j)).length = n - 1 := by unfold fs; rw [List.length_map, List.length_eraseIdx, if_pos (by omega)]; omega
    rw [e] at this
    omega
  have HV : Hid (∀ j q, j < n → 0 ≤ q → q ≤ ((2 ^ it - 1 : Nat) : Int) → 0 ≤ nth (slAt L j).ints q.toNat ∧ nth (slAt L j).ints q.toNat ≤ 1000 ∧ q.toNat < (slAt L j).ln) := fun j q hj q0 q1 => by
    have hm := hLok _ (slAt_mem (l := L) (j := j) (by omega))
    have hq : q.toNat < 2 ^ it := by omega
    exact ⟨(hm.2 q.toNat hq).1, (hm.2 q.toNat hq).2, by rw [hm.1]; exact hq⟩
  have HPE : Hid (∀ j, pay L (2 ^ it - 1) j = (bst (fs (L.eraseIdx j)) (2 ^ it - 1)).1 - ((bst (fs L) (2 ^ it - 1)).1 - nth (slAt L j).ints (nth (bst (fs L) (2 ^ it - 1)).2 j).toNat)) := fun j => rfl
  have HL : Hid (∀ W, Below w.heap.size w W → Lsts W a n c L) := fun W hW => h.later hW
  have HF : Hid (∀ w' sa sc pa pc, Below w.heap.size w w' → Ints w' sa n sc (bst (fs L) (2 ^ it - 1)).2 → Ints w' pa n pc (lF n (pay L (2 ^ it - 1))) → SaleP n L (2 ^ it - 1) w (.returned (.agg #[.slice sa n sc, .slice pa n pc])) w') := fun w' sa sc pa pc q1 q2 q3 => ⟨q1, sa, sc, pa, pc, rfl, q2, q3⟩
  have hA : Below w.heap.size w ((w.alloc (.cells #[.int .i64 (it : Int), .slice a n c] 24)).alloc (.cells #[.slice none 0 0, .slice none 0 0] 28)) := by go_grown
  have hBx : ((w.alloc (.cells #[.int .i64 (it : Int), .slice a n c] 24)).alloc (.cells #[.slice none 0 0, .slice none 0 0] 28)).heap[w.heap.size]? = some (.cells #[.int .i64 (it : Int), .slice a n c] 24 (0, 0)) := by
    rw [heap_alloc_old _ _ (by simp)]; exact heap_alloc_new _ _
  have hBy : ((w.alloc (.cells #[.int .i64 (it : Int), .slice a n c] 24)).alloc (.cells #[.slice none 0 0, .slice none 0 0] 28)).heap[w.heap.size + 1]? = some (.cells #[.slice none 0 0, .slice none 0 0] 28 (0, 0)) := heap_alloc2_new _ _ _
  have hsz0 : ((w.alloc (.cells #[.int .i64 (it : Int), .slice a n c] 24)).alloc (.cells #[.slice none 0 0, .slice none 0 0] 28)).heap.size = w.heap.size + 2 := by simp
  clear h hz hLok hzero hl hfl
  unfold bidV
  generalize SaleP n L (2 ^ it - 1) w = PP at *
  generalize hal2 : 2 ^ it - 1 = al at *
  clear hal2 hal
  go_enter Try.func10, Try.ntmps10
  go_wp2_with fail
  generalize (w.alloc (.cells #[.int .i64 (it : Int), .slice a n c] 24)).alloc (.cells #[.slice none 0 0, .slice none 0 0] 28) = W0 at *
  refine (unhide HG0 W0 hA).mono ?_
  rintro e w1 ⟨sa, sc, rfl, hSI, hb1⟩
  have hbA := hA.trans (hb1.mono hA.size)
  have HSI := hide hSI
  have hsc1 := hSI.2.1
  have hsc2 := hSI.2.2.1
  unfold maxLen at hsc2
  have hsz1 : w.heap.size + 2 ≤ w1.heap.size := by have := hb1.size; omega
  have HX : Hid (∀ W, Below w1.heap.size w1 W → W.cell? ⟨w.heap.size, 0, none⟩ = some (.int .i64 (it : Int)) ∧ W.cell? ⟨w.heap.size, 1, none⟩ = some (.slice a n c) ∧ W.heap[w.heap.size + 1]? = some (.cells #[.slice none 0 0, .slice none 0 0] 28 (0, 0))) := fun W hW => by
    have hb02 : Below W0.heap.size W0 W := hb1.trans (hW.mono hb1.size)
    exact ⟨(cell_in' ((hb02.block w.heap.size (by omega)).trans hBx) 0).1, (cell_in' ((hb02.block w.heap.size (by omega)).trans hBx) 1).1, (hb02.block (w.heap.size + 1) (by omega)).trans hBy⟩
  obtain ⟨S, hS⟩ : ∃ S, S = (bst (fs L) al).2 := ⟨_, rfl⟩
  obtain ⟨M, hM⟩ : ∃ M, M = (bst (fs L) al).1 := ⟨_, rfl⟩
  rw [← hS] at HSI HF HRG HPE
  rw [← hM] at hble HPE
  rw [← hM]
  clear hS hM hSI hBx hBy hblen HG0
  have hB5 : Below w1.heap.size w1 (w1.alloc (.cells #[.slice sa n sc, .slice none 0 0] 28)) := by go_grown
  have hh5 : (w1.alloc (.cells #[.slice sa n sc, .slice none 0 0] 28)).heap[w1.heap.size]? = some (.cells #[.slice sa n sc, .slice none 0 0] 28 (0, 0)) := heap_alloc_new _ _
  have hsz5 : w1.heap.size < (w1.alloc (.cells #[.slice sa n sc, .slice none 0 0] 28)).heap.size := by simp
  go_wp2_with fail
  generalize w1.alloc (.cells #[.slice sa n sc, .slice none 0 0] 28) = W5 at *
  go_loopw [6, 7, 8] (fun i _ _ wr => RInv w1 n (.slice sa n sc) (pay L al) i wr) (fun i _ _ _ => n - (intOf i).toNat)
  case atStart => exact ⟨hB5, hsz5, 0, .slice none 0 0, Nat.zero_le _, rfl, hh5, World.ownsRow_nil _ _ _ _⟩
  case round =>
    obtain ⟨hbr, hsr, k, v, hk, rfl, hh, hown⟩ := hrel
    obtain ⟨x0, x1, xh⟩ := unhide HX wr hbr
    have hbw := hbA.trans (hbr.mono hbA.size)
    by_cases hlt : k < n
    · have CG := hide (unhide HGi k wr hlt hbw)
      have hpy := unhide HPY k hlt
      have hrg := unhide HRG k hlt
      have hvv := unhide HV k (nth S k) hlt hrg.1 hrg.2
      have hpe := unhide HPE k
      have HH := hide hh
      have HO := hide hown
      clear hh hown xh
      generalize hB2 : (bst (fs (L.eraseIdx k)) al).1 = b2 at *
      clear hB2
      go_wp2_with fail
      refine (unhide CG).mono ?_
      rintro e w2 ⟨v', rfl, hb2⟩
      have hbr2 := hbr.trans (hb2.mono hbr.size)
      have hbw2 := hbA.trans (hbr2.mono hbA.size)
      obtain ⟨z0, z1, zh⟩ := unhide HX w2 hbr2
      have hh2 := (hb2.block w1.heap.size hsr).trans (unhide HH)
      obtain ⟨c1, f1⟩ := cell_in' hh2 1
      simp at c1
      have hs2 : w1.heap.size < w2.heap.size := Nat.lt_of_lt_of_le hsr hb2.size
      have hLw := unhide HL w2 hbw2
      obtain ⟨lb, lo, hlae, hlb, hlcell⟩ := hLw.cellAt (by omega)
      subst hlae
      have hlx := hlcell k hlt
      have hI6 := hLw.mem hlt
      obtain ⟨sb, so, hsae, hsb, hscell⟩ := ((unhide HSI).later hbr2).nth (by omega)
      subst hsae
      have hsx := hscell k hlt
      obtain ⟨q, hq⟩ : ∃ q : Nat, nth S k = q := ⟨(nth S k).toNat, by omega⟩
      rw [hq] at hsx hrg hpe hvv
      rw [Int.toNat_natCast] at hpe hvv
      clear hq
      obtain ⟨mb, mo, hmae, hmb, hmcell⟩ := hI6.nth (by omega)
      have hmx := hmcell q hvv.2.2
      have hk1 := hI6.2.1
      have hk2 := hI6.2.2.1
      unfold maxLen at hk2
      clear hlcell hmcell hscell hI6 hLw zh
      generalize hvq : nth (slAt L k).ints q = y at *
      clear hvq
      generalize slAt L k = s at *
      obtain ⟨s1, s2, s3, s4⟩ := s
      simp only at hlx hmae hk1 hk2 hvv
      subst hmae
      obtain ⟨Y, hY⟩ : ∃ Y, Y = b2 - (M - y) := ⟨_, rfl⟩
      rw [← hY] at hpe
      have hwa : IntKind.i64.wrap (M - y) = M - y := wrap_in _ (by omega) (by omega)
      have hwb : IntKind.i64.wrap (b2 - (M - y)) = Y := by rw [← hY]; exact wrap_in _ (by omega) (by omega)
      have hwa' : wrap64 (M - y) = M - y := wrap64_in _ (by omega) (by omega)
      have hwb' : wrap64 (b2 - (M - y)) = Y := by rw [← hY]; exact wrap64_in _ (by omega) (by omega)
      have hbal : Below w2.heap.size w2 (w2.alloc (.cells #[.int .i64 Y] 3)).drew := (show Below w2.heap.size w2 (w2.alloc (.cells #[.int .i64 Y] 3)) by go_grown).drew
      have HO2 := hide (owns_later (owns_later (unhide HO) hb2) hbal)
      have hszd : w1.heap.size + 1 ≤ (w2.alloc (.cells #[.int .i64 Y] 3)).drew.heap.size := Nat.le_trans hs2 hbal.size
      have hh3 := (hbal.block w1.heap.size hs2).trans hh2
      have hne5 : ¬ w1.heap.size = w2.heap.size := by omega
      have HRI : Hid (∀ (w3 : World) (v3 : Value), w3.ownsRow (w1.heap.size + 1) 3 1 v3 (k + 1) (intVals (lF k (pay L al) ++ [Y])) → (w2.alloc (.cells #[.int .i64 Y] 3)).drew.grownBy w3 v.ownBlock → w3.cell? ⟨w1.heap.size, 1, none⟩ = some v ∧ w3.frozen? ⟨w1.heap.size, 1, none⟩ = false ∧ RInv w1 n (.slice (some ⟨sb, so, none⟩) n sc) (pay L al) (.int .i64 ((k : Int) + 1)) (w3.setCell ⟨w1.heap.size, 1, none⟩ v3)) := fun w3 v3 ho3 hg3 => by
        have hb3 : Below (w1.heap.size + 1) (w2.alloc (.cells #[.int .i64 Y] 3)).drew w3 := (Below.refl _ _).grown hg3 hszd (fun q hq => ((unhide HO2).lt q hq).1)
        have hh4 := (hb3.block w1.heap.size (by omega)).trans hh3
        have hbz : Below w1.heap.size w1 w3 := (hbr2.trans (hbal.mono hbr2.size)).trans (hb3.mono (by omega))
        refine ⟨by simpa using (cell_in' hh4 1).1, (cell_in' hh4 1).2, hbz.setCell (p := ⟨w1.heap.size, 1, none⟩) (Nat.le_refl _) _, ?_, k + 1, v3, by omega, by go_num, ?_, ?_⟩
        · have := hb3.size
          simp
          omega
        · rw [heap_setCell_same _ _ _ _ _ _ hh4]; rfl
        · rw [lF_succ, hpe]
          exact kept_other ho3 (by omega)
      clear hpe hY hh2 hh3
      go_wp2_with fail
      go_region_law (first
        | (refine step_append_int1 _ rfl (.tmp 29) (.tmp 45) rfl (w1.heap.size + 1) v k (lF k (pay L al)) (by first | (simp [Act.eval]; done) | (simp [Act.put]; done) | (simp [Act.eval]; rfl) | (simp [Act.eval, Act.put]; done)) (unhide HO2) w2.heap.size 1 Y (by first | (simp [Act.eval]; done) | (simp [Act.put]; done) | (simp [Act.eval]; rfl) | (simp [Act.eval, Act.put]; done)) (by simp) (by omega) hszd ?_; intro v3 w3 ho3 hg3 _; obtain ⟨r1, r2, r3⟩ := unhide HRI w3 v3 ho3 hg3; obtain ⟨a3, c3, hv3, _, _⟩ := Ints.of_owns ho3 (by omega); subst hv3; have HR3 := hide r3; clear r3 ho3 hg3))
      all_goals
        go_wp2_with fail
        go_roundw
        case rel => exact unhide HR3
        case measure => simp [intOf]; omega
    · obtain rfl : k = n := by omega
      obtain ⟨pa, pc, hv, hPI, hpb⟩ := Ints.of_owns hown (by omega)
      subst hv
      obtain ⟨d0, g0⟩ := cell_in' hh 0
      obtain ⟨d1, g1⟩ := cell_in' hh 1
      obtain ⟨r0, t0⟩ := cell_in' xh 0
      obtain ⟨r1, t1⟩ := cell_in' xh 1
      simp at d0 d1 r0 r1
      have HXH := hide xh
      have hneS : ∀ b o, sa = some ⟨b, o, none⟩ → b ≠ w.heap.size + 1 := fun b o e hb => by
        obtain ⟨b', o', e', hb', hc'⟩ := ((unhide HSI).later hbr).nth (by omega)
        rw [e] at e'
        cases e'
        have h0 := hc' 0 (by omega)
        rw [Nat.add_zero, hb, (cell_in' (unhide HXH) o).1] at h0
        rcases o with _ | _ | o
        · simp at h0
        · simp at h0
        · simp at h0
      have HFX : Hid (PP (.returned (.agg #[.slice sa k sc, .slice pa k pc])) ((wr.setCell ⟨w.heap.size + 1, 0, none⟩ (.slice sa k sc)).setCell ⟨w.heap.size + 1, 1, none⟩ (.slice pa k pc))) := by
        refine unhide HF _ _ _ _ _ ((hbw.setCell (p := ⟨w.heap.size + 1, 0, none⟩) (by show _ ≤ w.heap.size + 1; omega) _).setCell (p := ⟨w.heap.size + 1, 1, none⟩) (by show _ ≤ w.heap.size + 1; omega) _) ?_ ?_
        · exact (((unhide HSI).later hbr).other hneS).other hneS
        · refine (hPI.other (fun b o e => ?_)).other (fun b o e => ?_)
          · rcases hpb with q | ⟨g, q1, q2, q3⟩
            · omega
            · rw [q3] at e; cases e; omega
          · rcases hpb with q | ⟨g, q1, q2, q3⟩
            · omega
            · rw [q3] at e; cases e; omega
      clear xh hh hown hPI hpb HF HX
      go_wp2_with fail
      have hr : ((wr.setCell ⟨w.heap.size + 1, 0, none⟩ (.slice sa k sc)).setCell ⟨w.heap.size + 1, 1, none⟩ (.slice pa k pc)).heap[w.heap.size + 1]? = some (.cells #[.slice sa k sc, .slice pa k pc] 28 (0, 0)) := by
        rw [heap_setCell_same _ _ _ _ _ _ (heap_setCell_same _ _ _ _ _ _ (unhide HXH))]; rfl
      (try simp only [Exit.inBlock, Exit.then])
      refine bodyPost_ret (results_cell_row rfl _ _ (w.heap.size + 1) 28 _ (0, 0) _ rfl hr Try.underlying28 rfl (by show _ = some 2; kernel_rfl)) rfl ?_
      exact unhide HFX
end Go.Proofs.Ytaaikaeknealkaa
