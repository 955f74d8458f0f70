import Derived.Test.YtaaikaeknealkaaF
namespace Go.Proofs.Ytaaikaeknealkaa
open Go.RowKit
/-- Lists of what sets are worth, all as long. -/
def Lok (m : Nat) (L : List Sl) : Prop := ∀ s ∈ L, s.ln = m ∧ ∀ j, j < m → 0 ≤ nth s.ints j ∧ nth s.ints j ≤ 1000
theorem Lok.wok {m : Nat} {L : List Sl} (h : Lok m L) : Wok m (fs L) := fun w hw s hs' => by
  obtain ⟨t, ht, rfl⟩ := List.mem_map.1 hw
  exact (h t ht).2 s hs'
def BestP (n : Nat) (p : Int × List Int) (w : World) (e : Ending) (w' : World) : Prop := ∃ v, e = .returned (.tuple #[.int .i64 p.1, v]) ∧ RowS w.heap.size w' v n (nth p.2) ∧ Below w.heap.size w w'
def BInv (w : World) (v0 : Nat → Int) (B : Nat → Int × List Int) (free l : Nat) (i x y : Value) (wr : World) : Prop :=
  Below w.heap.size w wr ∧ ∃ k : Nat, k ≤ free + 1 ∧ i = .int .i64 k ∧ x = .int .i64 (bstF v0 B free k).1 ∧ RowS w.heap.size wr y (bstF v0 B free k).2.length (nth (bstF v0 B free k).2) ∧ ((bstF v0 B free k).2 = [] ∨ (bstF v0 B free k).2.length = l)
set_option maxRecDepth 100000 in
set_option maxHeartbeats 4000000 in
theorem best_any (m : Nat) (hm : m ≤ 16) : ∀ (L : List Sl) (a : Option Addr) (n c free : Nat) (w : World), Lsts w a n c L → n ≤ 4 → free < m → Lok m L →
    Calls Try.prog 17 #[.slice a n c, .int .i64 free] w (BestP n (bst (fs L) free) w) := by
  intro L
  induction L with
  | nil =>
    intro a n c free w h hn hf hk
    obtain rfl : n = 0 := h.1
    have HF : Hid (BestP 0 (bst (fs []) free) w (.returned (.tuple #[.int .i64 0, .slice none 0 0])) w) := ⟨_, rfl, .inl ⟨rfl, rfl⟩, Below.refl _ _⟩
    generalize BestP 0 (bst (fs []) free) w = PP at *
    clear h hk
    go_enter Try.func17, Try.ntmps17
    go_wp2
    exact unhide HF
  | cons s L ih =>
    intro a n c free w h hn hf hk
    have hn1 : n = L.length + 1 := by have := h.1; rw [List.length_cons] at this; exact this
    subst hn1
    have h1 := h.2.1
    have h2 := h.2.2.1
    unfold maxLen at h2
    obtain ⟨b, off, rfl, hb, hcell⟩ := h.cellAt (by omega)
    have hc0 := hcell 0 (by omega)
    rw [Nat.add_zero] at hc0
    have hs0 := h.mem (k := 0) (by omega)
    have hse : slAt (s :: L) 0 = s := rfl
    rw [hse] at hc0 hs0
    have hsl := (hk s List.mem_cons_self).1
    have hsv := (hk s List.mem_cons_self).2
    have HKT : Hid (Lok m L) := fun t ht => hk t (List.mem_cons_of_mem _ ht)
    have HT : Hid (∀ W, Below w.heap.size w W → Lsts W (some ⟨b, off + 1, none⟩) L.length (c - 1) L) := fun W hW => (h.later hW).tail
    have HBE := hide (fun f hf' => bst_le (m := m) (fs L) (unhide HKT).wok f hf')
    have HBL := hide (fun f hf' => bst_len (m := m) (fs L) (unhide HKT).wok f hf')
    have hfl : (fs L).length = L.length := by simp [fs]
    rw [hfl] at HBE HBL
    have HE : Hid (bst (fs (s :: L)) free = bstF (nth s.ints) (bst (fs L)) free (free + 1)) := rfl
    have HLE := hide (bstF_le (w := nth s.ints) (B := bst (fs L)) (free := free) (m := m) (M := 1000 * L.length) (unhide HBE) (by omega) hsv hf)
    have HSM := hide (fun k => bstF_some (w := nth s.ints) (B := bst (fs L)) (free := free) k)
    have HIH1 : Hid (c = 1 → ∀ (f : Nat) (W : World), Below w.heap.size w W → f < m → Calls Try.prog 17 #[.slice (some ⟨b, off, none⟩) L.length 0, .int .i64 f] W (BestP L.length (bst (fs L) f) W)) := fun hc1 f W hW hf' => by
      have hT := unhide HT W hW
      have hL0 : L.length = 0 := by have := hT.2.1; omega
      exact ih _ _ _ _ _ ⟨rfl, by omega, by unfold maxLen; omega, hT.2.2.2.1, .inl hL0⟩ (by omega) hf' (unhide HKT)
    have HIH : Hid (∀ (f : Nat) (W : World), Below w.heap.size w W → f < m → Calls Try.prog 17 #[.slice (some ⟨b, off + 1, none⟩) L.length (c - 1), .int .i64 f] W (BestP L.length (bst (fs L) f) W)) := fun f W hW hf' => ih _ _ _ _ _ (unhide HT W hW) (by omega) hf' (unhide HKT)
    obtain ⟨sa, sn, sc, si⟩ := s
    simp only at hc0 hs0 hsl hsv HE HLE HSM
    subst hsl
    have hs1 := hs0.2.1
    have hs2 := hs0.2.2.1
    unfold maxLen at hs2
    obtain ⟨sb, so, rfl, hsb, hscell⟩ := hs0.nth (by omega)
    have HSC : Hid (∀ W, Below w.heap.size w W → ∀ j, j < sn → W.cell? ⟨sb, so + j, none⟩ = some (.int .i64 (nth si j))) := fun W hW j hj => by rw [hW.cell (p := ⟨sb, so + j, none⟩) hsb, hscell j hj]
    have HC0 : Hid (∀ W, Below w.heap.size w W → W.cell? ⟨b, off, none⟩ = some (.slice (some ⟨sb, so, none⟩) sn sc)) := fun W hW => by rw [hW.cell (p := ⟨b, off, none⟩) hb, hc0]
    have HF : Hid (∀ W v, Below w.heap.size w W → RowS w.heap.size W v (L.length + 1) (nth (bstF (nth si) (bst (fs L)) free (free + 1)).2) → BestP (L.length + 1) (bst (fs (⟨some ⟨sb, so, none⟩, sn, sc, si⟩ :: L)) free) w (.returned (.tuple #[.int .i64 (bstF (nth si) (bst (fs L)) free (free + 1)).1, v])) W) := fun W v hW hR => ⟨v, by rw [unhide HE], by rw [unhide HE]; exact hR, hW⟩
    clear hk h hcell hs0 hscell hc0 hse ih HKT HT HE hfl
    generalize BestP (L.length + 1) (bst (fs (⟨some ⟨sb, so, none⟩, sn, sc, si⟩ :: L)) free) w = PP at *
    generalize nth si = v0 at *
    generalize bst (fs L) = B at *
    generalize L.length = l at *
    by_cases hc1 : c = 1
    · obtain rfl : l = 0 := by omega
      have HIH2 := hide (unhide HIH1 hc1)
      clear HIH1
      subst hc1
      simp only [Nat.zero_add] at *
      go_enter Try.func17, Try.ntmps17
      go_wp2
      go_loopw [14, 4, 5, 6, 7, 8] (fun i x y _ _ _ wr => BInv w v0 B free 1 i x y wr) (fun i _ _ _ _ _ _ => free + 1 - (intOf i).toNat)
      case atStart => exact ⟨Below.refl _ _, 0, Nat.zero_le _, rfl, rfl, .inl ⟨rfl, rfl⟩, .inl rfl⟩
      case round =>
        obtain ⟨hbr, k, hk, rfl, rfl, hR, hlen⟩ := hrel
        have HR := hide hR
        have hx := unhide HLE k hk
        have HLN := hide hlen
        clear hR hlen
        by_cases hlt : k < free + 1
        · have han := andNot_all k (by omega) free (by omega)
          have han2 := andNot_all free (by omega) k (by omega)
          by_cases hz : anN k free = 0
          · have hf2 : anN free k < sn := Nat.lt_of_le_of_lt (anN_le _ _) hf
            have hbe := unhide HBE _ hf2
            have hbl := unhide HBL _ hf2
            have HY := hide (fun q => bstF_yes (w := v0) (B := B) (free := free) (k := k) hz q)
            have HN : Hid (¬ (bstF v0 B free k).1 < (B (anN free k)).1 + v0 k → bstF v0 B free (k + 1) = bstF v0 B free k) := fun q => bstF_no (fun c => q c.2)
            rw [hz] at han
            have hv0 := hsv k (by omega)
            clear hz
            generalize hBB : B (anN free k) = BB at *
            generalize anN free k = fr at *
            have HBB := hide hBB
            clear hBB
            have CI := unhide HIH2 fr wr hbr hf2
            rw [unhide HBB] at CI
            have CI := hide CI
            go_wp2_with fail
            refine (unhide CI).mono ?_
            rintro e w2 ⟨v2, rfl, hR2, hb2⟩
            have hbw := hbr.trans (hb2.mono hbr.size)
            have hc0 := unhide HC0 _ hbw
            have hck := unhide HSC _ hbw k (by omega)
            have HRa := hide ((unhide HR).later hb2)
            have HR2 := hide hR2
            clear hR2 HR
            by_cases hgt : (bstF v0 B free k).1 < BB.1 + v0 k
            · have hY := unhide HY hgt
              have HYe := hide hY
              have HX1 : Hid (∀ W y, Below w.heap.size w W → RowS w.heap.size W y 1 (cons (k : Int) (nth BB.2)) → BInv w v0 B free 1 (.int .i64 ((k : Int) + 1)) (.int .i64 (BB.1 + v0 k)) y W) := fun W y hW hRR => by
                refine ⟨hW, k + 1, by omega, by go_num, by rw [hY], ?_, .inr ?_⟩
                · rw [hY]; show RowS _ _ _ (List.length (_ :: _)) (nth (_ :: _)); rw [← cons_nth, List.length_cons, hbl]; exact hRR
                · rw [hY]; show List.length (_ :: _) = _; rw [List.length_cons, hbl]
              clear HN HY hY HRa HLN HYe
              generalize (bstF v0 B free k).1 = x1 at *
              generalize hv0k : v0 k = y at *
              clear hv0k
              obtain ⟨B1, B2⟩ := BB
              simp only at hgt hbe hbl HX1 HR2 ⊢
              have hbal : Below w2.heap.size w2 (w2.alloc (.cells #[.int .i64 (k : Int)] 3)) := by go_grown
              have CIn := hide (insert_any w.heap.size (w2.alloc (.cells #[.int .i64 (k : Int)] 3)) v2 0 (nth B2) w2.heap.size (k : Int) (((unhide HR2).base hbr.size).later hbal) (heap_alloc_new _ _) (fun g m c hv hg => by
                rcases unhide HR2 with ⟨_, e⟩ | ⟨_, g', cap, e, _, hlt', _⟩
                · rw [e] at hv; cases hv
                · rw [e] at hv; cases hv; omega) (by omega) (Nat.le_trans hbw.size hbal.size))
              go_wp2_with fail
              refine (unhide CIn).mono ?_
              rintro e w3 ⟨v3, rfl, hR3, hb3⟩
              have HR3 := hide hR3
              have hb4 := hbw.trans ((hbal.mono hbw.size).trans hb3)
              clear hR3
              go_wp2_with fail
              go_roundw
              case rel => exact unhide HX1 _ _ hb4 (unhide HR3)
              case measure => simp [intOf]; omega
            · have hNe := unhide HN (by omega)
              have HX1 : Hid (∀ W y, Below w.heap.size w W → RowS w.heap.size W y (bstF v0 B free k).2.length (nth (bstF v0 B free k).2) → BInv w v0 B free 1 (.int .i64 ((k : Int) + 1)) (.int .i64 (bstF v0 B free k).1) y W) := fun W y hW hRR => ⟨hW, k + 1, by omega, by go_num, by rw [hNe], by rw [hNe]; exact hRR, by rw [hNe]; exact unhide HLN⟩
              clear HN HY hNe
              generalize (bstF v0 B free k).1 = x1 at *
              generalize hv0k : v0 k = y at *
              clear hv0k
              obtain ⟨B1, B2⟩ := BB
              simp only at hgt hbe hbl HR2 ⊢
              go_wp2_with fail
              go_roundw
              case rel => exact unhide HX1 _ _ hbw (unhide HRa)
              case measure => simp [intOf]; omega
          · have HN : Hid (bstF v0 B free (k + 1) = bstF v0 B free k) := bstF_no (fun c => hz c.1)
            have hnz : ((anN k free : Int) == 0) = false := by simp; omega
            clear hz
            generalize anN k free = q at *
            go_wp2_with fail
            go_roundw
            case rel => exact ⟨hbr, k + 1, by omega, by go_num, by rw [unhide HN], by rw [unhide HN]; exact unhide HR, by rw [unhide HN]; exact unhide HLN⟩
            case measure => simp [intOf]; omega
        · obtain rfl : k = free + 1 := by omega
          have h0 := hx.2.2 (by omega)
          have hne := unhide HSM _ h0
          have hll : (bstF v0 B free (free + 1)).2.length = 1 := (unhide HLN).resolve_left hne
          have hR := unhide HR
          rw [hll] at hR
          have HRX := hide hR
          have HFX := hide (unhide HF wr _ hbr hR)
          clear hR HR HF HLN hne
          generalize (bstF v0 B free (free + 1)).1 = x1 at *
          go_wp2
          exact unhide HFX
    · obtain ⟨q, rfl⟩ : ∃ q, c = q + 2 := ⟨c - 2, by omega⟩
      have e1 : q + 2 - 1 = q + 1 := by omega
      rw [e1] at HIH
      clear HIH1 hc1 e1
      have hl0 : ((l : Int) + 1 == 0) = false := by simp; omega
      go_enter Try.func17, Try.ntmps17
      go_wp2
      go_loopw [14, 4, 5, 6, 7, 8] (fun i x y _ _ _ wr => BInv w v0 B free (l + 1) i x y wr) (fun i _ _ _ _ _ _ => free + 1 - (intOf i).toNat)
      case atStart => exact ⟨Below.refl _ _, 0, Nat.zero_le _, rfl, rfl, .inl ⟨rfl, rfl⟩, .inl rfl⟩
      case round =>
        obtain ⟨hbr, k, hk, rfl, rfl, hR, hlen⟩ := hrel
        have HR := hide hR
        have hx := unhide HLE k hk
        have HLN := hide hlen
        clear hR hlen
        by_cases hlt : k < free + 1
        · have han := andNot_all k (by omega) free (by omega)
          have han2 := andNot_all free (by omega) k (by omega)
          by_cases hz : anN k free = 0
          · have hf2 : anN free k < sn := Nat.lt_of_le_of_lt (anN_le _ _) hf
            have hbe := unhide HBE _ hf2
            have hbl := unhide HBL _ hf2
            have HY := hide (fun q => bstF_yes (w := v0) (B := B) (free := free) (k := k) hz q)
            have HN : Hid (¬ (bstF v0 B free k).1 < (B (anN free k)).1 + v0 k → bstF v0 B free (k + 1) = bstF v0 B free k) := fun q => bstF_no (fun c => q c.2)
            rw [hz] at han
            have hv0 := hsv k (by omega)
            clear hz
            generalize hBB : B (anN free k) = BB at *
            generalize anN free k = fr at *
            have HBB := hide hBB
            clear hBB
            have CI := unhide HIH fr wr hbr hf2
            rw [unhide HBB] at CI
            have CI := hide CI
            go_wp2_with fail
            refine (unhide CI).mono ?_
            rintro e w2 ⟨v2, rfl, hR2, hb2⟩
            have hbw := hbr.trans (hb2.mono hbr.size)
            have hc0 := unhide HC0 _ hbw
            have hck := unhide HSC _ hbw k (by omega)
            have HRa := hide ((unhide HR).later hb2)
            have HR2 := hide hR2
            clear hR2 HR
            by_cases hgt : (bstF v0 B free k).1 < BB.1 + v0 k
            · have hY := unhide HY hgt
              have HYe := hide hY
              have HX1 : Hid (∀ W y, Below w.heap.size w W → RowS w.heap.size W y (l + 1) (cons (k : Int) (nth BB.2)) → BInv w v0 B free (l + 1) (.int .i64 ((k : Int) + 1)) (.int .i64 (BB.1 + v0 k)) y W) := fun W y hW hRR => by
                refine ⟨hW, k + 1, by omega, by go_num, by rw [hY], ?_, .inr ?_⟩
                · rw [hY]; show RowS _ _ _ (List.length (_ :: _)) (nth (_ :: _)); rw [← cons_nth, List.length_cons, hbl]; exact hRR
                · rw [hY]; show List.length (_ :: _) = _; rw [List.length_cons, hbl]
              clear HN HY hY HRa HLN HYe
              generalize (bstF v0 B free k).1 = x1 at *
              generalize hv0k : v0 k = y at *
              clear hv0k
              obtain ⟨B1, B2⟩ := BB
              simp only at hgt hbe hbl HX1 HR2 ⊢
              have hbal : Below w2.heap.size w2 (w2.alloc (.cells #[.int .i64 (k : Int)] 3)) := by go_grown
              have CIn := hide (insert_any w.heap.size (w2.alloc (.cells #[.int .i64 (k : Int)] 3)) v2 l (nth B2) w2.heap.size (k : Int) (((unhide HR2).base hbr.size).later hbal) (heap_alloc_new _ _) (fun g m c hv hg => by
                rcases unhide HR2 with ⟨_, e⟩ | ⟨_, g', cap, e, _, hlt', _⟩
                · rw [e] at hv; cases hv
                · rw [e] at hv; cases hv; omega) (by omega) (Nat.le_trans hbw.size hbal.size))
              go_wp2_with fail
              refine (unhide CIn).mono ?_
              rintro e w3 ⟨v3, rfl, hR3, hb3⟩
              have HR3 := hide hR3
              have hb4 := hbw.trans ((hbal.mono hbw.size).trans hb3)
              clear hR3
              go_wp2_with fail
              go_roundw
              case rel => exact unhide HX1 _ _ hb4 (unhide HR3)
              case measure => simp [intOf]; omega
            · have hNe := unhide HN (by omega)
              have HX1 : Hid (∀ W y, Below w.heap.size w W → RowS w.heap.size W y (bstF v0 B free k).2.length (nth (bstF v0 B free k).2) → BInv w v0 B free (l + 1) (.int .i64 ((k : Int) + 1)) (.int .i64 (bstF v0 B free k).1) y W) := fun W y hW hRR => ⟨hW, k + 1, by omega, by go_num, by rw [hNe], by rw [hNe]; exact hRR, by rw [hNe]; exact unhide HLN⟩
              clear HN HY hNe
              generalize (bstF v0 B free k).1 = x1 at *
              generalize hv0k : v0 k = y at *
              clear hv0k
              obtain ⟨B1, B2⟩ := BB
              simp only at hgt hbe hbl HR2 ⊢
              go_wp2_with fail
              go_roundw
              case rel => exact unhide HX1 _ _ hbw (unhide HRa)
              case measure => simp [intOf]; omega
          · have HN : Hid (bstF v0 B free (k + 1) = bstF v0 B free k) := bstF_no (fun c => hz c.1)
            have hnz : ((anN k free : Int) == 0) = false := by simp; omega
            clear hz
            generalize anN k free = q at *
            go_wp2_with fail
            go_roundw
            case rel => exact ⟨hbr, k + 1, by omega, by go_num, by rw [unhide HN], by rw [unhide HN]; exact unhide HR, by rw [unhide HN]; exact unhide HLN⟩
            case measure => simp [intOf]; omega
        · obtain rfl : k = free + 1 := by omega
          have h0 := hx.2.2 (by omega)
          have hne := unhide HSM _ h0
          have hll : (bstF v0 B free (free + 1)).2.length = l + 1 := (unhide HLN).resolve_left hne
          have hR := unhide HR
          rw [hll] at hR
          have HRX := hide hR
          have HFX := hide (unhide HF wr _ hbr hR)
          clear hR HR HF HLN hne
          generalize (bstF v0 B free (free + 1)).1 = x1 at *
          go_wp2
          exact unhide HFX
end Go.Proofs.Ytaaikaeknealkaa
