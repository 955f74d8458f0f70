import Derived.Test.YtbbbjpkomnhofaaRH
import Derived.Test.YtbbbjpkomnhofaaH2
import Derived.Test.YtbbbjpkomnhofaaF2
namespace Go.Proofs.Ytbbbjpkomnhofaa
open Go.RowKit Go.Shelf
theorem oL0 (k : Nat) : (oL k)[0]?.getD 0 = o6 k 0 := rfl
theorem onto_iff (l : List Int) (b0 b1 b2 : Bool) (h0 : b0 = decide (0 ≤ idxFrom l 0 0)) (h1 : b1 = decide (0 ≤ idxFrom l 1 0)) (h2 : b2 = decide (0 ≤ idxFrom l 2 0)) : (b0 && b1 && b2) = true ↔ ∀ x : Nat, x < 3 → (x : Int) ∈ l := by
  rw [h0, h1, h2, idx_mem, idx_mem, idx_mem]
  simp only [Bool.and_eq_true, decide_eq_true_eq]
  constructor
  · rintro ⟨⟨g0, g1⟩, g2⟩ x hx
    rcases (by omega : x = 0 ∨ x = 1 ∨ x = 2) with rfl | rfl | rfl
    · exact g0
    · exact g1
    · exact g2
  · intro g
    exact ⟨⟨g 0 (by omega), g 1 (by omega)⟩, g 2 (by omega)⟩
/-- Both tell the same first lie. -/
theorem ho_same {l : List Int} {t u : Bool} {a b c d : Int} {m : List Int}
    (h1 : (t = true ∧ a = 0 ∧ b = 0 ∧ c = 0 ∧ d = 0 ∧ ∀ x : Fin 432, pays l x.val = false) ∨ (t = false ∧ ∃ x : Fin 432, pays l x.val = true ∧ (∀ y : Fin 432, y.val < x.val → pays l y.val = false) ∧ a = cA x ∧ b = cB x ∧ c = cP x ∧ d = cQ x))
    (h2 : (u = true ∧ m = [0, 0, 0, 0] ∧ ∀ z, z < 432 → pays l z = false) ∨ (u = false ∧ ∃ z, z < 432 ∧ pays l z = true ∧ (∀ y, y < z → pays l y = false) ∧ m = hoL z)) : t = u ∧ [a, b, c, d] = m := by
  rcases h1 with ⟨rfl, rfl, rfl, rfl, rfl, h1⟩ | ⟨rfl, x, h1, h1', rfl, rfl, rfl, rfl⟩
  · rcases h2 with ⟨rfl, rfl, _⟩ | ⟨_, z, hz, hp, _⟩
    · exact ⟨rfl, rfl⟩
    · have := h1 ⟨z, hz⟩; rw [this] at hp; cases hp
  · rcases h2 with ⟨_, _, h2⟩ | ⟨rfl, z, hz, hp, hq, rfl⟩
    · have := h2 x.val x.2; rw [this] at h1; cases h1
    · have e : x.val = z := by
        rcases Nat.lt_trichotomy x.val z with e | e | e
        · have := hq _ e; rw [this] at h1; cases h1
        · exact e
        · have := h1' ⟨z, hz⟩ e; rw [this] at hp; cases hp
      subst e
      exact ⟨rfl, rfl⟩
set_option maxRecDepth 100000 in
set_option maxHeartbeats 8000000 in
theorem choiceRule_any (a : Option Addr) (n c : Nat) (l : List Int) (w : World) (h : Ints w a n c l) :
    Calls Try.prog 11 #[.slice a n c, .int .i64 (ruE l 3)] w fun e w' => e = .returned (.bool true) ∧ Below w.heap.size w w' := by
  have C1 := hide (onto2_any a n c l w h)
  have C2 := hide (honest2_any a n c l w h)
  have C3 := hide (fun X (hX : Below w.heap.size w X) => choosers2_any a n c l X (h.later hX))
  have HR : Hid (ruE l 3 = 0 → n = 36) := fun h0 => by
    unfold ruE at h0
    split at h0
    · have := h.1; omega
    · cases h0
  have HH := hide h
  clear h
  generalize ruE l 3 = r at *
  by_cases h0 : r = 0
  · subst h0
    obtain rfl := unhide HR rfl
    have C5 := hide (fun X (hX : Below w.heap.size w X) => honestR_any a c l X ((unhide HH).later hX))
    have C6 := hide (fun x X (hX : Below w.heap.size w X) => in_any a 36 c l x X ((unhide HH).later hX))
    have OR := hide orderNo_any
    obtain ⟨b, off, rfl, hb, hcell⟩ := (unhide HH).cellAt (by omega)
    have HCE := hide hcell
    have hcc := (unhide HH).2.1
    have hcm := (unhide HH).2.2.1
    unfold maxLen at hcm
    clear hcell HR HH
    go_enter Try.func11, Try.ntmps11
    go_wp2_with fail
    refine (unhide C1).mono ?_
    rintro e w1 ⟨⟨t, rfl, ht, _⟩, hw1⟩
    subst w1
    have HT := hide (ht rfl)
    clear ht
    go_wp2_with fail
    refine (unhide C2).mono ?_
    rintro e w2 ⟨⟨u, x1, x2, x3, x4, rfl, hu, _⟩, hb2⟩
    have HU := hide (hu rfl)
    clear hu
    have C3' := hide (unhide C3 _ hb2)
    go_wp2_with fail
    refine (unhide C3').mono ?_
    rintro e w3 ⟨⟨t0, t1, rfl, hc, _⟩, hb3⟩
    have HC := hide (hc rfl)
    clear hc
    have hbx := hb2.trans (hb3.mono hb2.size)
    have HB := hide (hbx.alloc hbx.size (.cells #[.bool t0, .bool t1] 34))
    have hn := World.alloc_heap_new w3 (.cells #[.bool t0, .bool t1] 34)
    have HNW := hide hn
    clear hb3 hb2 hbx hn C3' C1 C2 C3
    go_wp2_with fail
    obtain ⟨W4, hW4⟩ : ∃ y, y = w3.alloc (.cells #[.bool t0, .bool t1] 34) := ⟨_, rfl⟩
    obtain ⟨B13, hB13⟩ : ∃ y, y = w3.heap.size := ⟨_, rfl⟩
    rw [← hW4, ← hB13]
    rw [← hW4] at HB HNW
    rw [← hB13] at HNW
    clear hW4 hB13
    go_loopw [17, 15, 16] (fun i o1 o2 wr => Below W4.heap.size W4 wr ∧ ∃ (k : Nat) (s0 s1 : Bool), k ≤ 36 ∧ i = .int .i64 (k : Int) ∧ o1 = .bool s0 ∧ o2 = .bool s1 ∧ (s0 = true ↔ cUp0 l k) ∧ (s1 = true ↔ cUp1 l k)) (fun i _ _ _ => 36 - (intOf i).toNat)
    case atStart => exact ⟨Below.refl _ _, 0, true, true, by omega, rfl, rfl, rfl, ⟨fun _ i hi => by omega, fun _ => rfl⟩, ⟨fun _ i hi => by omega, fun _ => rfl⟩⟩
    case round =>
      obtain ⟨hbr, k, s0, s1, hk, rfl, rfl, rfl, h1, h2⟩ := hrel
      have HS := hide (And.intro h1 h2)
      clear h1 h2
      by_cases hlt : k < 36
      · have hbw := (unhide HB).trans (hbr.mono (unhide HB).size)
        have q := (hbw.cell (p := ⟨b, off + k, none⟩) hb).trans (unhide HCE k hlt)
        have hki : (k : Int) < 36 := by omega
        have hw6 : IntKind.i64.wrap ((k : Int) / 6) = (k : Int) / 6 := by rw [IntKind.wrap_i64]; omega
        have hw7 : IntKind.i64.wrap ((k : Int) % 6) = (k : Int) % 6 := by rw [IntKind.wrap_i64]; omega
        generalize hv : l[k]?.getD 0 = v at *
        have HV := hide hv
        clear hv
        have O6 : Hid (∀ X : World, Calls Try.prog 8 #[.int .i64 ((k : Int) / 6)] X fun e w' => (∃ a c, e = .returned (.slice a 3 c) ∧ Ints w' a 3 c (oL (k / 6))) ∧ Below X.heap.size X w') := fun X => by
          rw [show (k : Int) / 6 = ((k / 6 : Nat) : Int) by omega]
          exact unhide OR (k / 6) (by omega) X
        have O7 : Hid (∀ X : World, Calls Try.prog 8 #[.int .i64 ((k : Int) % 6)] X fun e w' => (∃ a c, e = .returned (.slice a 3 c) ∧ Ints w' a 3 c (oL (k % 6))) ∧ Below X.heap.size X w') := fun X => by
          rw [show (k : Int) % 6 = ((k % 6 : Nat) : Int) by omega]
          exact unhide OR (k % 6) (by omega) X
        have qd : wr.drew.cell? ⟨b, off + k, none⟩ = some (.int .i64 v) := q
        have hbl : b < wr.heap.size := by have := hbw.size; omega
        have HBR := hide hbr
        clear hbw hbr
        go_wp2_with fail
        go_cut [15] from 83 to 112 (fun s15 wc => ∃ e : Bool, s15 = .bool e ∧ (e = true ↔ cUp0 l (k + 1)) ∧ Below wr.heap.size wr wc)
        case first =>
          cases s0 with
          | true =>
            go_region_with (first | (go_at_call 8; refine (unhide O6 _).mono ?_; rintro e w5 ⟨⟨a5, c5, rfl, hI5⟩, hb5⟩; obtain ⟨g5, o5, rfl, hg5, hc5⟩ := hI5.cellAt (by omega); have p5 := hc5 0 (by omega); rw [oL0, Nat.add_zero] at p5; have q5 := (hb5.cell (p := ⟨b, off + k, none⟩) hbl).trans qd; have k5 := hI5.2.1; have m5 := hI5.2.2.1; unfold maxLen at m5; have HB5 := hide hb5; clear hI5 hb5 hc5))
            all_goals
              go_wp2_with fail
              go_meet
              case rel => exact ⟨_, rfl, by rw [cUp0_succ, unhide HV, beq_iff_eq]; exact ⟨fun h => ⟨by simpa using (unhide HS).1, h⟩, fun h => h.2⟩, (Below.refl _ wr).drew.trans (unhide HB5)⟩
          | false =>
            go_quiet (fail)
            go_wp2_with fail
            go_meet
            case rel => exact ⟨false, rfl, by rw [cUp0_succ]; exact ⟨(fun h => by cases h), fun h => absurd h.1 (by simpa using (unhide HS).1)⟩, below_drewN _ _ _⟩
        case rest =>
          obtain ⟨e0, rfl, hg0, hyb⟩ := hcut
          have HG0 := hide hg0
          have HYB := hide hyb
          clear hg0 hyb
          have qY := ((unhide HYB).cell (p := ⟨b, off + k, none⟩) hbl).trans q
          have qYd : wc.drew.cell? ⟨b, off + k, none⟩ = some (.int .i64 v) := qY
          have hbY : b < wc.heap.size := by have := (unhide HYB).size; omega
          have qYn := cell_drewN qY
          go_wp2_with fail
          cases s1 with
          | true =>
            go_region_with (first | (go_at_call 8; refine (unhide O7 _).mono ?_; rintro e w7 ⟨⟨a7, c7, rfl, hI7⟩, hb7⟩; obtain ⟨g7, o7, rfl, hg7, hc7⟩ := hI7.cellAt (by omega); have p7 := hc7 0 (by omega); rw [oL0, Nat.add_zero] at p7; have q7 := (hb7.cell (p := ⟨b, off + k, none⟩) hbY).trans qYd; have k7 := hI7.2.1; have m7 := hI7.2.2.1; unfold maxLen at m7; have HB7 := hide hb7; clear hI7 hb7 hc7))
            all_goals
              go_wp2_with fail
              go_roundw
              case rel =>
                exact ⟨(unhide HBR).trans (((unhide HYB).mono (unhide HBR).size).trans (((Below.refl _ wc).drew.trans (unhide HB7)).mono (by show _ ≤ wc.heap.size; have := (unhide HBR).size; have := (unhide HYB).size; omega))), k + 1, _, _, by omega, by go_num, rfl, rfl, unhide HG0, by rw [cUp1_succ, unhide HV, beq_iff_eq]; exact ⟨fun h => ⟨by simpa using (unhide HS).2, h⟩, fun h => h.2⟩⟩
              case measure => simp [intOf]; omega
          | false =>
            go_quiet (fail)
            have HG1 : Hid (false = true ↔ cUp1 l (k + 1)) := by show _ ↔ _; rw [cUp1_succ]; exact ⟨(fun h => by cases h), fun h => absurd h.1 (by simpa using (unhide HS).2)⟩
            go_wp2_with fail
            go_roundw
            case rel =>
              exact ⟨(unhide HBR).trans (((unhide HYB).mono (unhide HBR).size).trans (below_drewN _ _ _)), k + 1, _, _, by omega, by go_num, rfl, rfl, unhide HG0, unhide HG1⟩
            case measure => simp [intOf]; omega
      · obtain rfl : k = 36 := by omega
        obtain rfl : s0 = t0 := bool_same (unhide HS).1 (unhide HC).1 Iff.rfl
        obtain rfl : s1 = t1 := bool_same (unhide HS).2 (unhide HC).2 Iff.rfl
        have hbw := (unhide HB).trans (hbr.mono (unhide HB).size)
        have C5' := hide (unhide C5 _ hbw)
        have hn4 := (hbr.block _ (Array.getElem?_eq_some_iff.1 (unhide HNW)).1).trans (unhide HNW)
        have HN4 := hide hn4
        have HBW := hide hbw
        clear hbr hbw hn4
        go_wp2_with fail
        refine (unhide C5').mono ?_
        rintro e w5 ⟨⟨u', a5, c5, m5, rfl, hI5, hh5⟩, hb5⟩
        obtain ⟨rfl, rfl⟩ := ho_same (unhide HU) hh5
        have hb6 := (unhide HBW).trans (hb5.mono (unhide HBW).size)
        have HB6 := hide hb6
        have hn5 := (hb5.block _ (Array.getElem?_eq_some_iff.1 (unhide HN4)).1).trans (unhide HN4)
        have HN5 := hide hn5
        have HI5 := hide hI5
        have D0 := hide (unhide C6 0 _ hb6)
        have D1 := hide (unhide C6 1 _ hb6)
        have D2 := hide (unhide C6 2 _ hb6)
        clear hh5 hb5 hb6 hn5 hI5 C5'
        obtain ⟨d0, E0⟩ : ∃ d, d = decide (0 ≤ idxFrom l 0 0) := ⟨_, rfl⟩
        obtain ⟨d1, E1⟩ : ∃ d, d = decide (0 ≤ idxFrom l 1 0) := ⟨_, rfl⟩
        obtain ⟨d2, E2⟩ : ∃ d, d = decide (0 ≤ idxFrom l 2 0) := ⟨_, rfl⟩
        rw [← E0] at D0
        rw [← E1] at D1
        rw [← E2] at D2
        have HON : Hid ((d0 && d1 && d2) = t) := bool_same (onto_iff l d0 d1 d2 E0 E1 E2) (unhide HT) Iff.rfl
        clear E0 E1 E2
        have hI4 : Ints (w5.alloc (.cells #[.int .i64 x1, .int .i64 x2, .int .i64 x3, .int .i64 x4] 3)) (some ⟨w5.heap.size, 0, none⟩) 4 4 [x1, x2, x3, x4] := ints4 _ _ _ _ _
        have hb8 : Below w5.heap.size w5 (w5.alloc (.cells #[.int .i64 x1, .int .i64 x2, .int .i64 x3, .int .i64 x4] 3)) := (Below.refl _ w5).alloc (Nat.le_refl _) _
        have CS := sameInts_any _ _ _ _ _ _ _ _ _ hI4 ((unhide HI5).later hb8)
        rw [decide_eq_true rfl] at CS
        have CS := hide CS
        have hn8 := (hb8.block _ (Array.getElem?_eq_some_iff.1 (unhide HN5)).1).trans (unhide HN5)
        have HN8 := hide hn8
        have HB8 := hide ((unhide HB6).trans (hb8.mono (unhide HB6).size))
        clear hI4 hb8 hn8
        cases d0 with
        | false =>
          obtain rfl : false = t := unhide HON
          go_wp2_with fail
          refine (unhide D0).mono ?_
          rintro e w6 ⟨rfl, hw6⟩
          subst w6
          go_wp2_with fail
          refine (unhide CS).mono ?_
          rintro e w9 ⟨rfl, hb9⟩
          have hn9 := (hb9.block _ (Array.getElem?_eq_some_iff.1 (unhide HN8)).1).trans (unhide HN8)
          obtain ⟨c0, _⟩ := cell_in hn9 (j := 0) rfl
          obtain ⟨c1, _⟩ := cell_in hn9 (j := 1) rfl
          have HB9 := hide ((unhide HB8).trans (hb9.mono (unhide HB8).size))
          clear hb9 hn9
          go_wp2_with fail
          go_ret
          exact ⟨rfl, unhide HB9⟩
        | true =>
          cases d1 with
          | false =>
            obtain rfl : false = t := unhide HON
            go_wp2_with fail
            refine (unhide D0).mono ?_
            rintro e w6 ⟨rfl, hw6⟩
            subst w6
            go_wp2_with fail
            refine (unhide D1).mono ?_
            rintro e w6 ⟨rfl, hw6⟩
            subst w6
            go_wp2_with fail
            refine (unhide CS).mono ?_
            rintro e w9 ⟨rfl, hb9⟩
            have hn9 := (hb9.block _ (Array.getElem?_eq_some_iff.1 (unhide HN8)).1).trans (unhide HN8)
            obtain ⟨c0, _⟩ := cell_in hn9 (j := 0) rfl
            obtain ⟨c1, _⟩ := cell_in hn9 (j := 1) rfl
            have HB9 := hide ((unhide HB8).trans (hb9.mono (unhide HB8).size))
            clear hb9 hn9
            go_wp2_with fail
            go_ret
            exact ⟨rfl, unhide HB9⟩
          | true =>
            obtain rfl : d2 = t := by have := unhide HON; simpa using this
            go_wp2_with fail
            refine (unhide D0).mono ?_
            rintro e w6 ⟨rfl, hw6⟩
            subst w6
            go_wp2_with fail
            refine (unhide D1).mono ?_
            rintro e w6 ⟨rfl, hw6⟩
            subst w6
            go_wp2_with fail
            refine (unhide D2).mono ?_
            rintro e w6 ⟨rfl, hw6⟩
            subst w6
            go_wp2_with fail
            refine (unhide CS).mono ?_
            rintro e w9 ⟨rfl, hb9⟩
            have hn9 := (hb9.block _ (Array.getElem?_eq_some_iff.1 (unhide HN8)).1).trans (unhide HN8)
            obtain ⟨c0, _⟩ := cell_in hn9 (j := 0) rfl
            obtain ⟨c1, _⟩ := cell_in hn9 (j := 1) rfl
            have HB9 := hide ((unhide HB8).trans (hb9.mono (unhide HB8).size))
            clear hb9 hn9
            go_wp2_with fail
            go_ret
            exact ⟨rfl, unhide HB9⟩
  · have hne : (r == 0) = false := by simp [h0]
    have HNE := hide h0
    clear h0
    go_enter Try.func11, Try.ntmps11
    go_wp2_with fail
    refine (unhide C1).mono ?_
    rintro e w1 ⟨⟨t, rfl, _, ht⟩, hw1⟩
    subst w1
    obtain rfl : t = false := ht (unhide HNE)
    go_wp2_with fail
    refine (unhide C2).mono ?_
    rintro e w2 ⟨⟨u, x1, x2, x3, x4, rfl, _, hu⟩, hb2⟩
    obtain ⟨rfl, rfl, rfl, rfl, rfl⟩ := hu (unhide HNE)
    clear hu ht
    have C3' := hide (unhide C3 _ hb2)
    go_wp2_with fail
    refine (unhide C3').mono ?_
    rintro e w3 ⟨⟨t0, t1, rfl, _, hc⟩, hb3⟩
    obtain ⟨rfl, rfl⟩ := hc (unhide HNE)
    have hb := hb2.trans (hb3.mono hb2.size)
    have HB := hide (hb.alloc hb.size (.cells #[.bool false, .bool false] 34))
    clear hb hb3 hb2 hc
    go_wp2_with fail
    go_ret
    exact ⟨rfl, unhide HB⟩
end Go.Proofs.Ytbbbjpkomnhofaa
