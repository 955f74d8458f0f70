import Derived.Test.YtbbbjpkomnhofaaRG
import Derived.Test.YtbbbjpkomnhofaaAP
import Derived.Test.YtbbbjpkomnhofaaRU
namespace Go.Proofs.Ytbbbjpkomnhofaa
open Go.RowKit Go.Shelf
theorem agX_iff (l : List Int) : (∀ p, p < 36 → ∀ x, x < 9 → agX l p x) ↔ (∀ i, i < 36 → ∀ p : Pr, agB l i p) := by
  constructor
  · intro h i hi p
    have h1 := p.2.1
    have h2 := p.2.2.1
    have h3 := p.2.2.2
    have := h i hi (3 * p.1.1 + p.1.2) (by omega) (by omega)
    have ex : ax (3 * p.1.1 + p.1.2) = p1 p := by unfold ax p1; rw [show (3 * p.1.1 + p.1.2) / 3 = p.1.1 by omega]
    have ey : ay (3 * p.1.1 + p.1.2) = p2 p := by unfold ay p2; rw [show (3 * p.1.1 + p.1.2) % 3 = p.1.2 by omega]
    rw [ex, ey] at this
    exact this
  · intro h p hp x hx hxy
    exact h p hp ⟨(x / 3, x % 3), by omega, by omega, hxy⟩
theorem apX_iff (l : List Int) : (∀ p, p < 36 → ∀ q, q < 36 → ∀ x, x < 9 → apX l p q x) ↔ (∀ p : Pr, ∀ i, i < 36 → ∀ k, k < i → apB l p i k) := by
  constructor
  · intro h p i hi k hk
    have h1 := p.2.1
    have h2 := p.2.2.1
    have h3 := p.2.2.2
    have := h i hi k (by omega) (3 * p.1.1 + p.1.2) (by omega) (by omega)
    have ex : ax (3 * p.1.1 + p.1.2) = p1 p := by unfold ax p1; rw [show (3 * p.1.1 + p.1.2) / 3 = p.1.1 by omega]
    have ey : ay (3 * p.1.1 + p.1.2) = p2 p := by unfold ay p2; rw [show (3 * p.1.1 + p.1.2) % 3 = p.1.2 by omega]
    rw [ex, ey] at this
    exact this
  · intro h p hp q hq x hx hxy h1 h2
    rcases Nat.lt_trichotomy p q with e | e | e
    · exact (h ⟨(x / 3, x % 3), by omega, by omega, hxy⟩ q hq p e h1.symm h2.symm).symm
    · rw [e]
    · exact h ⟨(x / 3, x % 3), by omega, by omega, hxy⟩ p hp q e h1 h2
theorem bool_same {t u : Bool} {A B : Prop} (h1 : t = true ↔ A) (h2 : u = true ↔ B) (h : B ↔ A) : t = u := by
  rw [Bool.eq_iff_iff, h1, h2, h]
set_option maxRecDepth 100000 in
set_option maxHeartbeats 4000000 in
theorem orderRule_any (a : Option Addr) (n c : Nat) (l : List Int) (w : World) (h : Ints w a n c l) :
    Calls Try.prog 9 #[.slice a n c, .int .i64 (ruE l 6)] w fun e w' => e = .returned (.bool true) ∧ Below w.heap.size w w' := by
  have C1 := hide (agrees_any a n c l w h)
  have C2 := hide (fun X (hX : Below w.heap.size w X) => apart_any a n c l X (h.later hX))
  have C3 := hide (fun X (hX : Below w.heap.size w X) => rulers_any a n c l X (h.later hX))
  have HR : Hid (ruE l 6 = 0 → n = 36 ∧ okF l 6) := fun h0 => by
    unfold ruE at h0
    split at h0
    · split at h0
      · have := h.1; exact ⟨by omega, by assumption⟩
      · cases h0
    · cases h0
  have HH := hide h
  clear h
  generalize ruE l 6 = r at *
  by_cases h0 : r = 0
  · subst h0
    obtain ⟨rfl, hok⟩ := unhide HR rfl
    have HRL : Hid (∀ p, p < 36 → rl l p < 6 ∧ l[p]?.getD 0 = ((rl l p : Nat) : Int)) := fun p hp => by
      have hl := (unhide HH).1
      have := hok p (by omega)
      unfold rl
      omega
    have C5 := hide (fun X (hX : Below w.heap.size w X) => agreesR_any a c l X ((unhide HH).later hX) hok)
    have C6 := hide (fun X (hX : Below w.heap.size w X) => apartR_any a c l X ((unhide HH).later hX) hok)
    obtain ⟨b, off, rfl, hb, hcell⟩ := (unhide HH).cellAt (by omega)
    have HCE := hide hcell
    have hcc := (unhide HH).2.1
    have hcm := (unhide HH).2.2.1
    unfold maxLen at hcm
    clear hcell hok HR HH
    go_enter Try.func9, Try.ntmps9
    go_wp2_with fail
    refine (unhide C1).mono ?_
    rintro e w1 ⟨⟨t, rfl, ht, _⟩, hb1⟩
    have HT := hide (ht rfl)
    clear ht
    have C2' := hide (unhide C2 _ hb1)
    go_wp2_with fail
    refine (unhide C2').mono ?_
    rintro e w2 ⟨⟨u, rfl, hu, _⟩, hb2⟩
    have HU := hide (hu rfl)
    clear hu
    have hb12 := hb1.trans (hb2.mono hb1.size)
    have C3' := hide (unhide C3 _ hb12)
    go_wp2_with fail
    refine (unhide C3').mono ?_
    rintro e w3 ⟨⟨t0, t1, rfl, hc, _⟩, hb3⟩
    have HC := hide (hc rfl)
    clear hc
    have hbx := hb12.trans (hb3.mono hb12.size)
    have HB := hide (hbx.alloc hbx.size (.cells #[.bool t0, .bool t1] 34))
    have hn := World.alloc_heap_new w3 (.cells #[.bool t0, .bool t1] 34)
    have HNW := hide hn
    clear hb3 hb2 hb1 hb12 hbx hn C2' C3' C1 C2 C3
    go_wp2_with fail
    obtain ⟨W4, hW4⟩ : ∃ y, y = w3.alloc (.cells #[.bool t0, .bool t1] 34) := ⟨_, rfl⟩
    obtain ⟨B9, hB9⟩ : ∃ y, y = w3.heap.size := ⟨_, rfl⟩
    rw [← hW4, ← hB9]
    rw [← hW4] at HB HNW
    rw [← hB9] at HNW
    clear hW4 hB9
    go_loop [13, 11, 12] (fun i o1 o2 => ∃ (k : Nat) (s0 s1 : Bool), k ≤ 36 ∧ i = .int .i64 (k : Int) ∧ o1 = .bool s0 ∧ o2 = .bool s1 ∧ (s0 = true ↔ upTo0 l k) ∧ (s1 = true ↔ upTo1 l k)) (fun i _ _ => 36 - (intOf i).toNat)
    case atStart => exact ⟨0, true, true, by omega, rfl, rfl, rfl, ⟨fun _ i hi => by omega, fun _ => rfl⟩, ⟨fun _ i hi => by omega, fun _ => rfl⟩⟩
    case round =>
      obtain ⟨k, s0, s1, hk, rfl, rfl, rfl, h1, h2⟩ := hrel
      have HS := hide (And.intro h1 h2)
      clear h1 h2
      by_cases hlt : k < 36
      · have q := ((unhide HB).cell (p := ⟨b, off + k, none⟩) hb).trans (unhide HCE k hlt)
        rw [(unhide HRL k hlt).2] at q
        obtain ⟨e0, E0⟩ : ∃ e, (((rl l k : Nat) : Int) == (k : Int) / 6) = e := ⟨_, rfl⟩
        obtain ⟨e1, E1⟩ : ∃ e, (((rl l k : Nat) : Int) == (k : Int) % 6) = e := ⟨_, rfl⟩
        have F0 : Hid (e0 = true ↔ rl l k = k / 6) := by show _ ↔ _; rw [← E0, beq_iff_eq]; omega
        have F1 : Hid (e1 = true ↔ rl l k = k % 6) := by show _ ↔ _; rw [← E1, beq_iff_eq]; omega
        have G0 : Hid ((s0 && e0) = true ↔ upTo0 l (k + 1)) := by show _ ↔ _; rw [upTo0_succ, Bool.and_eq_true, (unhide HS).1, unhide F0]
        have G1 : Hid ((s1 && e1) = true ↔ upTo1 l (k + 1)) := by show _ ↔ _; rw [upTo1_succ, Bool.and_eq_true, (unhide HS).2, unhide F1]
        cases s0 with
        | false =>
          cases s1 with
          | false =>
            go_wp2_with fail
            go_round
            case rel => exact ⟨k + 1, _, _, by omega, by go_num, rfl, rfl, unhide G0, unhide G1⟩
            case measure => simp [intOf]; omega
          | true =>
            go_wp2_with fail
            go_round
            case rel => exact ⟨k + 1, _, _, by omega, by go_num, rfl, rfl, unhide G0, unhide G1⟩
            case measure => simp [intOf]; omega
        | true =>
          cases s1 with
          | false =>
            go_wp2_with fail
            go_round
            case rel => exact ⟨k + 1, _, _, by omega, by go_num, rfl, rfl, unhide G0, unhide G1⟩
            case measure => simp [intOf]; omega
          | true =>
            go_wp2_with fail
            go_round
            case rel => exact ⟨k + 1, _, _, by omega, by go_num, rfl, rfl, unhide G0, unhide G1⟩
            case measure => simp [intOf]; omega
      · obtain rfl : k = 36 := by omega
        obtain rfl : s0 = t0 := bool_same (unhide HS).1 (unhide HC).1 Iff.rfl
        obtain rfl : s1 = t1 := bool_same (unhide HS).2 (unhide HC).2 Iff.rfl
        have C5' := hide (unhide C5 _ (unhide HB))
        go_wp2_with fail
        refine (unhide C5').mono ?_
        rintro e w5 ⟨⟨t', rfl, ht'⟩, hb5⟩
        obtain rfl : t' = t := bool_same ht' (unhide HT) (agX_iff l).symm
        have hb6 := (unhide HB).trans (hb5.mono (unhide HB).size)
        have C6' := hide (unhide C6 _ hb6)
        have hn5 := (hb5.block _ (Array.getElem?_eq_some_iff.1 (unhide HNW)).1).trans (unhide HNW)
        have HN5 := hide hn5
        have HB6 := hide hb6
        clear ht' hb5 hb6 hn5
        go_wp2_with fail
        refine (unhide C6').mono ?_
        rintro e w6 ⟨⟨u', rfl, hu'⟩, hb7⟩
        obtain rfl : u' = u := bool_same hu' (unhide HU) (apX_iff l).symm
        have hn6 := (hb7.block _ (Array.getElem?_eq_some_iff.1 (unhide HN5)).1).trans (unhide HN5)
        obtain ⟨c0, _⟩ := cell_in hn6 (j := 0) rfl
        obtain ⟨c1, _⟩ := cell_in hn6 (j := 1) rfl
        have HB7 := hide ((unhide HB6).trans (hb7.mono (unhide HB6).size))
        clear hu' hb7 hn6
        go_wp2_with fail
        go_ret
        exact ⟨rfl, unhide HB7⟩
  · have hne : (r == 0) = false := by simp [h0]
    have HNE := hide h0
    clear h0
    go_enter Try.func9, Try.ntmps9
    go_wp2_with fail
    refine (unhide C1).mono ?_
    rintro e w1 ⟨⟨t, rfl, _, ht⟩, hb1⟩
    obtain rfl : t = false := ht (unhide HNE)
    have C2' := hide (unhide C2 _ hb1)
    go_wp2_with fail
    refine (unhide C2').mono ?_
    rintro e w2 ⟨⟨u, rfl, _, hu⟩, hb2⟩
    obtain rfl : u = false := hu (unhide HNE)
    clear hu ht
    have hb12 := hb1.trans (hb2.mono hb1.size)
    have C3' := hide (unhide C3 _ hb12)
    go_wp2_with fail
    refine (unhide C3').mono ?_
    rintro e w3 ⟨⟨t0, t1, rfl, _, hc⟩, hb3⟩
    obtain ⟨rfl, rfl⟩ := hc (unhide HNE)
    have hb := hb12.trans (hb3.mono hb12.size)
    have HB := hide (hb.alloc hb.size (.cells #[.bool false, .bool false] 34))
    clear hb hb3 hb2 hb1 hb12 hc
    go_wp2_with fail
    go_ret
    exact ⟨rfl, unhide HB⟩
end Go.Proofs.Ytbbbjpkomnhofaa
