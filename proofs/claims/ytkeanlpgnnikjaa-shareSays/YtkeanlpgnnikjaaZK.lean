import Derived.Test.YtkeanlpgnnikjaaZI
import Derived.Test.YtkeanlpgnnikjaaZJ
import Derived.Test.YtkeanlpgnnikjaaZH
import Derived.Test.YtkeanlpgnnikjaaZG
namespace Go.Proofs.Ytkeanlpgnnikjaa
open Go.RowKit
def EnvB (F : Nat) (a : Option Addr) (n c : Nat) (a' : Option Addr) (m c' : Nat) (er : Int) (nn : Nat) (rows : List (List Int)) (w : World) : Prop :=
  ∀ W, Below w.heap.size w W → Calls Try.prog F #[.slice a n c, .slice a' m c'] W fun e w' => ∃ aa cc LL, e = .returned (two (.slice aa nn cc) er) ∧ Lsts w' aa nn cc LL ∧ lists LL = rows ∧ Below W.heap.size W w'
theorem lsts_nil (w : World) : Lsts w none 0 0 [] := ⟨rfl, Nat.le_refl _, by unfold maxLen; omega, (fun s hs => by cases hs), .inl rfl⟩
theorem ints_nil (w : World) : Ints w none 0 0 [] := ⟨rfl, Nat.le_refl _, by unfold maxLen; omega, .inl rfl⟩
theorem env_both (a : Option Addr) (n c : Nat) (L : List Sl) (a' : Option Addr) (m c' : Nat) (gl : List Int) (w : World) (h : Lsts w a n c L) (h' : Ints w a' m c' gl) : ∃ er nn rows, EnvB 9 a n c a' m c' er nn rows w ∧ EnvB 10 a n c a' m c' er nn rows w := by
  by_cases hz : smE L = 0
  · have hV := smE_vals hz
    rw [← h.1] at hV
    obtain ⟨G, hG⟩ : ∃ G, (slAt L 0).ln = G := ⟨_, rfl⟩
    rw [hG] at hV
    by_cases hm : m = G
    · subst hm
      by_cases hbad : ∃ j, j < m ∧ BadW n (nth gl j)
      · refine ⟨8, 0, [], fun W hW => (envyP_any a n c m L a' c' gl W (h.later hW) hV (h'.later hW)).mono ?_, fun W hW => (envyR_any a n c m L a' c' gl W (h.later hW) hV (h'.later hW)).mono ?_⟩
        · rintro e w' (⟨hq, -⟩ | ⟨-, rfl, hb⟩)
          · obtain ⟨j, j1, j2⟩ := hbad
            exact absurd j2 (hq j j1)
          · exact ⟨none, 0, [], rfl, lsts_nil _, rfl, hb⟩
        · rintro e w' (⟨hq, -⟩ | ⟨-, rfl, hb⟩)
          · obtain ⟨j, j1, j2⟩ := hbad
            exact absurd j2 (hq j j1)
          · exact ⟨none, 0, [], rfl, lsts_nil _, rfl, hb⟩
      · refine ⟨0, n, rowsL (levT L (nth gl) m) n n, fun W hW => (envyP_any a n c m L a' c' gl W (h.later hW) hV (h'.later hW)).mono ?_, fun W hW => (envyR_any a n c m L a' c' gl W (h.later hW) hV (h'.later hW)).mono ?_⟩
        · rintro e w' (⟨-, aa, cc, LL, he, hl, hr, hb⟩ | ⟨hq, -⟩)
          · exact ⟨aa, cc, LL, he, hl, hr, hb⟩
          · exact absurd hq hbad
        · rintro e w' (⟨-, aa, cc, LL, he, hl, hr, hb⟩ | ⟨hq, -⟩)
          · exact ⟨aa, cc, LL, he, hl, hr, hb⟩
          · exact absurd hq hbad
    · refine ⟨7, 0, [], fun W hW => (envyP_len a n c G L a' m c' gl W (h.later hW) hV (h'.later hW) hm).mono ?_, fun W hW => (envyR_len a n c G L a' m c' gl W (h.later hW) hV (h'.later hW) hm).mono ?_⟩
      · rintro e w' ⟨rfl, rfl⟩
        exact ⟨none, 0, [], rfl, lsts_nil _, rfl, Below.refl _ _⟩
      · rintro e w' ⟨rfl, hb⟩
        exact ⟨none, 0, [], rfl, lsts_nil _, rfl, hb⟩
  · refine ⟨smE L, 0, [], fun W hW => (envyP_err a n c L a' m c' W (h.later hW) hz).mono ?_, fun W hW => (envyR_err a n c L a' m c' W (h.later hW) hz).mono ?_⟩
    · rintro e w' ⟨rfl, rfl⟩
      exact ⟨none, 0, [], rfl, lsts_nil _, rfl, Below.refl _ _⟩
    · rintro e w' ⟨rfl, hb⟩
      exact ⟨none, 0, [], rfl, lsts_nil _, rfl, hb⟩
set_option maxRecDepth 100000 in
set_option maxHeartbeats 8000000 in
theorem shareSays_any (a : Option Addr) (n c : Nat) (L : List Sl) (a' : Option Addr) (m c' : Nat) (gl : List Int) (w : World) (h : Lsts w a n c L) (h' : Ints w a' m c' gl) (hs : ∀ s ∈ L, s.ln ≤ 140737488351232) (hn : n ≤ 140737488351232) :
    Calls Try.prog 3 #[.slice a n c, .slice a' m c'] w fun e w' => e = .returned (.bool true) ∧ Below w.heap.size w w' := by
  have CH := hide (heavy_any a n c L w h hs hn)
  obtain ⟨er, nn, rows, hE9, hE10⟩ := env_both a n c L a' m c' gl w h h'
  have C9 := hide hE9
  have C10 := hide hE10
  have hl := h.1
  have m1 := h'.2.1
  have m2 := h'.2.2.1
  have n1' := h.2.1
  have n2' := h.2.2.1
  unfold maxLen at m2 n2'
  have hee : (er == er) = true := by simp
  have C7 : Hid (∀ W, Below w.heap.size w W → Calls Try.prog 7 #[.slice a n c] W fun e w' => e = .returned (.int .i64 (smE L)) ∧ Below W.heap.size W w') := fun W hW => shareMay_any a n c L W (h.later hW)
  have C11 : Hid (∀ W, Below w.heap.size w W → Calls Try.prog 11 #[.slice a n c] W fun e w' => e = .returned (.int .i64 (smE L)) ∧ w' = W) := fun W hW => may_any a n c L W (h.later hW)
  clear hs hE9 hE10
  by_cases hz : smE L = 0
  · have hV := smE_vals hz
    rw [← hl] at hV
    obtain ⟨G, hG⟩ : ∃ G, (slAt L 0).ln = G := ⟨_, rfl⟩
    rw [hG] at hV
    rw [hz] at C7 C11
    have hn1 := hV.n1
    have hn4 := hV.n4
    have hg8 := hV.g8
    have C8 : Hid (∀ W, Below w.heap.size w W → Calls Try.prog 8 #[.slice a n c] W fun e w' => ∃ g, e = .returned (two (.slice (some ⟨g, 0, none⟩) G G) 0) ∧ Row W.heap.size w' (some ⟨g, 0, none⟩) G (trF (vl L) n G G) ∧ Below W.heap.size W w') := fun W hW => turns_ok a n c G L W (h.later hW) hV
    have C13 : Hid (∀ W, Below w.heap.size w W → Calls Try.prog 13 #[.slice a n c] W fun e w' => ∃ q aa cc, bestG (fun o => qN (vl L) (nth o) G n) (fun o => qP (vl L) (nth o) G n) (wL n G []) = some q ∧ Wy n G q ∧ e = .returned (two (.slice aa G cc) 0) ∧ Ints w' aa G cc q ∧ Below W.heap.size W w') := fun W hW => even_ok a n c G L W (h.later hW) hV
    have C15 : Hid (∀ W, Below w.heap.size w W → Calls Try.prog 15 #[.slice a n c] W fun e w' => ∃ va cc, e = .returned (.slice va G cc) ∧ Ints w' va G cc (lF G (trF (vl L) n G G)) ∧ Below W.heap.size W w') := fun W hW => turnsR_any a n c G L W (h.later hW) hV
    have C16 : Hid (∀ W, Below w.heap.size w W → Calls Try.prog 16 #[.slice a n c, .slice none 0 0] W (REPost n G L (wL n G []) W)) := fun W hW => evenR_any hV G 0 [] none 0 W (by omega) (h.later hW) (ints_nil W)
    unfold REPost at C16
    obtain ⟨b, off, rfl, hb, hcell⟩ := h.cellAt hn1
    have HC0 : Hid (∀ W, Below w.heap.size w W → W.cell? ⟨b, off, none⟩ = some (.slice (slAt L 0).la G (slAt L 0).lc)) := fun W hW => by have := (hW.cell (p := ⟨b, off + 0, none⟩) hb).trans (hcell 0 hn1); rw [Nat.add_zero, hV.row 0 hn1] at this; exact this
    have i1 := (h.mem hn1).2.1
    have i2 := (h.mem hn1).2.2.1
    rw [hV.row 0 hn1] at i1
    unfold maxLen at i2
    clear h h' hz hl hV hG hcell
    generalize (slAt L 0).la = la0 at *
    generalize (slAt L 0).lc = lc0 at *
    generalize trF (vl L) n G G = tr at *
    generalize bestG (fun o => qN (vl L) (nth o) G n) (fun o => qP (vl L) (nth o) G n) (wL n G []) = bb at *
    go_enter Try.func3, Try.ntmps3
    go_wp2_with fail
    refine (unhide CH).mono ?_
    rintro e w2 ⟨hvy, rfl, -, hw2⟩
    subst w2
    cases hvy with
    | true =>
      go_wp2
      go_ret
      exact ⟨rfl, Below.refl _ _⟩
    | false =>
      by_cases hm : 100 < m
      · go_wp2
        go_ret
        exact ⟨rfl, Below.refl _ _⟩
      · have C7a := hide (unhide C7 w (Below.refl _ _))
        go_wp2_with fail
        refine (unhide C7a).mono ?_
        rintro e w1 ⟨rfl, hb1⟩
        have C8a := hide (unhide C8 w1 hb1)
        go_wp2_with fail
        refine (unhide C8a).mono ?_
        rintro e w2 ⟨g, rfl, hrow, hb2⟩
        unfold two
        have HIA := hide (hrow.ints (l := lF G tr) (cap := G) (lF_len _ _).symm (Nat.le_refl _) (by unfold maxLen; omega) (fun j hj => (lF_at hj).symm))
        clear hrow
        have hb12 := hb1.trans (hb2.mono hb1.size)
        have C9a := hide (unhide C9 w2 hb12)
        go_wp2_with fail
        refine (unhide C9a).mono ?_
        rintro e w3 ⟨aa, cc, LL, rfl, hL3, hr3, hb3⟩
        unfold two
        have hb13 := hb12.trans (hb3.mono hb12.size)
        have C10a := hide (unhide C10 w3 hb13)
        go_wp2_with fail
        refine (unhide C10a).mono ?_
        rintro e w4 ⟨aa', cc', LL', rfl, hL4, hr4, hb4⟩
        unfold two
        have hb14 := hb13.trans (hb4.mono hb13.size)
        have C11a := hide (unhide C11 w4 hb14)
        have C12 := hide (sameLists_any nn aa aa' cc cc' LL LL' w4 (hL3.later hb4) hL4 (by rw [hr3, hr4]))
        clear hL3 hL4 hr3 hr4
        go_wp2_with fail
        refine (unhide C11a).mono ?_
        rintro e w5 ⟨rfl, hw5⟩
        subst w5
        go_wp2_with fail
        refine (unhide C12).mono ?_
        rintro e w5 ⟨rfl, hb5⟩
        have hb15 := hb14.trans (hb5.mono hb14.size)
        have C13a := hide (unhide C13 w5 hb15)
        go_wp2_with fail
        refine (unhide C13a).mono ?_
        rintro e w6 ⟨q, ae, ce, hbq, -, rfl, hIq, hb6⟩
        unfold two
        have hb16 := hb15.trans (hb6.mono hb15.size)
        have hc0 := unhide HC0 w6 hb16
        have HIA6 := hide ((((((unhide HIA).later hb3).later hb4).later hb5).later hb6))
        have HIQ := hide hIq
        have HBQ := hide hbq
        have HB := hide hb16
        clear hIq hbq HIA C7 C8 C9 C10 C11 C13 C7a C8a C9a C10a C11a C13a C12 HC0 CH hb1 hb2 hb3 hb4 hb5 hb6 hb12 hb13 hb14 hb15 hb16
        go_wp2
        go_loop [14, 13] (fun i mm => ∃ (k : Nat) (M : Int), k ≤ G ∧ i = .int .i64 k ∧ mm = .int .i64 M ∧ 1 ≤ M ∧ M ≤ 4400) (fun i _ => G - (intOf i).toNat)
        case atStart => exact ⟨0, 1, Nat.zero_le _, rfl, rfl, by omega, by omega⟩
        case round =>
          obtain ⟨k, M, hk, rfl, rfl, M1, M2⟩ := hrel
          by_cases hgo : k < G ∧ M ≤ 1100
          · obtain ⟨g1, g2⟩ := hgo
            have hmul : 1 ≤ M * n ∧ M * n ≤ 4400 := by
              have a1 : 1 * 1 ≤ M * (n : Int) := Int.mul_le_mul M1 (by omega) (by omega) (by omega)
              have a2 : M * (n : Int) ≤ 1100 * 4 := Int.mul_le_mul g2 (by omega) (by omega) (by omega)
              omega
            have hw : wrap64 (M * n) = M * n := wrap64_in _ (by omega) (by omega)
            go_wp2
            exact ⟨⟨k + 1, M * n, by omega, by go_num, rfl, hmul.1, hmul.2⟩, by simp [intOf]; omega⟩
          · have C15a := hide (unhide C15 w6 (unhide HB))
            have HFIN : Hid (∀ w8, Below w6.heap.size w6 w8 → Below w.heap.size w w8) := fun w8 h8 => (unhide HB).trans (h8.mono (unhide HB).size)
            have HT : Hid (∀ w7 va cv, Ints w7 va G cv (lF G tr) → Below w6.heap.size w6 w7 → Calls Try.prog 14 #[.slice (some ⟨g, 0, none⟩) G G, .slice va G cv] w7 fun e w' => e = .returned (.bool true) ∧ Below w7.heap.size w7 w') := fun w7 va cv hI h7 => by
              have := sameInts_any _ _ _ _ _ _ _ _ w7 ((unhide HIA6).later h7) hI
              rw [decide_eq_true rfl] at this
              exact this
            have HT2 : Hid (∀ w7 va cv q', Ints w7 va G cv q' → bb = some q' → Below w6.heap.size w6 w7 → Calls Try.prog 14 #[.slice ae G ce, .slice va G cv] w7 fun e w' => e = .returned (.bool true) ∧ Below w7.heap.size w7 w') := fun w7 va cv q' hI hq h7 => by
              have hqq : q = q' := by have := unhide HBQ; rw [hq] at this; cases this; rfl
              subst hqq
              have := sameInts_any _ _ _ _ _ _ _ _ w7 ((unhide HIQ).later h7) hI
              rw [decide_eq_true rfl] at this
              exact this
            have d5 := (unhide HIQ).2.1
            have d6 := (unhide HIQ).2.2.1
            unfold maxLen at d6
            by_cases g1 : k < G
            · have g2 : ¬ M ≤ 1100 := fun q => hgo ⟨g1, q⟩
              have g3 : (1100 : Int) < M := by omega
              clear hgo
              go_wp2_with fail
              refine (unhide C15a).mono ?_
              rintro e w7 ⟨va, cv, rfl, hI7, hb7⟩
              have C14a := hide (unhide HT w7 va cv hI7 hb7)
              go_wp2_with fail
              refine (unhide C14a).mono ?_
              rintro e w8 ⟨rfl, hb8⟩
              go_wp2
              go_ret
              exact ⟨rfl, unhide HFIN w8 (hb7.trans (hb8.mono hb7.size))⟩
            · by_cases g3 : (1100 : Int) < M
              · clear hgo
                go_wp2_with fail
                refine (unhide C15a).mono ?_
                rintro e w7 ⟨va, cv, rfl, hI7, hb7⟩
                have C14a := hide (unhide HT w7 va cv hI7 hb7)
                go_wp2_with fail
                refine (unhide C14a).mono ?_
                rintro e w8 ⟨rfl, hb8⟩
                go_wp2
                go_ret
                exact ⟨rfl, unhide HFIN w8 (hb7.trans (hb8.mono hb7.size))⟩
              · clear hgo
                go_wp2_with fail
                refine (unhide C15a).mono ?_
                rintro e w7 ⟨va, cv, rfl, hI7, hb7⟩
                have C14a := hide (unhide HT w7 va cv hI7 hb7)
                go_wp2_with fail
                refine (unhide C14a).mono ?_
                rintro e w8 ⟨rfl, hb8⟩
                have hb68 := hb7.trans (hb8.mono hb7.size)
                have C16a := hide (unhide C16 w8 (unhide HFIN w8 hb68))
                go_wp2_with fail
                refine (unhide C16a).mono ?_
                rintro e w9 ⟨q', va', cv', hq', rfl, hI9, hb9⟩
                have hb69 := hb68.trans (hb9.mono hb68.size)
                have C14b := hide (unhide HT2 w9 va' cv' q' hI9 hq' hb69)
                go_wp2_with fail
                refine (unhide C14b).mono ?_
                rintro e w10 ⟨rfl, hb10⟩
                go_wp2
                go_ret
                exact ⟨rfl, unhide HFIN w10 (hb69.trans (hb10.mono hb69.size))⟩
  · have C8 : Hid (∀ W, Below w.heap.size w W → Calls Try.prog 8 #[.slice a n c] W fun e w' => e = .returned (two (.slice none 0 0) (smE L)) ∧ w' = W) := fun W hW => turns_err a n c L W (h.later hW) hz
    have C13 : Hid (∀ W, Below w.heap.size w W → Calls Try.prog 13 #[.slice a n c] W fun e w' => e = .returned (two (.slice none 0 0) (smE L)) ∧ Below W.heap.size W w') := fun W hW => even_err a n c L W (h.later hW) hz
    have hzb : (smE L == 0) = false := by simpa using hz
    have hEE : (smE L == smE L) = true := by simp
    have hnz : (smE L != 0) = true := by simpa using hz
    clear h h' hz hl
    generalize smE L = E at *
    go_enter Try.func3, Try.ntmps3
    go_wp2_with fail
    refine (unhide CH).mono ?_
    rintro e w2 ⟨hvy, rfl, -, hw2⟩
    subst w2
    cases hvy with
    | true =>
      go_wp2
      go_ret
      exact ⟨rfl, Below.refl _ _⟩
    | false =>
      by_cases hm : 100 < m
      · go_wp2
        go_ret
        exact ⟨rfl, Below.refl _ _⟩
      · have C7a := hide (unhide C7 w (Below.refl _ _))
        go_wp2_with fail
        refine (unhide C7a).mono ?_
        rintro e w1 ⟨rfl, hb1⟩
        have C8a := hide (unhide C8 w1 hb1)
        go_wp2_with fail
        refine (unhide C8a).mono ?_
        rintro e w2 ⟨rfl, hw2⟩
        subst w2
        unfold two
        have C9a := hide (unhide C9 w1 hb1)
        go_wp2_with fail
        refine (unhide C9a).mono ?_
        rintro e w3 ⟨aa, cc, LL, rfl, hL3, hr3, hb3⟩
        unfold two
        have hb13 := hb1.trans (hb3.mono hb1.size)
        have C10a := hide (unhide C10 w3 hb13)
        go_wp2_with fail
        refine (unhide C10a).mono ?_
        rintro e w4 ⟨aa', cc', LL', rfl, hL4, hr4, hb4⟩
        unfold two
        have hb14 := hb13.trans (hb4.mono hb13.size)
        have C11a := hide (unhide C11 w4 hb14)
        have C12 := hide (sameLists_any nn aa aa' cc cc' LL LL' w4 (hL3.later hb4) hL4 (by rw [hr3, hr4]))
        clear hL3 hL4 hr3 hr4
        go_wp2_with fail
        refine (unhide C11a).mono ?_
        rintro e w5 ⟨rfl, hw5⟩
        subst w5
        go_wp2_with fail
        refine (unhide C12).mono ?_
        rintro e w5 ⟨rfl, hb5⟩
        have hb15 := hb14.trans (hb5.mono hb14.size)
        have C13a := hide (unhide C13 w5 hb15)
        go_wp2_with fail
        refine (unhide C13a).mono ?_
        rintro e w6 ⟨rfl, hb6⟩
        unfold two
        go_wp2
        go_ret
        exact ⟨rfl, hb15.trans (hb6.mono hb15.size)⟩
end Go.Proofs.Ytkeanlpgnnikjaa
