import Derived.Test.YtihmbfapbkddeaaZ5
import Derived.Test.YtihmbfapbkddeaaT2
import Derived.Test.YtihmbfapbkddeaaS
namespace Go.Proofs.Ytihmbfapbkddeaa
open Go.RowKit
/-- A list and an error. -/
def Told (l : List Int) (z : Int) (w : World) (e : Ending) (w' : World) : Prop :=
  ∃ a m c, e = .returned (two (.slice a m c) z) ∧ Ints w' a m c l ∧ Below w.heap.size w w'
theorem nil_ints (w : World) : Ints w none 0 0 [] := ⟨rfl, Nat.le_refl _, by unfold maxLen; omega, .inl rfl⟩
theorem ro_form (WL : List Sl) (n : Nat) (hn : n = WL.length) : ∃ l z, ∀ w e w', RoPost WL n w e w' → Told l z w e w' := by
  by_cases hz : tE WL n = 0
  · obtain ⟨_, hr, _, _⟩ := tr_ok hn hz
    have hw : ∀ i, ∀ x ∈ lisA WL i, 0 ≤ x := fun i x hx => (hr i x hx).1
    have hf : ∀ i, ∀ x ∈ ownF n i, 0 ≤ x := fun i x hx => by
      unfold ownF at hx
      by_cases c : i < n
      · rw [if_pos c, List.mem_singleton] at hx; omega
      · rw [if_neg c] at hx; cases hx
    by_cases hex : ∃ T kk, Reach n (lisA WL) (ownF n) kk (Ex0 fun _ => 1) T ∧ Done n T
    · obtain ⟨T, kk, h1, h2⟩ := hex
      refine ⟨gotL T n, 0, fun w e w' ⟨hb, h⟩ => ?_⟩
      rcases h with h | ⟨_, a, c, T2, k2, he, hI, h3, h4⟩
      · exact absurd hz h.1
      · obtain rfl : T = T2 := reach_one hw hf k2 kk _ T T2 h1 h2 h3 h4
        exact ⟨a, n, c, he, hI, hb⟩
    · refine ⟨[], 0, fun w e w' ⟨hb, h⟩ => ?_⟩
      rcases h with h | ⟨_, a, c, T2, k2, he, hI, h3, h4⟩
      · exact absurd hz h.1
      · exact absurd ⟨T2, k2, h3, h4⟩ hex
  · refine ⟨[], tE WL n, fun w e w' ⟨hb, h⟩ => ?_⟩
    rcases h with h | h
    · exact ⟨none, 0, 0, h.2, nil_ints _, hb⟩
    · exact absurd h.1 hz
theorem tu_form (WL : List Sl) (n : Nat) (tl : List Int) : ∃ l z, ∀ w e w', TuPost WL n tl w e w' → Told l z w e w' := by
  by_cases hz : tE WL n = 0
  · by_cases hz2 : ordE tl n = 0
    · refine ⟨(List.range n).map (tAll (lisA WL) tl n).2, 0, fun w e w' ⟨hb, h⟩ => ?_⟩
      rcases h with h | h | ⟨_, _, a, c, he, hI⟩
      · exact absurd hz h.1
      · exact absurd hz2 h.2.1
      · exact ⟨a, n, c, he, hI, hb⟩
    · refine ⟨[], ordE tl n, fun w e w' ⟨hb, h⟩ => ?_⟩
      rcases h with h | h | h
      · exact absurd hz h.1
      · exact ⟨none, 0, 0, h.2.2, nil_ints _, hb⟩
      · exact absurd h.2.1 hz2
  · refine ⟨[], tE WL n, fun w e w' ⟨hb, h⟩ => ?_⟩
    rcases h with h | h | h
    · exact ⟨none, 0, 0, h.2, nil_ints _, hb⟩
    · exact absurd h.1 hz
    · exact absurd h.1 hz
theorem cor_form (WL : List Sl) (n : Nat) (tl : List Int) : ∃ b s e, corV WL n tl = three b s e := by
  unfold corV
  by_cases hz : tE WL n ≠ 0
  · rw [if_pos hz]; exact ⟨_, _, _, rfl⟩
  · rw [if_neg hz]
    by_cases hz2 : ordE tl n ≠ 0
    · rw [if_pos hz2]; exact ⟨_, _, _, rfl⟩
    · rw [if_neg hz2]
      cases findF (fun s => dealL (lisA WL) tl (whoL s n) s false) (2 ^ n) 0 with
      | none => exact ⟨_, _, _, rfl⟩
      | some s => exact ⟨_, _, _, rfl⟩
set_option maxRecDepth 100000 in
set_option maxHeartbeats 8000000 in
theorem tradeSays_any (n tn un : Nat) (wa : Option Addr) (wc : Nat) (WL : List Sl) (ta : Option Addr) (tc : Nat) (tl : List Int) (ua : Option Addr) (uc : Nat) (ul : List Int) (w : World) (hW : Lsts w wa n wc WL) (hT : Ints w ta tn tc tl) (hU : Ints w ua un uc ul)
    (hWs : ∀ s ∈ WL, s.ln ≤ 140737488351232) (hWn : n ≤ 140737488351232) :
    Calls Try.prog 3 #[.slice wa n wc, .slice ta tn tc, .slice ua un uc] w fun e w' => e = .returned (.bool true) ∧ Below w.heap.size w w' := by
  have h1 := hT.2.1
  have h2 := hT.2.2.1
  have h3 := hU.2.1
  have h4 := hU.2.2.1
  have h5 := hW.2.1
  have h6 := hW.2.2.1
  unfold maxLen at h2 h4 h6
  have CW := hide (heavy_any wa n wc WL w hW hWs hWn)
  obtain ⟨l1, z1, hro⟩ := ro_form WL n hW.1
  obtain ⟨l2, z2, htu⟩ := tu_form WL n tl
  obtain ⟨cb, cs, ce, hcv⟩ := cor_form WL n ul
  have C8 := hide (fun W (hb : Below w.heap.size w W) => (rounds_any n wa wc WL W (hW.later hb)).mono fun e w' h => hro W e w' h)
  have C9 := hide (fun W (hb : Below w.heap.size w W) => (roundsR_any n wa wc WL W (hW.later hb)).mono fun e w' h => hro W e w' h)
  have C13 := hide (fun W (hb : Below w.heap.size w W) => (turns_any n wa wc WL ta tn tc tl W (hW.later hb) (hT.later hb)).mono fun e w' h => htu W e w' h)
  have C14 := hide (fun W (hb : Below w.heap.size w W) => (turnsR_any n wa wc WL ta tn tc tl W (hW.later hb) (hT.later hb)).mono fun e w' h => htu W e w' h)
  have C10 := hide (fun W (hb : Below w.heap.size w W) => tmay_any n wa wc WL W (hW.later hb))
  have C11 := hide (fun W (hb : Below w.heap.size w W) => tradeMay_any n wa wc WL W (hW.later hb))
  have D15 := fun W (hb : Below w.heap.size w W) => core_any n wa wc WL ua un uc ul W (hW.later hb) (hU.later hb)
  have D16 := fun W (hb : Below w.heap.size w W) => refCore_any n wa wc WL ua un uc ul W (hW.later hb) (hU.later hb)
  rw [hcv] at D15 D16
  unfold three at D15 D16
  have C15 := hide D15
  have C16 := hide D16
  generalize tE WL n = z0 at *
  clear hW hT hU hWs hro htu hcv D15 D16
  obtain ⟨sm, zs⟩ : ∃ sm : Int, IntKind.i64.wrap ((tn : Int) + (un : Int)) = sm := ⟨_, rfl⟩
  go_enter Try.func3, Try.ntmps3
  go_wp2_with fail
  refine (unhide CW).mono ?_
  rintro e w1 ⟨hv1, rfl, _, hw1⟩
  subst w1
  cases hv1 with
  | true =>
    go_wp2
    go_ret
    exact ⟨rfl, Below.refl _ _⟩
  | false =>
  by_cases h100 : 100 < sm
  · have d1 : decide (100 < sm) = true := decide_eq_true h100
    go_wp2
    go_ret
    exact ⟨rfl, Below.refl _ _⟩
  have d1 : decide (100 < sm) = false := decide_eq_false h100
  by_cases h6n : n = 6
  · have d2 : decide (5 < (n : Int)) = true := decide_eq_true (by omega)
    have d3 : decide ((n : Int) < 7) = true := decide_eq_true (by omega)
    clear h6n
    go_wp2
    go_ret
    exact ⟨rfl, Below.refl _ _⟩
  go_wp2_with fail
  all_goals
    refine (unhide C8 w (Below.refl _ _)).mono ?_
    rintro e w1 ⟨a1, m1, c1, rfl, hI1, hb1⟩
    unfold two
    go_wp2_with fail
    refine (unhide C9 w1 hb1).mono ?_
    rintro e w2 ⟨a2, m2, c2, rfl, hI2, hb2⟩
    unfold two
    have hbb := hb1.trans (hb2.mono hb1.size)
    have S1 := sameInts_any a1 a2 m1 c1 m2 c2 l1 l1 w2 (hI1.later hb2) hI2
    rw [decide_eq_true rfl] at S1
    have CS1 := hide S1
    clear S1 hI1 hI2
    go_wp2_with (first | (go_at_call 10; refine (unhide C10 w2 hbb).mono ?_; rintro e w9 ⟨rfl, hw9⟩; subst w9) | (go_at_call 11; refine (unhide C11 w2 hbb).mono ?_; rintro e w9 ⟨rfl, hw9⟩; subst w9) | (go_at_call 12; refine (unhide CS1).mono ?_; rintro e w3 ⟨rfl, hb3⟩) | (go_at_call 13; have hbc := hbb.trans (hb3.mono hbb.size); refine (unhide C13 w3 hbc).mono ?_; rintro e w4 ⟨a4, m4, c4, rfl, hI4, hb4⟩; unfold two) | fail)
    have hbd := hbc.trans (hb4.mono hbc.size)
    refine (unhide C14 w4 hbd).mono ?_
    rintro e w5 ⟨a5, m5, c5, rfl, hI5, hb5⟩
    unfold two
    have hbe := hbd.trans (hb5.mono hbd.size)
    have S2 := sameInts_any a4 a5 m4 c4 m5 c5 l2 l2 w5 (hI4.later hb5) hI5
    rw [decide_eq_true rfl] at S2
    have CS2 := hide S2
    clear S2 hI4 hI5
    go_wp2_with (first | (go_at_call 12; refine (unhide CS2).mono ?_; rintro e w6 ⟨rfl, hb6⟩) | (go_at_call 15; have hbf := hbe.trans (hb6.mono hbe.size); refine (unhide C15 w6 hbf).mono ?_; rintro e w7 ⟨rfl, hb7⟩))
    have hbg := hbf.trans (hb7.mono hbf.size)
    refine (unhide C16 w7 hbg).mono ?_
    rintro e w8 ⟨rfl, hb8⟩
    cases cb <;>
    · go_wp2
      go_ret
      exact ⟨by simp, hbg.trans (hb8.mono hbg.size)⟩
end Go.Proofs.Ytihmbfapbkddeaa
