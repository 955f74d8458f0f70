import Derived.Test.YtfphgbdpchdohaaD
namespace Go.Proofs.Ytfphgbdpchdohaa
open Go.RowKit
/-- No machine holds more. -/
def Small (l : List Bal) : Prop := ∀ g ∈ l, g.on ≤ 140737488351232
theorem Small.at {l : List Bal} (h : Small l) {k : Nat} (hk : k < l.length) : (balAt l k).on ≤ 140737488351232 := by
  refine h _ ?_
  unfold balAt
  rw [List.getElem?_eq_getElem hk]
  simp
def HeavyPost (w : World) (e : Ending) (w' : World) : Prop := ∃ hv : Bool, e = .returned (.bool hv) ∧ w' = w
set_option maxHeartbeats 1000000 in
theorem heavy_any (a : Option Addr) (n c : Nat) (l : List Bal) (w : World) (h : Bals w a n c l) (hs : Small l) (hm0 : n ≤ 140737488351232) :
    Calls Try.prog 5 #[.slice a n c] w fun e w' => HeavyPost w e w' := by
  obtain ⟨hn, hc, hm, hg, hrow⟩ := h
  unfold maxLen at hm
  have HN := hide hn
  clear hn hg
  go_enter Try.func5, Try.ntmps5
  go_wp2
  go_loop [3, 4] (fun nv iv => ∃ (z : Int) (k : Nat), nv = .int .i64 z ∧ iv = .int .i64 k ∧ k ≤ n ∧ 0 ≤ z ∧ z ≤ 1000000000000000) (fun _ iv => n - (intOf iv).toNat)
  case atStart => exact ⟨_, 0, rfl, rfl, Nat.zero_le _, by omega, by omega⟩
  case round =>
    obtain ⟨z, k, rfl, rfl, hk, hz0, hz1⟩ := hrel
    by_cases hlt : k < n
    · by_cases hz5 : z ≤ 500
      · obtain ⟨b, off, rfl, hb, hcell⟩ : ∃ b off, a = some ⟨b, off, none⟩ ∧ b < w.heap.size ∧ ∀ j, j < n →
            w.cell? ⟨b, off + j * 2, none⟩ = some (.int .i64 (balAt l j).count) ∧
            w.cell? ⟨b, off + j * 2 + 1, none⟩ = some (.slice (balAt l j).oa (balAt l j).on (balAt l j).oc) := by
          rcases hrow with hz | hrow
          · omega
          · exact hrow
        obtain ⟨h1, h2⟩ := hcell k hlt
        have hsm := hs.at (show k < l.length by have := unhide HN; omega)
        clear hcell hrow
        generalize balAt l k = G at *
        go_wp2
        refine ⟨⟨_, k+1, rfl, by go_num, by omega, by omega, by omega⟩, by simp [intOf]; omega⟩
      · go_wp2
        go_ret
        exact ⟨_, rfl, rfl⟩
    · go_wp2
      go_ret
      exact ⟨_, rfl, rfl⟩
/-- VoteRefuses, walked. -/
theorem dec (z : Int) : (z == 0) = decide (z = 0) := by by_cases h : z = 0 <;> simp [h]
set_option maxRecDepth 100000 in
set_option maxHeartbeats 4000000 in
theorem refuses_any (x : Int) (a : Option Addr) (n c : Nat) (l : List Bal) (oa : Option Addr) (on oc : Nat) (os : List Int) (w : World) (h : Bals w a n c l) (ho : Ints w oa on oc os) (hs : Small l) (hm0 : n ≤ 140737488351232) :
    Calls Try.prog 4 #[.int .i64 x, .slice a n c, .slice oa on oc] w fun e w' => e = .returned (.bool true) ∧ Below w.heap.size w w' := by
  have hoc := ho.2.1
  have hom := ho.2.2.1
  unfold maxLen at hom
  have H := hide h
  clear h ho
  by_cases hz : voteE x l = 0
  · by_cases h100 : 100 < on
    · go_enter Try.func4, Try.ntmps4
      go_wp2_with (go_at_call 5; refine (heavy_any a n c l _ (unhide H) hs hm0).mono ?_; rintro e w1 ⟨hv, rfl, rfl⟩; cases hv)
      all_goals
        go_ret
        exact ⟨rfl, Below.refl _ _⟩
    · go_enter Try.func4, Try.ntmps4
      go_wp2_with (first | (go_at_call 5; refine (heavy_any a n c l _ (unhide H) hs hm0).mono ?_; rintro e w1 ⟨hv, rfl, rfl⟩; cases hv) | (go_at_call 6; refine (voteMay_any x a n c l _ (unhide H)).mono ?_; rintro e w1 ⟨rfl, rfl⟩) | (go_at_call 7; refine (may_any x a n c l _ (unhide H)).mono ?_; rintro e w1 ⟨rfl, hb1⟩))
      all_goals
        go_ret
        first | exact ⟨rfl, Below.refl _ _⟩ | exact ⟨rfl, hb1⟩
  have hzb : (voteE x l == 0) = false := by simpa using hz
  have HZ := hide hz
  clear hz
  by_cases h100 : 100 < on
  · go_enter Try.func4, Try.ntmps4
    go_wp2_with (go_at_call 5; refine (heavy_any a n c l _ (unhide H) hs hm0).mono ?_; rintro e w1 ⟨hv, rfl, rfl⟩; cases hv)
    all_goals
      go_ret
      exact ⟨rfl, Below.refl _ _⟩
  · go_enter Try.func4, Try.ntmps4
    go_wp2_with (first | (go_at_call 5; refine (heavy_any a n c l _ (unhide H) hs hm0).mono ?_; rintro e w1 ⟨hv, rfl, rfl⟩; cases hv) | (go_at_call 6; refine (voteMay_any x a n c l _ (unhide H)).mono ?_; rintro e w1 ⟨rfl, rfl⟩) | (go_at_call 7; refine (may_any x a n c l _ (unhide H)).mono ?_; rintro e w9 ⟨rfl, hb9⟩) | (go_at_call 10; refine (firsts_err x a n c l _ ((unhide H).later hb9) (unhide HZ)).mono ?_; rintro e w10 ⟨rfl, hq10⟩; have hb10 := hb9.trans (hq10.mono hb9.size); unfold two) | (go_at_call 11; refine (borda_err x a n c l _ ((unhide H).later hb10) (unhide HZ)).mono ?_; rintro e w11 ⟨rfl, hq11⟩; have hb11 := hb10.trans (hq11.mono hb10.size); unfold two) | (go_at_call 12; refine (copeland_err x a n c l _ ((unhide H).later hb11) (unhide HZ)).mono ?_; rintro e w12 ⟨rfl, hq12⟩; have hb12 := hb11.trans (hq12.mono hb11.size); unfold two) | (go_at_call 13; refine (smith_err x a n c l _ ((unhide H).later hb12) (unhide HZ)).mono ?_; rintro e w13 ⟨rfl, hq13⟩; have hb13 := hb12.trans (hq13.mono hb12.size); unfold two) | (go_at_call 14; refine (schulze_err x a n c l _ ((unhide H).later hb13) (unhide HZ)).mono ?_; rintro e w14 ⟨rfl, hq14⟩; have hb14 := hb13.trans (hq14.mono hb13.size); unfold two) | (go_at_call 15; refine (runoff_err x a n c l _ ((unhide H).later hb14) (unhide HZ)).mono ?_; rintro e w15 ⟨rfl, hq15⟩; have hb15 := hb14.trans (hq15.mono hb14.size); unfold two) | (go_at_call 16; refine (kemeny_err x a n c l _ ((unhide H).later hb15) (unhide HZ)).mono ?_; rintro e w16 ⟨rfl, hq16⟩; have hb16 := hb15.trans (hq16.mono hb15.size); unfold two) | (go_at_call 17; refine (pairs_err x a n c l _ ((unhide H).later hb16) (unhide HZ)).mono ?_; rintro e w17 ⟨rfl, hq17⟩; have hb17 := hb16.trans (hq17.mono hb16.size); unfold two) | (go_at_call 18; refine (paths_err x a n c l _ ((unhide H).later hb17) (unhide HZ)).mono ?_; rintro e w18 ⟨rfl, hq18⟩; have hb18 := hb17.trans (hq18.mono hb17.size); unfold two) | (go_at_call 19; refine (condorcet_err x a n c l _ ((unhide H).later hb18) (unhide HZ)).mono ?_; rintro e w19 ⟨rfl, hq19⟩; have hb19 := hb18.trans (hq19.mono hb18.size); unfold two) | (go_at_call 20; refine (against_err x a n c l _ ((unhide H).later hb19) (.slice oa on oc) (unhide HZ)).mono ?_; rintro e w20 ⟨rfl, hq20⟩; have hb20 := hb19.trans (hq20.mono hb19.size); unfold two))
    all_goals
      go_ret
      first | exact ⟨rfl, Below.refl _ _⟩ | exact ⟨rfl, hb20⟩
end Go.Proofs.Ytfphgbdpchdohaa
