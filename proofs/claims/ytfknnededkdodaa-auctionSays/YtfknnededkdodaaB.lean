import Derived.Test.YtfknnededkdodaaA
namespace Go.Proofs.Ytfknnededkdodaa
open Go.RowKit
/-- The number at a place of a list. -/
def nth (l : List Int) (j : Nat) : Int := l[j]?.getD 0
/-- Bids that may be. -/
def Bl (n : Nat) (v : Nat → Int) : Prop := ∀ j, j < n → 0 ≤ v j ∧ v j ≤ 1000
open Classical in
noncomputable def bE (n : Nat) (v : Nat → Int) : Int := if n < 1 ∨ 4 < n then 7 else if Bl n v then 0 else 9
theorem bE_count {n : Nat} {v : Nat → Int} (h : n < 1 ∨ 4 < n) : bE n v = 7 := by unfold bE; rw [if_pos h]
theorem bE_ok {n : Nat} {v : Nat → Int} (h : ¬ (n < 1 ∨ 4 < n)) (h2 : Bl n v) : bE n v = 0 := by unfold bE; rw [if_neg h, if_pos h2]
theorem bE_value {n : Nat} {v : Nat → Int} (h : ¬ (n < 1 ∨ 4 < n)) (h2 : ¬ Bl n v) : bE n v = 9 := by unfold bE; rw [if_neg h, if_neg h2]
theorem bE_zero {n : Nat} {v : Nat → Int} (h : bE n v = 0) : 1 ≤ n ∧ n ≤ 4 ∧ Bl n v := by
  by_cases h1 : n < 1 ∨ 4 < n
  · rw [bE_count h1] at h; omega
  · by_cases h2 : Bl n v
    · exact ⟨by omega, by omega, h2⟩
    · rw [bE_value h1 h2] at h; omega
theorem Bl.step {k : Nat} {v : Nat → Int} (h : Bl k v) (h1 : 0 ≤ v k) (h2 : v k ≤ 1000) : Bl (k + 1) v := fun j hj => by
  by_cases e : j = k
  · subst e; exact ⟨h1, h2⟩
  · exact h j (by omega)
theorem Ints.nth {w : World} {a : Option Addr} {n c : Nat} {l : List Int} (h : Ints w a n c l) (hn : 0 < n) : ∃ b off, a = some ⟨b, off, none⟩ ∧ b < w.heap.size ∧ ∀ j, j < n → w.cell? ⟨b, off + j, none⟩ = some (.int .i64 (nth l j)) := h.cellAt hn
set_option maxHeartbeats 1000000 in
theorem mayBid_any (a : Option Addr) (n c : Nat) (l : List Int) (w : World) (h : Ints w a n c l) :
    Calls Try.prog 18 #[.slice a n c] w fun e w' => e = .returned (.int .i64 (bE n (nth l))) ∧ w' = w := by
  have h1 := h.2.1
  have h2 := h.2.2.1
  unfold maxLen at h2
  by_cases hn : n < 1 ∨ 4 < n
  · rw [bE_count hn]
    clear h
    rcases hn with hn | hn
    · obtain rfl : n = 0 := by omega
      go_enter Try.func18, Try.ntmps18
      go_wp2
      go_ret
      exact ⟨rfl, rfl⟩
    · go_enter Try.func18, Try.ntmps18
      go_wp2
      go_ret
      exact ⟨rfl, rfl⟩
  · obtain ⟨b, off, rfl, hb, hcell⟩ := h.nth (by omega)
    have hn1 : 1 ≤ n := by omega
    have hn4 : n ≤ 4 := by omega
    have HE := hide (fun q => bE_ok (v := nth l) hn q)
    have HF := hide (fun q => bE_value (v := nth l) hn q)
    clear h hn
    generalize bE n (nth l) = E at *
    generalize nth l = v at *
    go_enter Try.func18, Try.ntmps18
    go_wp2
    go_loop [15, 4] (fun i _ => ∃ k : Nat, k ≤ n ∧ i = .int .i64 k ∧ Bl k v) (fun i _ => n - (intOf i).toNat)
    case atStart => exact ⟨0, Nat.zero_le _, rfl, fun j hj => by omega⟩
    case round =>
      obtain ⟨k, hk, rfl, hB⟩ := hrel
      have HB := hide hB
      clear hB
      by_cases hlt : k < n
      · have hck := hcell k hlt
        have HV : Hid (v k < 0 ∨ 1000 < v k → E = 9) := fun q => unhide HF (fun hh => by have := hh k hlt; omega)
        have HS := hide (fun p q => (unhide HB).step p q)
        clear hcell
        generalize v k = x at *
        by_cases hx : x < 0
        · go_wp2
          go_ret
          exact ⟨ret_int (unhide HV (.inl hx)).symm, rfl⟩
        · by_cases hy : 1000 < x
          · go_wp2
            go_ret
            exact ⟨ret_int (unhide HV (.inr hy)).symm, rfl⟩
          · go_wp2
            exact ⟨⟨k+1, by omega, by go_num, unhide HS (by omega) (by omega)⟩, by simp [intOf]; omega⟩
      · obtain rfl : n = k := by omega
        go_wp2
        go_ret
        exact ⟨ret_int (unhide HE (unhide HB)).symm, rfl⟩
set_option maxHeartbeats 1000000 in
theorem bidsMay_any (a : Option Addr) (n c : Nat) (l : List Int) (w : World) (h : Ints w a n c l) :
    Calls Try.prog 5 #[.slice a n c] w fun e w' => e = .returned (.int .i64 (bE n (nth l))) ∧ w' = w := by
  have h1 := h.2.1
  have h2 := h.2.2.1
  unfold maxLen at h2
  by_cases hn : n < 1 ∨ 4 < n
  · rw [bE_count hn]
    clear h
    rcases hn with hn | hn
    · obtain rfl : n = 0 := by omega
      go_enter Try.func5, Try.ntmps5
      go_wp2
      go_ret
      exact ⟨rfl, rfl⟩
    · go_enter Try.func5, Try.ntmps5
      go_wp2
      go_ret
      exact ⟨rfl, rfl⟩
  · obtain ⟨b, off, rfl, hb, hcell⟩ := h.nth (by omega)
    have hn1 : 1 ≤ n := by omega
    have hn4 : n ≤ 4 := by omega
    have HE := hide (fun q => bE_ok (v := nth l) hn q)
    have HF := hide (fun q => bE_value (v := nth l) hn q)
    clear h hn
    generalize bE n (nth l) = E at *
    generalize nth l = v at *
    go_enter Try.func5, Try.ntmps5
    go_wp2
    go_loop [3] (fun i => ∃ k : Nat, k ≤ n ∧ i = .int .i64 k ∧ Bl k v) (fun i => n - (intOf i).toNat)
    case atStart => exact ⟨0, Nat.zero_le _, rfl, fun j hj => by omega⟩
    case round =>
      obtain ⟨k, hk, rfl, hB⟩ := hrel
      have HB := hide hB
      clear hB
      by_cases hlt : k < n
      · have hck := hcell k hlt
        have HV : Hid (v k < 0 ∨ 1000 < v k → E = 9) := fun q => unhide HF (fun hh => by have := hh k hlt; omega)
        have HS := hide (fun p q => (unhide HB).step p q)
        clear hcell
        generalize v k = x at *
        by_cases hx : x < 0
        · go_wp2
          go_ret
          exact ⟨ret_int (unhide HV (.inl hx)).symm, rfl⟩
        · by_cases hy : 1000 < x
          · go_wp2
            go_ret
            exact ⟨ret_int (unhide HV (.inr hy)).symm, rfl⟩
          · go_wp2
            exact ⟨⟨k+1, by omega, by go_num, unhide HS (by omega) (by omega)⟩, by simp [intOf]; omega⟩
      · obtain rfl : n = k := by omega
        go_wp2
        go_ret
        exact ⟨ret_int (unhide HE (unhide HB)).symm, rfl⟩
end Go.Proofs.Ytfknnededkdodaa
