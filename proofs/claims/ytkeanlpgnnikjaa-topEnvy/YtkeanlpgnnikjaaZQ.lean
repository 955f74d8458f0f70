import Derived.Test.YtkeanlpgnnikjaaZI
import Derived.Test.YtkeanlpgnnikjaaN
namespace Go.Proofs.Ytkeanlpgnnikjaa
open Go.RowKit
theorem rows_at2 {LL : List Sl} {p : Nat → Nat → Int} {n G i : Nat} (h : lists LL = rowsL p G n) (hi : i < n) : (slAt LL i).ints = lF G (p i) := by
  have h1 : (lists LL)[i]? = (rowsL p G n)[i]? := by rw [h]
  unfold lists rowsL at h1
  rw [List.getElem?_map, List.getElem?_map, List.getElem?_range hi] at h1
  unfold slAt
  cases hq : LL[i]? with
  | none => rw [hq] at h1; cases h1
  | some s => rw [hq] at h1; simp at h1; simp only [Option.getD_some]; exact h1
set_option maxRecDepth 100000 in
set_option maxHeartbeats 8000000 in
theorem calm_any (a : Option Addr) (n c G : Nat) (L : List Sl) (a' : Option Addr) (c' : Nat) (gl : List Int) (w : World) (h : Lsts w a n c L) (hV : Vals n G L) (h' : Ints w a' G c' gl) (hf : ∀ g, g < G → ∃ x : Nat, x < n ∧ nth gl g = (x : Int)) (hE : EF (vl L) (nth gl) n G) :
    Calls Try.prog 21 #[.slice a n c, .slice a' G c'] w fun e w' => e = .returned (.bool true) ∧ Below w.heap.size w w' := by
  have hn1 := hV.n1
  have hn4 := hV.n4
  have hg8 := hV.g8
  have n1' := h.2.1
  have n2' := h.2.2.1
  unfold maxLen at n2'
  have HLEN := hide h'.1
  have CE : Hid (Calls Try.prog 9 #[.slice a n c, .slice a' G c'] w fun e w' => EnvPost n (rowsL (levT L (nth gl) G) n n) w e w') := by
    refine (envyP_any a n c G L a' c' gl w h hV h').mono ?_
    intro e w' hq
    rcases hq with ⟨-, hq⟩ | ⟨⟨j, hj, hb⟩, -⟩
    · exact hq
    · unfold BadW at hb
      obtain ⟨x, hx, q⟩ := hf j hj
      rw [q] at hb; omega
  have HI' := hide h'
  have HF := hide hf
  have HEF := hide hE
  clear h h' hV hf hE
  go_enter Try.func21, Try.ntmps21
  go_wp2_with fail
  refine (unhide CE).mono ?_
  rintro e w4 ⟨a4, c4, LL, rfl, hL4, hls, hb4⟩
  unfold two
  have CI := in_any a' G c' gl (-1) w4 ((unhide HI').later hb4)
  rw [idx_none (fun i hi => by have hlen := unhide HLEN; obtain ⟨x, hx, q⟩ := unhide HF i (by omega); rw [q]; omega)] at CI
  have CI := hide CI
  have hdf : decide ((0 : Int) ≤ -1) = false := by decide
  rw [hdf] at CI
  have HI4 : Hid (∀ i, i < n → (slAt LL i).ln = n ∧ Calls Try.prog 18 #[.int .i64 2, .slice (slAt LL i).la (slAt LL i).ln (slAt LL i).lc] w4 fun e w' => e = .returned (.bool false) ∧ w' = w4) := fun i hi => by
    have h1 := hL4.mem (k := i) hi
    refine ⟨by rw [h1.1, rows_at hls hi, lF_len], ?_⟩
    have := in_any _ _ _ _ 2 w4 h1
    rw [rows_at hls hi, idx_none, hdf] at this
    · exact this
    · intro j hj
      rw [lF_len] at hj
      rw [lF_at hj]
      exact lev_calm (unhide HEF) hi hj
  obtain ⟨b5, o5, rfl, hb5, hcell⟩ := hL4.cellAt hn1
  have HC := hide hcell
  have HB := hide hb4
  have HLN : Hid (∀ i, i < n → (slAt LL i).ln ≤ (slAt LL i).lc ∧ (slAt LL i).lc ≤ 9223372036854775807) := fun i hi => by
    have := hL4.mem (k := i) hi
    have r := this.2.2.1
    unfold maxLen at r
    exact ⟨this.2.1, by omega⟩
  have d1 := hL4.2.1
  have d2 := hL4.2.2.1
  unfold maxLen at d2
  clear hcell hL4 hls CE
  go_wp2_with fail
  refine (unhide CI).mono ?_
  rintro e w5 ⟨rfl, hw5⟩
  subst w5
  go_wp2
  go_loop [7] (fun i => ∃ k : Nat, k ≤ n ∧ i = .int .i64 k) (fun i => n - (intOf i).toNat)
  case atStart => exact ⟨0, Nat.zero_le _, rfl⟩
  case round =>
    obtain ⟨k, hk, rfl⟩ := hrel
    by_cases hlt : k < n
    · have hck := unhide HC k hlt
      obtain ⟨hle, CN⟩ := unhide HI4 k hlt
      have CN := hide CN
      obtain ⟨l1, l2⟩ := unhide HLN k hlt
      generalize slAt LL k = s at *
      obtain ⟨sa, sn, sc, si⟩ := s
      simp only at hck CN l1 l2 hle
      subst hle
      go_wp2_with fail
      refine (unhide CN).mono ?_
      rintro e w5 ⟨rfl, hw5⟩
      subst w5
      go_wp2
      exact ⟨⟨k + 1, by omega, by go_num⟩, by simp [intOf]; omega⟩
    · obtain rfl : n = k := by omega
      go_wp2
      go_ret
      exact ⟨rfl, HB⟩
end Go.Proofs.Ytkeanlpgnnikjaa
