import Derived.Test.YtaaikaeknealkaaT1
import Derived.Test.YtaaikaeknealkaaBO
import Derived.Test.YtaaikaeknealkaaR
namespace Go.Proofs.Ytaaikaeknealkaa
open Go.RowKit
set_option maxHeartbeats 1000000 in
/-- Sets that have nothing in common. -/
theorem overlap_any (a b it : Nat) (w : World) (ha : a < 16) (hb : b < 16) (hit : it ≤ 4) (h : ∀ k, k < it → ¬ (hs a k = true ∧ hs b k = true)) :
    Calls Try.prog 15 #[.int .i64 a, .int .i64 b, .int .i64 it] w fun e w' => e = .returned (.bool false) ∧ w' = w := by
  have H := hide h
  clear h
  go_enter Try.func15, Try.ntmps15
  go_wp2
  go_loop [7] (fun i => ∃ k : Nat, k ≤ it ∧ i = .int .i64 k) (fun i => it - (intOf i).toNat)
  case atStart => exact ⟨0, Nat.zero_le _, rfl⟩
  case round =>
    obtain ⟨k, hk, rfl⟩ := hrel
    by_cases hlt : k < it
    · obtain ⟨P2, hP2⟩ : ∃ P2 : Nat, P2 = 2 ^ k := ⟨_, rfl⟩
      have hwp2 := wrap_pow hP2 (by omega)
      have hP20 : 0 < P2 := by rw [hP2]; exact Nat.two_pow_pos k
      have hP21 : P2 ≤ 16 := by rw [hP2]; exact pow_le (by omega)
      have hPz : ((P2 : Int) == 0) = false := by simp; omega
      cases hh : hs a k
      · have hr := rem_no hP2 ha hh
        clear hP2
        go_wp2
        exact ⟨⟨k + 1, by omega, by go_num⟩, by simp [intOf]; omega⟩
      · have hr := rem_yes hP2 ha hh
        have hb2 : hs b k = false := by
          cases e : hs b k
          · rfl
          · exact absurd ⟨hh, e⟩ (unhide H k hlt)
        have hr2 := rem_no hP2 hb hb2
        clear hP2
        go_wp2
        exact ⟨⟨k + 1, by omega, by go_num⟩, by simp [intOf]; omega⟩
    · obtain rfl : it = k := by omega
      go_wp2
      go_ret
      exact ⟨rfl, rfl⟩
/-- What was made may be. -/
theorem seE_made {it : Nat} {L : List Sl} (hit : it ≤ 4) (hn1 : 1 ≤ L.length) (hn4 : L.length ≤ 4) (h : ∀ s ∈ L, Gd it s) : seE (it : Int) L = 0 := by
  have hg : ∀ j, j < L.length → Gd it (slAt L j) := fun j hj => h _ (slAt_mem hj)
  rw [seE_val (by omega) (by omega) (fun ⟨j, j1, j2⟩ => j2 (by rw [Int.toNat_natCast]; exact (hg j j1).1)), Int.toNat_natCast]
  have hz : ∀ (E : Nat → Int) f k, (∀ j, k ≤ j → j < k + f → E j = 0) → fE E f k = 0 := by
    intro E f
    induction f with
    | zero => intro k _; rfl
    | succ f ih => intro k hk; rw [fE, if_neg (by simpa using hk k (Nat.le_refl _) (by omega))]; exact ih (k + 1) (fun j h1 h2 => hk j (by omega) (by omega))
  refine hz _ _ _ (fun i _ hi => ?_)
  unfold oE
  refine hz _ _ _ (fun s _ hs' => ?_)
  obtain ⟨-, w1, w2, w3, w4⟩ := hg i (by omega)
  have h2 := w2 s (by omega)
  have hp := pow_le hit
  refine wE_ok (fun c => ?_) (fun ⟨k, k1, k2, k3⟩ => ?_)
  · rcases c with c | c | ⟨c, c'⟩
    · omega
    · omega
    · subst c; exact c' w1
  · have := w3 s k (by omega) k1 k2
    omega
theorem sub_al : ∀ it : Nat, it < 5 → ∀ fr : Nat, fr < 16 → anN fr (2 ^ it - 1) = 0 → fr ≤ 2 ^ it - 1 ∧ ∀ k : Nat, k < 4 → hs (2 ^ it - 1 - fr) k = (decide (k < it) && !hs fr k) := by decide +kernel
end Go.Proofs.Ytaaikaeknealkaa
