import Derived.Test.YtnkeaaiangmfhaaC
namespace Go.Proofs.Ytnkeaaiangmfhaa
open Go.RowKit
/-- Votes that may be, the first one's not 0. -/
def Vot (n : Nat) (vl : List Int) : Prop := 0 < n ∧ n ≤ 8 ∧ (∀ j, j < n → (0 : Int) ≤ vl[j]?.getD 0 ∧ vl[j]?.getD 0 ≤ 1000000) ∧ (0 : Int) < vl[0]?.getD 0
set_option maxHeartbeats 1000000 in
theorem sum_any (va : Option Addr) (n vc : Nat) (vl : List Int) (w : World) (h : Ints w va n vc vl) (hv : Vot n vl) :
    Calls Try.prog 10 #[.slice va n vc] w fun e w' => ∃ x : Int, 0 < x ∧ e = .returned (.int .i64 x) ∧ w' = w := by
  obtain ⟨hn0, hn8, hr, hz⟩ := hv
  have h1 := h.2.1
  have h2 := h.2.2.1
  unfold maxLen at h2
  obtain ⟨b, off, rfl, hb, hcell⟩ := h.cellAt hn0
  have HR := hide hr
  have HZ := hide hz
  have HC := hide hcell
  clear hr hz h hcell
  go_enter Try.func10, Try.ntmps10
  go_wp2
  go_loop [8, 3, 5] (fun i s _ => ∃ (k : Nat) (x : Int), k ≤ n ∧ i = .int .i64 k ∧ s = .int .i64 x ∧ 0 ≤ x ∧ x ≤ k * 1000000 ∧ (0 < k → 0 < x)) (fun i _ _ => n - (intOf i).toNat)
  case atStart => exact ⟨0, 0, Nat.zero_le _, rfl, rfl, by omega, by omega, fun h => by omega⟩
  case round =>
    obtain ⟨k, x, hk, rfl, rfl, hx0, hx1, hxp⟩ := hrel
    by_cases hlt : k < n
    · have hck := unhide HC k hlt
      obtain ⟨r0, r1⟩ := unhide HR k hlt
      have HP : Hid (0 < x + vl[k]?.getD 0) := by
        show 0 < x + vl[k]?.getD 0
        by_cases e : k = 0
        · subst e; have := unhide HZ; omega
        · have := hxp (by omega); omega
      clear hxp
      generalize vl[k]?.getD 0 = y at *
      go_wp2
      exact ⟨⟨k + 1, x + y, by omega, by go_num, by go_num, by omega, by omega, fun _ => unhide HP⟩, by simp [intOf]; omega⟩
    · go_wp2
      go_ret
      exact ⟨x, hxp (by omega), rfl, rfl⟩
set_option maxHeartbeats 1000000 in
theorem may_any (va : Option Addr) (n vc : Nat) (vl : List Int) (ho : Int) (w : World) (h : Ints w va n vc vl) (hv : Vot n vl) (h0 : 0 ≤ ho) (h200 : ho ≤ 200) :
    Calls Try.prog 8 #[.slice va n vc, .int .i64 ho] w fun e w' => e = .returned (.int .i64 0) ∧ w' = w := by
  have CS := hide (sum_any va n vc vl w h hv)
  obtain ⟨hn0, hn8, hr, hz⟩ := hv
  have h1 := h.2.1
  have h2 := h.2.2.1
  unfold maxLen at h2
  obtain ⟨b, off, rfl, hb, hcell⟩ := h.cellAt hn0
  have HR := hide hr
  have HC := hide hcell
  clear hr hz h hcell
  go_enter Try.func8, Try.ntmps8
  go_wp2
  go_loop [17, 6] (fun i _ => ∃ k : Nat, k ≤ n ∧ i = .int .i64 k) (fun i _ => n - (intOf i).toNat)
  case atStart => exact ⟨0, Nat.zero_le _, rfl⟩
  case round =>
    obtain ⟨k, hk, rfl⟩ := hrel
    by_cases hlt : k < n
    · have hck := unhide HC k hlt
      obtain ⟨r0, r1⟩ := unhide HR k hlt
      generalize vl[k]?.getD 0 = y at *
      go_wp2
      exact ⟨⟨k + 1, by omega, by go_num⟩, by simp [intOf]; omega⟩
    · go_wp2_with fail
      refine (unhide CS).mono ?_
      rintro e w1 ⟨x, hx, rfl, hw1⟩
      subst w1
      have hx2 : (x == 0) = false := by simp; omega
      go_wp2
      go_ret
      exact ⟨rfl, rfl⟩
/-- The seats, after so many were given. -/
def dv (r : Int) (v : Nat → Int) (n : Nat) : Nat → Nat → Int
  | 0, _ => 0
  | h + 1, j => if j = (nxt r v (dv r v n h) n).1 then dv r v n h j + 1 else dv r v n h j
theorem nxt_congr {r : Int} {v s s' : Nat → Int} : ∀ {k : Nat}, (∀ j, j < k → s j = s' j) → nxt r v s k = nxt r v s' k := by
  intro k
  induction k with
  | zero => intro _; rfl
  | succ k ih =>
    intro h
    have := ih (fun j hj => h j (by omega))
    unfold nxt
    rw [this, h k (by omega)]
theorem dv_le (r : Int) (v : Nat → Int) (n : Nat) : ∀ h j, 0 ≤ dv r v n h j ∧ dv r v n h j ≤ h := by
  intro h
  induction h with
  | zero => intro j; exact ⟨by simp [dv], by simp [dv]⟩
  | succ h ih =>
    intro j
    have := ih j
    unfold dv
    by_cases e : j = (nxt r v (dv r v n h) n).1
    · rw [if_pos e]; omega
    · rw [if_neg e]; omega
theorem dv_who {r : Int} {v : Nat → Int} {n : Nat} (h0 : 0 < v 0) : ∀ h j, v j = 0 → dv r v n h j = 0 := by
  intro h
  induction h with
  | zero => intro j _; rfl
  | succ h ih =>
    intro j hj
    unfold dv
    by_cases e : j = (nxt r v (dv r v n h) n).1
    · exfalso
      rcases nxt_lt r v (dv r v n h) n with h1 | h1
      · rw [h1] at e; subst e; omega
      · rw [← e] at h1; exact h1.2 hj
    · rw [if_neg e]; exact ih j hj
def sumTo (f : Nat → Int) : Nat → Int
  | 0 => 0
  | k + 1 => sumTo f k + f k
theorem sum_set {f g : Nat → Int} {i : Nat} (hi : g i = f i + 1) (h : ∀ j, j ≠ i → g j = f j) : ∀ n, sumTo g n = sumTo f n + (if i < n then 1 else 0) := by
  intro n
  induction n with
  | zero => simp [sumTo]
  | succ n ih =>
    unfold sumTo
    rw [ih]
    by_cases e : n = i
    · subst e
      rw [if_neg (by omega), if_pos (by omega), hi]; omega
    · rw [h n e]
      by_cases c : i < n
      · rw [if_pos c, if_pos (by omega)]; omega
      · rw [if_neg c, if_neg (by omega)]; omega
theorem dv_sum {r : Int} {v : Nat → Int} {n : Nat} (hn : 0 < n) : ∀ h, sumTo (dv r v n h) n = h := by
  intro h
  induction h with
  | zero =>
    have : ∀ k, sumTo (dv r v n 0) k = 0 := by
      intro k
      induction k with
      | zero => rfl
      | succ k ih => unfold sumTo; rw [ih]; rfl
    rw [this n]; rfl
  | succ h ih =>
    have hi : (nxt r v (dv r v n h) n).1 < n := by
      rcases nxt_lt r v (dv r v n h) n with h1 | h1 <;> omega
    rw [sum_set (f := dv r v n h) (i := (nxt r v (dv r v n h) n).1) (by rw [dv, if_pos rfl]) (fun j hj => by rw [dv, if_neg hj]) n, ih, if_pos hi]
    omega
end Go.Proofs.Ytnkeaaiangmfhaa
