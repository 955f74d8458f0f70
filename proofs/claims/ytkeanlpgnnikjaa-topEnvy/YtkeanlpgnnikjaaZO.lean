import Derived.Test.YtkeanlpgnnikjaaZH
import Derived.Test.YtkeanlpgnnikjaaI
namespace Go.Proofs.Ytkeanlpgnnikjaa
open Go.RowKit
def pz (x : Int) : Int := if 0 < x then x else 1
def oz (x : Int) : Int := if 0 < x then 1 else 0
theorem pz_pos (x : Int) : 1 ≤ pz x := by unfold pz; by_cases h : 0 < x <;> simp only [h, if_true, if_false] <;> omega
/-- The gain of what each thinks of its own. -/
def cN (u : Nat → Int) : Nat → Int
  | 0 => 0
  | k + 1 => cN u k + oz (u k)
def cP (u : Nat → Int) : Nat → Int
  | 0 => 1
  | k + 1 => cP u k * pz (u k)
theorem cP_pos (u : Nat → Int) : ∀ k, 1 ≤ cP u k := by
  intro k
  induction k with
  | zero => exact Int.le_refl _
  | succ k ih =>
    rw [cP]
    have : 1 * 1 ≤ cP u k * pz (u k) := Int.mul_le_mul ih (pz_pos _) (by omega) (by omega)
    omega
theorem q_c (v : Nat → Nat → Int) (f : Nat → Int) (G : Nat) : ∀ n, qN v f G n = cN (fun k => hv (v k) f (k : Nat) G) n ∧ qP v f G n = cP (fun k => hv (v k) f (k : Nat) G) n := by
  intro n
  induction n with
  | zero => exact ⟨rfl, rfl⟩
  | succ n ih =>
    rw [qN, qP, cN, cP, ih.1, ih.2]
    unfold oz pz
    by_cases h : 0 < hv (v n) f (n : Nat) G
    · exact ⟨by rw [if_pos h, if_pos h], by rw [if_pos h, if_pos h]⟩
    · exact ⟨by rw [if_neg h, if_neg h]; omega, by rw [if_neg h, if_neg h, Int.mul_one]⟩
theorem c_congr {u u' : Nat → Int} : ∀ n, (∀ k, k < n → u k = u' k) → cN u n = cN u' n ∧ cP u n = cP u' n := by
  intro n
  induction n with
  | zero => intro _; exact ⟨rfl, rfl⟩
  | succ n ih =>
    intro h
    obtain ⟨h1, h2⟩ := ih (fun k hk => h k (by omega))
    rw [cN, cN, cP, cP, h n (by omega), h1, h2]
    exact ⟨rfl, rfl⟩
theorem c_upd {u : Nat → Int} {i : Nat} {a : Int} : ∀ n, cN (upd u i a) n = cN u n + (if i < n then oz a - oz (u i) else 0) ∧ cP (upd u i a) n * (if i < n then pz (u i) else 1) = cP u n * (if i < n then pz a else 1) := by
  intro n
  induction n with
  | zero => rw [if_neg (by omega), if_neg (by omega), if_neg (by omega)]; exact ⟨rfl, rfl⟩
  | succ n ih =>
    obtain ⟨h1, h2⟩ := ih
    rw [cN, cN, cP, cP]
    by_cases e : n = i
    · subst e
      rw [if_neg (by omega)] at h1
      rw [if_neg (by omega), if_neg (by omega), Int.mul_one, Int.mul_one] at h2
      rw [upd_at, h1, if_pos (by omega), if_pos (by omega), if_pos (by omega), h2]
      refine ⟨by omega, ?_⟩
      rw [Int.mul_assoc, Int.mul_assoc, Int.mul_comm (pz a)]
    · rw [upd_ne e]
      by_cases c : i < n
      · rw [if_pos c] at h1
        rw [if_pos c, if_pos c] at h2
        rw [if_pos (show i < n + 1 by omega), if_pos (show i < n + 1 by omega), if_pos (show i < n + 1 by omega), h1]
        refine ⟨by omega, ?_⟩
        rw [Int.mul_right_comm, h2, Int.mul_right_comm]
      · rw [if_neg c] at h1
        rw [if_neg c, if_neg c] at h2
        rw [if_neg (show ¬ i < n + 1 by omega), if_neg (show ¬ i < n + 1 by omega), if_neg (show ¬ i < n + 1 by omega), h1]
        rw [Int.mul_one, Int.mul_one] at h2
        rw [h2]
        exact ⟨by omega, rfl⟩
/-- More for one and less for none. -/
theorem c_more {u u' : Nat → Int} : ∀ n, (∀ k, k < n → 0 ≤ u k ∧ u k ≤ u' k) → cN u n ≤ cN u' n ∧ (cN u n = cN u' n → cP u n ≤ cP u' n ∧ ((∃ k, k < n ∧ u k < u' k) → cP u n < cP u' n)) := by
  intro n
  induction n with
  | zero => intro _; exact ⟨Int.le_refl _, fun _ => ⟨Int.le_refl _, fun ⟨k, hk, _⟩ => by omega⟩⟩
  | succ n ih =>
    intro h
    obtain ⟨h1, h2⟩ := ih (fun k hk => h k (by omega))
    obtain ⟨p1, p2⟩ := h n (by omega)
    have q1 := cP_pos u n
    have q2 := cP_pos u' n
    rw [cN, cN, cP, cP]
    unfold oz pz
    by_cases a : 0 < u n
    · have b : 0 < u' n := by omega
      simp only [a, b, if_true]
      refine ⟨by omega, fun e => ?_⟩
      obtain ⟨r1, r2⟩ := h2 (by omega)
      refine ⟨Int.mul_le_mul r1 p2 (by omega) (by omega), fun ⟨k, hk, hlt⟩ => ?_⟩
      by_cases c : k = n
      · subst c
        have s1 : cP u k * u k < cP u k * u' k := Int.mul_lt_mul_of_pos_left hlt (by omega)
        have s2 : cP u k * u' k ≤ cP u' k * u' k := Int.mul_le_mul_of_nonneg_right r1 (by omega)
        omega
      · have r3 := r2 ⟨k, by omega, hlt⟩
        have s1 : cP u n * u n ≤ cP u n * u' n := Int.mul_le_mul_of_nonneg_left p2 (by omega)
        have s2 : cP u n * u' n < cP u' n * u' n := Int.mul_lt_mul_of_pos_right r3 b
        omega
    · by_cases b : 0 < u' n
      · simp only [a, b, if_true, if_false]
        exact ⟨by omega, fun e => by omega⟩
      · simp only [a, b, if_false]
        refine ⟨by omega, fun e => ?_⟩
        obtain ⟨r1, r2⟩ := h2 (by omega)
        rw [Int.mul_one, Int.mul_one]
        refine ⟨r1, fun ⟨k, hk, hlt⟩ => r2 ⟨k, ?_, hlt⟩⟩
        by_cases c : k = n
        · subst c; omega
        · omega
theorem fold_best (s1 s2 : List Int → Int) : ∀ (l : List (List Int)) r q, l.foldl (bestS s1 s2) (some r) = some q → (q = r ∨ q ∈ l) ∧ ¬ bt (s1 r) (s2 r) (s1 q) (s2 q) ∧ ∀ o ∈ l, ¬ bt (s1 o) (s2 o) (s1 q) (s2 q) := by
  intro l
  induction l with
  | nil => intro r q h; cases h; exact ⟨.inl rfl, by unfold bt; omega, fun o ho => by cases ho⟩
  | cons x xs ih =>
    intro r q h
    rw [List.foldl_cons] at h
    change xs.foldl (bestS s1 s2) (if bt (s1 x) (s2 x) (s1 r) (s2 r) then some x else some r) = some q at h
    by_cases c : bt (s1 x) (s2 x) (s1 r) (s2 r)
    · rw [if_pos c] at h
      obtain ⟨h1, h2, h3⟩ := ih x q h
      refine ⟨?_, by unfold bt at *; omega, fun o ho => ?_⟩
      · rcases h1 with e | e
        · exact .inr (by rw [e]; simp)
        · exact .inr (by simp [e])
      · rcases List.mem_cons.1 ho with e | e
        · rw [e]; exact h2
        · exact h3 o e
    · rw [if_neg c] at h
      obtain ⟨h1, h2, h3⟩ := ih r q h
      refine ⟨?_, h2, fun o ho => ?_⟩
      · rcases h1 with e | e
        · exact .inl e
        · exact .inr (by simp [e])
      · rcases List.mem_cons.1 ho with e | e
        · rw [e]; unfold bt at *; omega
        · exact h3 o e
theorem bestG_spec {s1 s2 : List Int → Int} {l : List (List Int)} {q : List Int} (h : bestG s1 s2 l = some q) : q ∈ l ∧ ∀ o ∈ l, ¬ bt (s1 o) (s2 o) (s1 q) (s2 q) := by
  cases l with
  | nil => cases h
  | cons x xs =>
    obtain ⟨h1, h2, h3⟩ := fold_best s1 s2 xs x q h
    refine ⟨?_, fun o ho => ?_⟩
    · rcases h1 with e | e
      · rw [e]; simp
      · simp [e]
    · rcases List.mem_cons.1 ho with e | e
      · rw [e]; exact h2
      · exact h3 o e
theorem wL_mem {n G : Nat} {q : List Int} (hq : Wy n G q) : ∀ f (o : List Int), o.length + f = G → q.take o.length = o → q ∈ wL n f o := by
  obtain ⟨hl, hr⟩ := hq
  intro f
  induction f with
  | zero =>
    intro o ho ht
    rw [List.take_of_length_le (by omega)] at ht
    rw [ht]; simp [wL]
  | succ f ih =>
    intro o ho ht
    have hlt : o.length < q.length := by omega
    have hx := hr (q[o.length]) (List.getElem_mem hlt)
    obtain ⟨x, hxe⟩ : ∃ x : Nat, q[o.length] = (x : Int) := ⟨(q[o.length]).toNat, by omega⟩
    have e : q.take (o.length + 1) = o ++ [(x : Int)] := by
      rw [List.take_add_one, ht, List.getElem?_eq_getElem hlt, hxe]; rfl
    have := ih (o ++ [(x : Int)]) (by simp; omega) (by rw [List.length_append]; exact e)
    unfold wL
    rw [List.mem_flatMap]
    exact ⟨x, List.mem_range.2 (by omega), this⟩
end Go.Proofs.Ytkeanlpgnnikjaa
