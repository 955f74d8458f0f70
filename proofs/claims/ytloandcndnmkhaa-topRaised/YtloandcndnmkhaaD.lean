import Derived.Test.YtloandcndnmkhaaC
namespace Go.Proofs.Ytloandcndnmkhaa
open Go.RowKit
set_option maxHeartbeats 1000000 in
theorem beats_any (base : Nat) (W : World) (G : Nat) (Bf : Nat → Nat) (n : Nat) (f : Nat → Nat → Int) (x y : Nat) (h : Tab base W G Bf n f) (hx : x < n) (hy : y < n) :
    Calls Try.prog 47 #[.slice (some ⟨G, 0, none⟩) n n, .int .i64 x, .int .i64 y] W fun e w' => e = .returned (.bool (decide (f y x < f x y))) ∧ Below W.heap.size W w' := by
  obtain ⟨h1, h2, h3, h4, h5, h6, h7⟩ := h
  have a1 := h3 x hx
  have a2 := h3 y hy
  have a3 := h6 x y hx hy
  have a4 := h6 y x hy hx
  clear h3 h4 h5 h6 h7
  go_enter Try.func47, Try.ntmps47
  go_wp2_with fail
  go_quiet (fail)
  go_wp2
  go_ret
  exact ⟨rfl, below_drewN _ _ _⟩
/-- Ballots that may be. -/
def Good (n : Nat) (l : List Bal) : Prop := 0 < n ∧ n ≤ 6 ∧ l.length ≤ 30 ∧ ∀ k, k < l.length → ordE (balAt l k).order n = 0 ∧ 0 ≤ (balAt l k).count ∧ (balAt l k).count ≤ 1000
theorem bals_all {l : List Bal} {n : Int} : ∀ d k, l.length - k = d → balsFrom l n k = 0 → ∀ j, k ≤ j → j < l.length → balE (balAt l j) n = 0 := by
  intro d
  induction d with
  | zero => intro k hk _ j h1 h2; omega
  | succ d ih =>
    intro k hk h j h1 h2
    rw [balsFrom_step (by omega)] at h
    by_cases e : balE (balAt l k) n = 0
    · rw [if_neg (by simpa using e)] at h
      by_cases c : j = k
      · rw [c]; exact e
      · exact ih (k + 1) (by omega) h j (by omega) h2
    · rw [if_pos e] at h
      exact absurd h e
theorem bals_zero {l : List Bal} {n : Int} (h : ∀ j, j < l.length → balE (balAt l j) n = 0) : ∀ d k, l.length - k = d → balsFrom l n k = 0 := by
  intro d
  induction d with
  | zero => intro k hk; exact balsFrom_end (by omega)
  | succ d ih =>
    intro k hk
    rw [balsFrom_step (by omega), if_neg (by simpa using h k (by omega))]
    exact ih (k + 1) (by omega)
theorem balE_zero {g : Bal} {n : Int} : balE g n = 0 ↔ ordE g.order n = 0 ∧ 0 ≤ g.count ∧ g.count ≤ 1000 := by
  unfold balE
  by_cases h : ordE g.order n = 0
  · rw [if_neg (by simpa using h)]
    by_cases c : g.count < 0 ∨ 1000 < g.count
    · rw [if_pos c]; exact ⟨fun h => by omega, fun h => by omega⟩
    · rw [if_neg c]; exact ⟨fun _ => ⟨h, by omega, by omega⟩, fun _ => rfl⟩
  · rw [if_pos h]; exact ⟨fun h' => absurd h' h, fun h' => h'.1⟩
theorem good_iff (n : Nat) (l : List Bal) : voteE n l = 0 ↔ Good n l := by
  unfold voteE Good
  by_cases c : (n : Int) < 1 ∨ 6 < (n : Int)
  · rw [if_pos c]; exact ⟨fun h => by omega, fun h => by omega⟩
  · rw [if_neg c]
    by_cases c2 : 30 < l.length
    · rw [if_pos c2]; exact ⟨fun h => by omega, fun h => by omega⟩
    · rw [if_neg c2]
      refine ⟨fun h => ⟨by omega, by omega, by omega, fun k hk => balE_zero.1 (bals_all _ 0 rfl h k (Nat.zero_le _) hk)⟩, fun h => bals_zero (fun j hj => balE_zero.2 (h.2.2.2 j hj)) _ 0 rfl⟩
/-- How many rank x above y, of the first k ballots. -/
def prf (l : List Bal) : Nat → Nat → Nat → Int
  | 0, _, _ => 0
  | k + 1, x, y => prf l k x y + (if idxFrom (balAt l k).order x 0 < idxFrom (balAt l k).order y 0 then (balAt l k).count else 0)
theorem prf_le {n : Nat} {l : List Bal} (h : Good n l) (x y : Nat) : ∀ k, k ≤ l.length → 0 ≤ prf l k x y ∧ prf l k x y ≤ k * 1000 := by
  intro k
  induction k with
  | zero => intro _; exact ⟨by simp [prf], by simp [prf]⟩
  | succ k ih =>
    intro hk
    have h1 := ih (by omega)
    have h2 := (h.2.2.2 k (by omega)).2
    unfold prf
    by_cases c : idxFrom (balAt l k).order x 0 < idxFrom (balAt l k).order y 0
    · rw [if_pos c]; omega
    · rw [if_neg c]; omega
/-- An order's places. -/
theorem ord_place {o : List Int} {n : Nat} (h : ordE o n = 0) {x : Nat} (hx : x < n) : ∃ p : Nat, p < n ∧ idxFrom o x 0 = p ∧ o[p]?.getD 0 = x := by
  obtain ⟨j, h1, h2, h3⟩ := idx_of (ord_all h x hx)
  have hl : o.length = n := by
    unfold ordE at h
    by_cases c : (o.length : Int) = n
    · omega
    · rw [if_neg c] at h; omega
  exact ⟨j, by omega, h2, h3⟩
theorem ord_at {o : List Int} {n : Nat} (h : ordE o n = 0) {p : Nat} (hp : p < n) : ∃ x : Nat, x < n ∧ o[p]?.getD 0 = x ∧ idxFrom o x 0 = p := by
  have hl : o.length = n := by
    unfold ordE at h
    by_cases c : (o.length : Int) = n
    · omega
    · rw [if_neg c] at h; omega
  have hr := ord_range h (o[p]?.getD 0) (getD_mem (by omega))
  obtain ⟨x, hx⟩ : ∃ x : Nat, o[p]?.getD 0 = x := ⟨(o[p]?.getD 0).toNat, by omega⟩
  obtain ⟨q, q1, q2, q3⟩ := ord_place h (show x < n by omega)
  refine ⟨x, by omega, hx, ?_⟩
  rw [q2]
  have hnd := ord_nodup h
  have h3 : o[q]?.getD 0 = o[p]?.getD 0 := by rw [q3, hx]
  rw [List.getElem?_eq_getElem (by omega), List.getElem?_eq_getElem (by omega)] at h3
  have := (List.getElem_inj hnd).1 h3
  omega
end Go.Proofs.Ytloandcndnmkhaa
