import Derived.Test.YtkeanlpgnnikjaaG
namespace Go.Proofs.Ytkeanlpgnnikjaa
open Go.RowKit
theorem hv_congr {v f f' : Nat → Int} {who : Int} : ∀ g, (∀ j, j < g → f j = f' j) → hv v f who g = hv v f' who g := by
  intro g
  induction g with
  | zero => intro _; rfl
  | succ g ih => intro h; rw [hv, hv, h g (by omega), ih (fun j hj => h j (by omega))]
theorem mv_congr {v f f' : Nat → Int} {who : Int} : ∀ g, (∀ j, j < g → f j = f' j) → mv v f who g = mv v f' who g := by
  intro g
  induction g with
  | zero => intro _; rfl
  | succ g ih => intro h; rw [mv, mv, h g (by omega), ih (fun j hj => h j (by omega))]
/-- No envy but for one good. -/
def EF (v : Nat → Nat → Int) (f : Nat → Int) (n G : Nat) : Prop := ∀ i, i < n → ∀ j, j < n → hv (v i) f (j : Nat) G - mv (v i) f (j : Nat) G ≤ hv (v i) f (i : Nat) G
theorem EF.congr {v : Nat → Nat → Int} {f f' : Nat → Int} {n G : Nat} (h : EF v f n G) (e : ∀ j, j < G → f j = f' j) : EF v f' n G := fun i hi j hj => by
  rw [← hv_congr G e, ← mv_congr G e, ← hv_congr G e]; exact h i hi j hj
theorem hv_nobody {v : Nat → Int} {f : Nat → Int} {who : Int} : ∀ g, (∀ j, j < g → f j ≠ who) → hv v f who g = 0 ∧ mv v f who g = 0 := by
  intro g
  induction g with
  | zero => intro _; exact ⟨rfl, rfl⟩
  | succ g ih =>
    intro h
    obtain ⟨h1, h2⟩ := ih (fun j hj => h j (by omega))
    rw [hv_no (h g (by omega)), mv_no (h g (by omega))]
    exact ⟨h1, h2⟩
theorem EF.none {v : Nat → Nat → Int} {n G : Nat} : EF v (fun _ => -1) n G := fun i _ j _ => by
  obtain ⟨h1, h2⟩ := hv_nobody (v := v i) (f := fun _ => -1) (who := (j : Nat)) G (fun _ _ => by omega)
  obtain ⟨h3, h4⟩ := hv_nobody (v := v i) (f := fun _ => -1) (who := (i : Nat)) G (fun _ _ => by omega)
  omega
/-- One good more. -/
theorem hv_upd {v f : Nat → Int} {k : Nat} {x who : Int} (hk : f k ≠ who) : ∀ g, hv v (upd f k x) who g = hv v f who g + if k < g ∧ x = who then v k else 0 := by
  intro g
  induction g with
  | zero => rw [if_neg (by omega)]; rfl
  | succ g ih =>
    by_cases e : g = k
    · subst e
      rw [if_neg (by omega)] at ih
      rw [hv_no hk]
      by_cases c : x = who
      · rw [hv_yes (by rw [upd_at]; exact c), ih, if_pos ⟨by omega, c⟩]; omega
      · rw [hv_no (by rw [upd_at]; exact c), ih, if_neg (fun q => c q.2)]
    · have hu : upd f k x g = f g := upd_ne e
      have hc : (k < g + 1 ∧ x = who) ↔ (k < g ∧ x = who) := ⟨fun q => ⟨by omega, q.2⟩, fun q => ⟨by omega, q.2⟩⟩
      simp only [hc]
      by_cases c : f g = who
      · rw [hv_yes (by rw [hu]; exact c), hv_yes c, ih]; omega
      · rw [hv_no (by rw [hu]; exact c), hv_no c, ih]
theorem mv_upd {v f : Nat → Int} {k : Nat} {x who : Int} (hk : f k ≠ who) : ∀ g, mv v (upd f k x) who g = if k < g ∧ x = who then max (mv v f who g) (v k) else mv v f who g := by
  intro g
  induction g with
  | zero => rw [if_neg (by omega)]; rfl
  | succ g ih =>
    by_cases e : g = k
    · subst e
      rw [if_neg (by omega)] at ih
      rw [mv_no hk]
      by_cases c : x = who
      · rw [mv_yes (by rw [upd_at]; exact c), ih, if_pos ⟨by omega, c⟩]
      · rw [mv_no (by rw [upd_at]; exact c), ih, if_neg (fun q => c q.2)]
    · have hu : upd f k x g = f g := upd_ne e
      have hc : (k < g + 1 ∧ x = who) ↔ (k < g ∧ x = who) := ⟨fun q => ⟨by omega, q.2⟩, fun q => ⟨by omega, q.2⟩⟩
      simp only [hc]
      by_cases c : f g = who
      · rw [mv_yes (by rw [hu]; exact c), mv_yes c, ih]
        by_cases d : k < g ∧ x = who
        · rw [if_pos d, if_pos d]; omega
        · rw [if_neg d, if_neg d]
      · rw [mv_no (by rw [hu]; exact c), mv_no c, ih]
theorem EF.give {v : Nat → Nat → Int} {f : Nat → Int} {n G k x : Nat} (h : EF v f n G) (hv0 : ∀ i, i < n → OkF (v i) G) (hk : k < G) (hfk : f k = -1) (hx : ∀ i, i < n → ¬ En v f G i x) : EF v (upd f k (x : Int)) n G := fun i hi j hj => by
  have h1 := h i hi j hj
  have h2 := hv0 i hi k hk
  have h3 := hx i hi
  unfold En at h3
  rw [hv_upd (by rw [hfk]; omega), hv_upd (by rw [hfk]; omega), mv_upd (by rw [hfk]; omega)]
  by_cases c : (x : Int) = (j : Nat)
  · rw [if_pos ⟨hk, c⟩, if_pos ⟨hk, c⟩]
    have : x = j := by omega
    subst this
    by_cases d : (x : Int) = (i : Nat)
    · rw [if_pos ⟨hk, d⟩]; omega
    · rw [if_neg (fun q => d q.2)]; omega
  · rw [if_neg (fun q => c q.2), if_neg (fun q => c q.2)]
    by_cases d : (x : Int) = (i : Nat)
    · rw [if_pos ⟨hk, d⟩]; omega
    · rw [if_neg (fun q => d q.2)]; omega
/-- What each thinks of its own, together. -/
def own (v : Nat → Nat → Int) (f : Nat → Int) (G : Nat) : Nat → Int
  | 0 => 0
  | i + 1 => own v f G i + hv (v i) f (i : Nat) G
theorem own_le {v : Nat → Nat → Int} {f : Nat → Int} {n G : Nat} (hv0 : ∀ i, i < n → OkF (v i) G) (hG : G ≤ 8) : ∀ k, k ≤ n → 0 ≤ own v f G k ∧ own v f G k ≤ 8000 * k := by
  intro k
  induction k with
  | zero => intro _; exact ⟨Int.le_refl _, Int.le_refl _⟩
  | succ k ih =>
    intro hk
    have := ih (by omega)
    have := hv_le (give := f) (who := (k : Nat)) (hv0 k (by omega)) G (Nat.le_refl _)
    rw [own]
    omega
theorem own_lt {v : Nat → Nat → Int} {f f' : Nat → Int} {G : Nat} : ∀ k, (∀ i, i < k → hv (v i) f (i : Nat) G ≤ hv (v i) f' (i : Nat) G) → own v f G k ≤ own v f' G k ∧ ((∃ i, i < k ∧ hv (v i) f (i : Nat) G < hv (v i) f' (i : Nat) G) → own v f G k < own v f' G k) := by
  intro k
  induction k with
  | zero => intro _; exact ⟨Int.le_refl _, fun ⟨i, hi, _⟩ => by omega⟩
  | succ k ih =>
    intro h
    obtain ⟨h1, h2⟩ := ih (fun i hi => h i (by omega))
    have h3 := h k (by omega)
    rw [own, own]
    refine ⟨by omega, fun ⟨i, hi, hlt⟩ => ?_⟩
    by_cases e : i = k
    · subst e; omega
    · have := h2 ⟨i, by omega, hlt⟩; omega
/-- Names changed, one to one. -/
theorem hv_perm {v f f' : Nat → Int} {x y : Int} : ∀ g, (∀ j, j < g → (f' j = y ↔ f j = x)) → hv v f' y g = hv v f x g ∧ mv v f' y g = mv v f x g := by
  intro g
  induction g with
  | zero => intro _; exact ⟨rfl, rfl⟩
  | succ g ih =>
    intro h
    obtain ⟨h1, h2⟩ := ih (fun j hj => h j (by omega))
    have h3 := h g (by omega)
    by_cases c : f g = x
    · rw [hv_yes c, hv_yes (h3.2 c), mv_yes c, mv_yes (h3.2 c), h1, h2]; exact ⟨rfl, rfl⟩
    · rw [hv_no c, hv_no (fun q => c (h3.1 q)), mv_no c, mv_no (fun q => c (h3.1 q)), h1, h2]; exact ⟨rfl, rfl⟩
end Go.Proofs.Ytkeanlpgnnikjaa
