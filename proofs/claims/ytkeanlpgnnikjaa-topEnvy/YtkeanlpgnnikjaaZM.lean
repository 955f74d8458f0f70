import Derived.Test.YtkeanlpgnnikjaaZF
import Derived.Test.YtkeanlpgnnikjaaK
namespace Go.Proofs.Ytkeanlpgnnikjaa
open Go.RowKit
/-- Where the turns stand: nobody envies but for one good. -/
structure TI (v : Nat → Nat → Int) (n G t : Nat) (f : Nat → Int) : Prop where
  fst : ∀ j, j < n → ¬ j < t → ∀ g, f g ≠ (j : Nat)
  up : ∀ i j, i < n → j < n → i < j → hv (v i) f (j : Nat) G ≤ hv (v i) f (i : Nat) G ∧ (i < t % n → t % n ≤ j → ∀ g, g < G → f g = -1 → hv (v i) f (j : Nat) G + v i g ≤ hv (v i) f (i : Nat) G)
  down : ∀ i j, i < n → j < n → j < i → hv (v i) f (j : Nat) G - mv (v i) f (j : Nat) G ≤ hv (v i) f (i : Nat) G ∧ (¬ (j < t % n ∧ t % n ≤ i) → j < t → ∀ g, g < G → f g = -1 → hv (v i) f (j : Nat) G - mv (v i) f (j : Nat) G + v i g ≤ hv (v i) f (i : Nat) G)
theorem mod_next (t : Nat) {n : Nat} (hn : 1 ≤ n) : ((t + 1) % n = t % n + 1 ∧ t % n + 1 < n) ∨ ((t + 1) % n = 0 ∧ t % n + 1 = n) := by
  have hlt := Nat.mod_lt t (show n > 0 by omega)
  rw [Nat.add_mod]
  by_cases e : n = 1
  · subst e; right; simp [Nat.mod_one]
  · rw [Nat.mod_eq_of_lt (show 1 < n by omega)]
    by_cases c : t % n + 1 < n
    · left; exact ⟨Nat.mod_eq_of_lt c, c⟩
    · right
      have : t % n + 1 = n := by omega
      exact ⟨by rw [this, Nat.mod_self], this⟩
theorem TI.step {v : Nat → Nat → Int} {n G t m : Nat} {f : Nat → Int} (h : TI v n G t f) (hn : 1 ≤ n) (hv0 : ∀ i, i < n → OkF (v i) G) (hD : Dear (v (t % n)) f 0 G m) : TI v n G (t + 1) (upd f m ((t % n : Nat) : Int)) := by
  obtain ⟨-, hmG, hfm, hmax, -⟩ := hD
  have hs := Nat.mod_lt t (show n > 0 by omega)
  have hfree : ∀ g, upd f m ((t % n : Nat) : Int) g = -1 → f g = -1 := fun g hg => by
    by_cases e : g = m
    · subst e; exact hfm
    · rw [upd_ne e] at hg; exact hg
  have hmod := mod_next t hn
  have htn : t < n → t % n = t := fun q => Nat.mod_eq_of_lt q
  obtain ⟨s, hs0⟩ : ∃ s, t % n = s := ⟨_, rfl⟩
  obtain ⟨s', hs'⟩ : ∃ s', (t + 1) % n = s' := ⟨_, rfl⟩
  rw [hs0] at hs hfree hmod htn hmax ⊢
  rw [hs'] at hmod
  have HV : ∀ (u : Nat → Int) (k : Nat), hv u (upd f m (s : Int)) (k : Nat) G = hv u f (k : Nat) G + if m < G ∧ (s : Int) = (k : Nat) then u m else 0 := fun u k => hv_upd (by rw [hfm]; omega) G
  have MV : ∀ (u : Nat → Int) (k : Nat), mv u (upd f m (s : Int)) (k : Nat) G = if m < G ∧ (s : Int) = (k : Nat) then max (mv u f (k : Nat) G) (u m) else mv u f (k : Nat) G := fun u k => mv_upd (by rw [hfm]; omega) G
  have pos : ∀ k, (m < G ∧ (s : Int) = (k : Nat)) ↔ s = k := fun k => ⟨fun q => by omega, fun q => ⟨hmG, by omega⟩⟩
  simp only [pos] at HV MV
  refine ⟨fun j hj hjt g => ?_, fun i j hi hj hij => ?_, fun i j hi hj hij => ?_⟩
  · by_cases e : g = m
    · subst e
      rw [upd_at]
      intro q
      have : s = j := by omega
      by_cases c : t < n
      · have := htn c; omega
      · omega
    · rw [upd_ne e]; exact h.fst j hj (by omega) g
  · obtain ⟨a1, a2⟩ := h.up i j hi hj hij
    rw [hs0] at a2
    rw [HV, HV, hs']
    have hvm := hv0 i hi m hmG
    by_cases ei : s = i
    · have ej : s ≠ j := by omega
      rw [if_neg ej, if_pos ei]
      refine ⟨by omega, fun _ _ g hg hfg => ?_⟩
      have := hmax g (Nat.zero_le _) hg (hfree g hfg)
      rw [ei] at this
      omega
    · rw [if_neg ei]
      by_cases ej : s = j
      · rw [if_pos ej]
        have := a2 (by omega) (by omega) m hmG hfm
        refine ⟨by omega, fun q1 q2 => ?_⟩
        rcases hmod with ⟨r1, r2⟩ | ⟨r1, r2⟩ <;> omega
      · rw [if_neg ej]
        refine ⟨by omega, fun q1 q2 g hg hfg => ?_⟩
        have := a2 (by rcases hmod with ⟨r1, r2⟩ | ⟨r1, r2⟩ <;> omega) (by rcases hmod with ⟨r1, r2⟩ | ⟨r1, r2⟩ <;> omega) g hg (hfree g hfg)
        omega
  · obtain ⟨a1, a2⟩ := h.down i j hi hj hij
    rw [hs0] at a2
    rw [HV, HV, MV, hs']
    have hvm := hv0 i hi m hmG
    by_cases ei : s = i
    · have ej : s ≠ j := by omega
      rw [if_neg ej, if_pos ei, if_neg ej]
      refine ⟨by omega, fun _ _ g hg hfg => ?_⟩
      have := hmax g (Nat.zero_le _) hg (hfree g hfg)
      rw [ei] at this
      omega
    · rw [if_neg ei]
      by_cases ej : s = j
      · rw [if_pos ej, if_pos ej]
        refine ⟨?_, fun q1 => ?_⟩
        · by_cases c : j < t
          · have := a2 (by omega) c m hmG hfm
            omega
          · obtain ⟨z1, z2⟩ := hv_nobody (v := v i) (f := f) (who := (j : Nat)) G (fun g _ => h.fst j hj c g)
            have := (hv_le (give := f) (who := (i : Nat)) (hv0 i hi) G (Nat.le_refl _)).1
            omega
        · exfalso
          rcases hmod with ⟨r1, r2⟩ | ⟨r1, r2⟩ <;> omega
      · rw [if_neg ej, if_neg ej]
        refine ⟨by omega, fun q1 q2 g hg hfg => ?_⟩
        have hjt : j < t := by
          rcases Nat.lt_or_ge j t with c | c
          · exact c
          · have := htn (by omega); omega
        have := a2 (by rcases hmod with ⟨r1, r2⟩ | ⟨r1, r2⟩ <;> omega) hjt g hg (hfree g hfg)
        omega
theorem turns_ti {v : Nat → Nat → Int} {n G : Nat} (hn : 1 ≤ n) (hv0 : ∀ i, i < n → OkF (v i) G) : ∀ t, t ≤ G → TI v n G t (trF v n G t) := by
  intro t
  induction t with
  | zero =>
    intro _
    have z : ∀ (u : Nat → Int) (k : Nat), hv u (trF v n G 0) (k : Nat) G = 0 ∧ mv u (trF v n G 0) (k : Nat) G = 0 := fun u k => hv_nobody G (fun g _ => by show (-1 : Int) ≠ _; omega)
    refine ⟨fun j _ _ g => by show (-1 : Int) ≠ _; omega, fun i j hi hj hij => ?_, fun i j hi hj hij => ?_⟩
    · rw [(z _ _).1, (z _ _).1]
      refine ⟨Int.le_refl _, fun q => ?_⟩
      simp at q
    · rw [(z _ _).1, (z _ _).1, (z _ _).2]
      exact ⟨by omega, fun _ q => by omega⟩
  | succ t ih =>
    intro ht
    obtain ⟨m, -, m2, m3⟩ := (tr_step hn hv0 t (by omega)).2.2 (by omega)
    rw [m3]
    exact (ih (by omega)).step hn hv0 m2
/-- BY TURNS THERE IS NO ENVY BUT FOR ONE GOOD. -/
theorem turns_ef {v : Nat → Nat → Int} {n G : Nat} (hn : 1 ≤ n) (hv0 : ∀ i, i < n → OkF (v i) G) : EF v (trF v n G G) n G := fun i hi j hj => by
  have h := turns_ti hn hv0 G (Nat.le_refl _)
  have hm := (mv_le (give := trF v n G G) (who := (j : Nat)) (hv0 i hi) G (Nat.le_refl _)).1
  rcases Nat.lt_trichotomy i j with q | q | q
  · have := (h.up i j hi hj q).1; omega
  · subst q; omega
  · exact (h.down i j hi hj q).1
theorem turns_full {v : Nat → Nat → Int} {n G : Nat} (hn : 1 ≤ n) (hv0 : ∀ i, i < n → OkF (v i) G) : ∀ g, g < G → ∃ x : Nat, x < n ∧ trF v n G G g = (x : Int) := fun g hg => by
  obtain ⟨h1, h2, -⟩ := tr_step hn hv0 G (Nat.le_refl _)
  have := fr_none (f := trF v n G G) G (by omega) g hg
  exact (h2 g).resolve_left this
end Go.Proofs.Ytkeanlpgnnikjaa
