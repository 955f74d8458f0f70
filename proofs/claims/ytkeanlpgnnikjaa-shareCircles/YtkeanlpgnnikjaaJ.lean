import Derived.Test.YtkeanlpgnnikjaaI
namespace Go.Proofs.Ytkeanlpgnnikjaa
open Go.RowKit
structure Ring (f : Nat → Nat) (n r : Nat) : Prop where
  lt : ∀ x, x < n → sg f n r x < n
  inj : ∀ x, x < n → ∀ y, y < n → sg f n r x = sg f n r y → x = y
  some : ∃ x, x < n ∧ onC f n r x = true
  onto : ∀ y, y < n → ∃ x, x < n ∧ sg f n r x = y
theorem ring_of {f : Nat → Nat} {n : Nat} (h : good f n = true) : onC f n n (itr f (n + n) 0) = true ∧ ∀ r, r ≤ n → onC f n r (itr f (n + r) 0) = true → Ring f n r := by
  unfold good at h
  rw [Bool.and_eq_true] at h
  obtain ⟨h1, h2⟩ := h
  refine ⟨h1, fun r hr hon => ?_⟩
  have h3 := allB_at h2 (k := r) (by omega)
  rw [hon] at h3
  simp only [Bool.not_true, Bool.false_or, Bool.and_eq_true] at h3
  obtain ⟨⟨h4, h5⟩, h6⟩ := h3
  refine ⟨fun x hx => ?_, fun x hx y hy e => ?_, ?_, fun y hy => ?_⟩
  · have := allB_at h4 hx
    rw [Bool.and_eq_true] at this
    exact of_decide_eq_true this.1
  · have := allB_at h4 hx
    rw [Bool.and_eq_true] at this
    have := allB_at this.2 hy
    simpa [e] using this
  · rw [List.any_eq_true] at h5
    obtain ⟨x, hx, hx2⟩ := h5
    exact ⟨x, List.mem_range.1 hx, hx2⟩
  · have := allB_at h6 hy
    rw [List.any_eq_true] at this
    obtain ⟨x, hx, hx2⟩ := this
    exact ⟨x, List.mem_range.1 hx, by simpa using hx2⟩
theorem sg_congr {f g : Nat → Nat} {n : Nat} (h : ∀ x, x < n → f x = g x) (hg : ∀ x, x < n → g x < n) (hn : 0 < n) (r x : Nat) (hx : x < n) : sg f n r x = sg g n r x := by
  unfold sg
  rw [onC_congr h hg hn, h x hx]
theorem ring {f : Nat → Nat} {n : Nat} (hn1 : 1 ≤ n) (hn4 : n ≤ 4) (hf : ∀ x, x < n → f x < n) : onC f n n (itr f (n + n) 0) = true ∧ ∀ r, r ≤ n → onC f n r (itr f (n + r) 0) = true → Ring f n r := by
  obtain ⟨g, hg⟩ : ∃ g : Nat → Nat, g = fun k => if k < n then f k else 0 := ⟨_, rfl⟩
  have hg4 : ∀ k, g k < 4 := fun k => by
    rw [hg]
    by_cases e : k < n
    · have := hf k e; simp only [e, if_true]; omega
    · simp only [e, if_false]; omega
  have hfe : ∀ x, x < n → f x = f4 (g 0) (g 1) (g 2) (g 3) x := fun x hx => by
    have : f x = g x := by rw [hg]; simp only [hx, if_true]
    rw [this]
    unfold f4
    by_cases e0 : x = 0
    · rw [if_pos e0, e0]
    · rw [if_neg e0]
      by_cases e1 : x = 1
      · rw [if_pos e1, e1]
      · rw [if_neg e1]
        by_cases e2 : x = 2
        · rw [if_pos e2, e2]
        · rw [if_neg e2]
          obtain rfl : x = 3 := by omega
          rfl
  have hlt : ∀ x, x < n → f4 (g 0) (g 1) (g 2) (g 3) x < n := fun x hx => by rw [← hfe x hx]; exact hf x hx
  have h1 := allB_at good_all (k := n) (by omega)
  have h2 := allB_at (allB_at (allB_at (allB_at h1 (hg4 0)) (hg4 1)) (hg4 2)) (hg4 3)
  have h3 : allB n (fun k => decide (f4 (g 0) (g 1) (g 2) (g 3) k < n)) = true := by
    unfold allB
    rw [List.all_eq_true]
    exact fun x hx => decide_eq_true (hlt x (List.mem_range.1 hx))
  rw [h3] at h2
  have h4 : (n == 0) = false := by simp; omega
  rw [h4] at h2
  simp only [Bool.not_true, Bool.false_or] at h2
  obtain ⟨k1, k2⟩ := ring_of h2
  generalize f4 (g 0) (g 1) (g 2) (g 3) = q at *
  have hi : ∀ k, itr f k 0 = itr q k 0 := fun k => (itr_congr hfe hlt k 0 (by omega)).1
  refine ⟨by rw [onC_congr hfe hlt (by omega), hi]; exact k1, fun r hr hon => ?_⟩
  rw [onC_congr hfe hlt (by omega), hi] at hon
  obtain ⟨a1, a2, a3, a4⟩ := k2 r hr hon
  have hs : ∀ x, x < n → sg f n r x = sg q n r x := fun x hx => sg_congr hfe hlt (by omega) r x hx
  refine ⟨fun x hx => by rw [hs x hx]; exact a1 x hx, fun x hx y hy e => a2 x hx y hy (by rw [← hs x hx, ← hs y hy]; exact e), ?_, fun y hy => ?_⟩
  · obtain ⟨x, hx, hx2⟩ := a3
    exact ⟨x, hx, by rw [onC_congr hfe hlt (by omega)]; exact hx2⟩
  · obtain ⟨x, hx, hx2⟩ := a4 y hy
    exact ⟨x, hx, by rw [hs x hx]; exact hx2⟩
theorem mpI_neg (f : Nat → Nat) (n r : Nat) : mpI (mC f n r) (-1) = -1 := by
  unfold mpI mC
  rw [if_neg (by omega)]
  rfl
theorem mpI_at (f : Nat → Nat) (n r x : Nat) : mpI (mC f n r) (x : Int) = (sg f n r x : Int) := by
  unfold mpI sg
  rw [mC_at]
  by_cases h : onC f n r x = true
  · rw [if_pos h, if_pos h]; rfl
  · rw [if_neg h, if_neg h]; rfl
/-- A good is nobody's, or that of one of the n. -/
def InN (f : Nat → Int) (n G : Nat) : Prop := ∀ j, j < G → f j = -1 ∨ ∃ x : Nat, x < n ∧ f j = (x : Int)
/-- WHAT A CHANGE ALONG A CIRCLE DOES: no envy but for one good, still; and all together have more. -/
theorem ring_step {v : Nat → Nat → Int} {f : Nat → Int} {be : Nat → Nat} {n G r : Nat} (h : EF v f n G) (hN : InN f n G) (hbe : ∀ j, j < n → be j < n ∧ En v f G (be j) j) (hR : Ring be n r) :
    EF v (fun j => mpI (mC be n r) (f j)) n G ∧ InN (fun j => mpI (mC be n r) (f j)) n G ∧ own v f G n < own v (fun j => mpI (mC be n r) (f j)) G n ∧ ∀ j, j < G → (mpI (mC be n r) (f j) = -1 ↔ f j = -1) := by
  have hp : ∀ (k : Nat), k < n → ∀ u : Nat → Int, hv u (fun j => mpI (mC be n r) (f j)) ((sg be n r k : Nat) : Int) G = hv u f (k : Int) G ∧ mv u (fun j => mpI (mC be n r) (f j)) ((sg be n r k : Nat) : Int) G = mv u f (k : Int) G := fun k hk u => by
    refine hv_perm G (fun j hj => ?_)
    rcases hN j hj with e | ⟨x, hx, e⟩
    · rw [e, mpI_neg]; exact ⟨fun q => by omega, fun q => by omega⟩
    · rw [e, mpI_at]
      refine ⟨fun q => ?_, fun q => ?_⟩
      · have : sg be n r x = sg be n r k := by omega
        rw [hR.inj x hx k hk this]
      · have : x = k := by omega
        rw [this]
  have hown : ∀ i, i < n → hv (v i) f (i : Nat) G ≤ hv (v i) (fun j => mpI (mC be n r) (f j)) (i : Nat) G := fun i hi => by
    obtain ⟨k, hk, e⟩ := hR.onto i hi
    have h1 := (hp k hk (v i)).1
    rw [e] at h1
    rw [h1]
    unfold sg at e
    by_cases c : onC be n r k = true
    · rw [if_pos c] at e
      have := (hbe k hk).2
      rw [e] at this
      unfold En at this
      omega
    · rw [if_neg c] at e; rw [e]; exact Int.le_refl _
  refine ⟨fun i hi j hj => ?_, fun j hj => ?_, (own_lt n hown).2 ?_, fun j hj => ?_⟩
  · obtain ⟨k, hk, e⟩ := hR.onto j hj
    obtain ⟨h1, h2⟩ := hp k hk (v i)
    rw [e] at h1 h2
    rw [h1, h2]
    exact Int.le_trans (h i hi k hk) (hown i hi)
  · rcases hN j hj with e | ⟨x, hx, e⟩
    · exact .inl (by dsimp only; rw [e, mpI_neg])
    · exact .inr ⟨sg be n r x, hR.lt x hx, by dsimp only; rw [e, mpI_at]⟩
  · obtain ⟨x, hx, hon⟩ := hR.some
    obtain ⟨b1, b2⟩ := hbe x hx
    refine ⟨be x, b1, ?_⟩
    have h1 := (hp x hx (v (be x))).1
    have e : sg be n r x = be x := by unfold sg; rw [if_pos hon]
    rw [e] at h1
    rw [h1]
    exact b2
  · rcases hN j hj with e | ⟨x, hx, e⟩
    · rw [e, mpI_neg]
    · rw [e, mpI_at]; exact ⟨fun q => by omega, fun q => by omega⟩
end Go.Proofs.Ytkeanlpgnnikjaa
