import Derived.Test.YtihmbfapbkddeaaG
import Derived.Test.YtihmbfapbkddeaaC
namespace Go.Proofs.Ytihmbfapbkddeaa
open Go.RowKit
def intAt (W : World) (g j : Nat) : Int := match W.cell? ⟨g, j, none⟩ with
  | some (.int _ x) => x
  | _ => 0
theorem Row.intAt {base : Nat} {W : World} {g n : Nat} {f : Nat → Int} (h : Row base W (some ⟨g, 0, none⟩) n f) {j : Nat} (hj : j < n) : intAt W g j = f j := by
  rcases h with h | ⟨g', h1, _, _, h4, _⟩
  · omega
  · cases h1
    unfold Ytihmbfapbkddeaa.intAt
    rw [h4 j hj]
/-- How many are still there. -/
def waitN (f : Nat → Int) : Nat → Nat
  | 0 => 0
  | k + 1 => waitN f k + (if f k = -2 then 1 else 0)
theorem wait_same {f g : Nat → Int} : ∀ n, (∀ j, j < n → f j = g j) → waitN f n = waitN g n := by
  intro n
  induction n with
  | zero => intro _; rfl
  | succ n ih => intro h; rw [waitN, waitN, ih (fun j hj => h j (by omega)), h n (by omega)]
theorem wait_le {f g : Nat → Int} : ∀ n, (∀ j, j < n → g j = -2 → f j = -2) → waitN g n ≤ waitN f n := by
  intro n
  induction n with
  | zero => intro _; exact Nat.le_refl _
  | succ n ih =>
    intro h
    have h1 := ih (fun j hj => h j (by omega))
    have h2 := h n (by omega)
    rw [waitN, waitN]
    by_cases c : g n = -2
    · rw [if_pos c, if_pos (h2 c)]; omega
    · rw [if_neg c]; omega
theorem wait_lt {f g : Nat → Int} : ∀ n, (∀ j, j < n → g j = -2 → f j = -2) → (∃ j, j < n ∧ f j = -2 ∧ g j ≠ -2) → waitN g n < waitN f n := by
  intro n
  induction n with
  | zero => rintro _ ⟨j, hj, _⟩; omega
  | succ n ih =>
    rintro h ⟨j, hj, h1, h2⟩
    rw [waitN, waitN]
    by_cases e : j = n
    · subst e
      have := wait_le j (fun i hi => h i (by omega))
      rw [if_pos h1, if_neg h2]; omega
    · have := ih (fun i hi => h i (by omega)) ⟨j, by omega, h1, h2⟩
      have h3 := h n (by omega)
      by_cases c : g n = -2
      · rw [if_pos c, if_pos (h3 c)]; omega
      · rw [if_neg c]; omega
theorem wait_le_n (f : Nat → Int) : ∀ n, waitN f n ≤ n := by
  intro n
  induction n with
  | zero => exact Nat.le_refl _
  | succ n ih => rw [waitN]; split <;> omega
theorem Row.apart {base : Nat} {W : World} {va : Option Addr} {n : Nat} {f : Nat → Int} {g : Nat} {j : Nat} {v : Value} (h : Row base W va n f) (hg : ∀ b, va = some ⟨b, 0, none⟩ → b ≠ g) : Row base (W.setCell ⟨g, j, none⟩ v) va n f := by
  rcases h with h | ⟨b, rfl, h2, h3, h4, h5⟩
  · exact .inl h
  · have hb := hg b rfl
    refine .inr ⟨b, rfl, h2, by simpa using h3, fun t ht => ?_, fun t ht => by rw [World.frozen?_setCell]; exact h5 t ht⟩
    rw [World.cell?_setCell_other _ _ _ _ (by intro hh; cases hh; exact hb rfl), h4 t ht]
theorem Ints.apart {W : World} {b off n c g j : Nat} {l : List Int} {v : Value} (h : Ints W (some ⟨b, off, none⟩) n c l) (hg : b ≠ g) : Ints (W.setCell ⟨g, j, none⟩ v) (some ⟨b, off, none⟩) n c l := by
  obtain ⟨h1, h2, h3, h4⟩ := h
  refine ⟨h1, h2, h3, ?_⟩
  rcases h4 with h0 | ⟨b', off', e, hb, hc⟩
  · exact .inl h0
  · cases e
    refine .inr ⟨b, off, rfl, by simpa using hb, fun t ht => ?_⟩
    rw [World.cell?_setCell_other _ _ _ _ (by intro hh; cases hh; exact hg rfl), hc t ht]
section
variable {n : Nat} {wi fi : Nat → List Int}
theorem Do.none {S T : Ex} {X : Nat → Prop} (h : Do wi S X T) (hX : ∀ i, ¬ X i) : T = S :=
  Ex.eq (fun i => h.2.1 i (hX i)) (fun s => h.2.2.2 s (fun ⟨i, h1, _⟩ => hX i h1))
theorem do_zero (S : Ex) (X : Nat → Prop) (hX : ∀ i, ¬ X i) : Do wi S X S := ⟨fun i h => absurd h (hX i), fun _ _ => rfl, fun _ ⟨i, h, _⟩ => absurd h (hX i), fun _ _ => rfl⟩
theorem Do.iff {S T : Ex} {X Y : Nat → Prop} (h : Do wi S X T) (e : ∀ i, X i ↔ Y i) : Do wi S Y T :=
  ⟨fun i hi => h.1 i ((e i).2 hi), fun i hi => h.2.1 i (fun hx => hi ((e i).1 hx)), fun s ⟨i, h1, h2⟩ => h.2.2.1 s ⟨i, (e i).2 h1, h2⟩, fun s hs => h.2.2.2 s (fun ⟨i, h1, h2⟩ => hs ⟨i, (e i).1 h1, h2⟩)⟩
/-- One goes. -/
def one (S : Ex) (x : Nat) (b : Int) : Ex := ⟨fun j => if j = x then b else S.got j, fun s => if (s : Int) = b then S.left s - 1 else S.left s⟩
theorem do_one (S : Ex) (x : Nat) : Do wi S (fun i => i = x) (one S x (Bx wi S x)) := by
  refine ⟨fun i hi => ?_, fun i hi => if_neg hi, fun s hs => ?_, fun s hs => ?_⟩
  · subst hi; exact if_pos rfl
  · obtain ⟨i, rfl, h⟩ := hs
    exact if_pos h.symm
  · exact if_neg (fun h => hs ⟨x, rfl, h.symm⟩)
theorem do_next (hw : ∀ i, ∀ x ∈ wi i, 0 ≤ x) {S S1 : Ex} {R : List Int} {r x : Nat} (hR : RingL n wi fi S R) (hr : r < R.length) (hx : R[r]?.getD 0 = x) (hd : Do wi S (fun i => (i : Int) ∈ R.take r) S1) :
    Bx wi S1 x = Bx wi S x ∧ Do wi S (fun i => (i : Int) ∈ R.take (r + 1)) (one S1 x (Bx wi S x)) := by
  have hxR : (x : Int) ∈ R := by rw [← hx, List.getElem?_eq_getElem hr]; exact List.getElem_mem hr
  have hxt : ¬ (x : Int) ∈ R.take r := by
    intro h
    obtain ⟨j, hj, e⟩ := List.getElem_of_mem h
    rw [List.getElem_take] at e
    rw [List.getElem?_eq_getElem hr] at hx
    have hx : R[r] = (x : Int) := hx
    have hj2 : j < r ∧ j < R.length := by rw [List.length_take] at hj; omega
    have := (List.getElem_inj hR.nd (h₀ := hj2.2) (h₁ := hr)).1 (by rw [e, hx])
    omega
  have hown : Own n wi fi S (fun i => (i : Int) ∈ R.take r) := fun i hi => hR.ok.own i (List.mem_of_mem_take hi)
  have hone : Own n wi fi S (fun i => i = x) := fun i hi => by subst hi; exact hR.ok.own i hxR
  have hb : Bx wi S1 x = Bx wi S x := by
    rcases hR.ok.own x hxR with h | h
    · rw [(nil_keep hw hd h hxt).2.2, h.2.2]
    · exact best_keep hw hown hd h hxt
  refine ⟨hb, ?_⟩
  have h1 := do_one (wi := wi) S1 x
  rw [hb] at h1
  have h2 := do_both hw hown hone hd (h1.iff (fun i => ⟨fun h => ⟨h, by subst h; exact hxt⟩, fun h => h.1⟩))
  refine h2.iff fun i => ?_
  rw [List.take_succ_eq_append_getElem hr, List.mem_append, List.mem_singleton]
  rw [List.getElem?_eq_getElem hr] at hx
  have hx : R[r] = (x : Int) := hx
  rw [hx]
  exact ⟨fun h => h.elim .inl (fun h => .inr (by rw [h])), fun h => h.elim .inl (fun h => .inr (by omega))⟩
end
end Go.Proofs.Ytihmbfapbkddeaa
