import Derived.Test.YtihmbfapbkddeaaK
namespace Go.Proofs.Ytihmbfapbkddeaa
open Go.RowKit
/-- A row of bools that is being written. -/
def RowB (base : Nat) (W : World) (va : Option Addr) (n : Nat) (f : Nat → Bool) : Prop :=
  n = 0 ∨ ∃ g, va = some ⟨g, 0, none⟩ ∧ base ≤ g ∧ g < W.heap.size ∧ (∀ j, j < n → W.cell? ⟨g, j, none⟩ = some (.bool (f j))) ∧ (∀ j, j < n → W.frozen? ⟨g, j, none⟩ = false)
theorem RowB.later {base : Nat} {W W' : World} {va : Option Addr} {n : Nat} {f : Nat → Bool} (h : RowB base W va n f) (hb : Below W.heap.size W W') : RowB base W' va n f := by
  rcases h with h | ⟨g, h1, h2, h3, h4, h5⟩
  · exact .inl h
  · exact .inr ⟨g, h1, h2, Nat.lt_of_lt_of_le h3 hb.size, fun j hj => (hb.cell (p := ⟨g, j, none⟩) h3).trans (h4 j hj), fun j hj => (hb.frozen (p := ⟨g, j, none⟩) h3).trans (h5 j hj)⟩
theorem RowB.same {base : Nat} {W : World} {va : Option Addr} {n : Nat} {f f' : Nat → Bool} (h : RowB base W va n f) (e : ∀ j, j < n → f j = f' j) : RowB base W va n f' := by
  rcases h with h | ⟨g, h1, h2, h3, h4, h5⟩
  · exact .inl h
  · exact .inr ⟨g, h1, h2, h3, fun j hj => by rw [h4 j hj, e j hj], h5⟩
theorem RowB.gon {base : Nat} {W : World} {va : Option Addr} {n cap : Nat} {f : Nat → Bool} (h : RowB base W va n f) (h1 : n ≤ cap) (h2 : cap ≤ maxLen) : Gon W va n cap f := by
  refine ⟨h1, h2, ?_⟩
  rcases h with h | ⟨g, h1, h2, h3, h4, h5⟩
  · exact .inl h
  · exact .inr ⟨g, 0, h1, h3, fun j hj => by rw [Nat.zero_add, h4 j hj]⟩
theorem RowB.set {base : Nat} {W : World} {g n k : Nat} {f f' : Nat → Bool} {x : Bool} (h : RowB base W (some ⟨g, 0, none⟩) n f) (hk : k < n) (e : ∀ j, j < n → j ≠ k → f j = f' j) (ek : x = f' k) : RowB base (W.setCell ⟨g, k, none⟩ (.bool x)) (some ⟨g, 0, none⟩) n f' := by
  rcases h with h | ⟨g', h1, h2, h3, h4, h5⟩
  · omega
  · cases h1
    refine .inr ⟨g, rfl, h2, by simpa using h3, fun j hj => ?_, fun j hj => by rw [World.frozen?_setCell]; exact h5 j hj⟩
    by_cases hjk : j = k
    · subst hjk
      rw [World.cell?_setCell_same' W ⟨g, j, none⟩ _ (by rw [h4 j hj]; rfl), ek]
    · rw [World.cell?_setCell_other _ _ _ _ (by intro hh; cases hh; exact hjk rfl), h4 j hj, e j hj hjk]
theorem RowB.apart {base : Nat} {W : World} {va : Option Addr} {n : Nat} {f : Nat → Bool} {g : Nat} {j : Nat} {v : Value} (h : RowB base W va n f) (hg : ∀ b, va = some ⟨b, 0, none⟩ → b ≠ g) : RowB base (W.setCell ⟨g, j, none⟩ v) va n f := by
  rcases h with h | ⟨b, rfl, h2, h3, h4, h5⟩
  · exact .inl h
  · have hb := hg b rfl
    refine .inr ⟨b, rfl, h2, by simpa using h3, fun t ht => ?_, fun t ht => by rw [World.frozen?_setCell]; exact h5 t ht⟩
    rw [World.cell?_setCell_other _ _ _ _ (by intro hh; cases hh; exact hb rfl), h4 t ht]
theorem Row.at {base : Nat} {W : World} {g n : Nat} {f : Nat → Int} (h : Row base W (some ⟨g, 0, none⟩) n f) {j : Nat} (hj : j < n) : W.cell? ⟨g, j, none⟩ = some (.int .i64 (f j)) ∧ W.frozen? ⟨g, j, none⟩ = false ∧ g < W.heap.size ∧ base ≤ g := by
  rcases h with h | ⟨b, h1, h2, h3, h4, h5⟩
  · omega
  · cases h1; exact ⟨h4 j hj, h5 j hj, h3, h2⟩
theorem RowB.at {base : Nat} {W : World} {g n : Nat} {f : Nat → Bool} (h : RowB base W (some ⟨g, 0, none⟩) n f) {j : Nat} (hj : j < n) : W.cell? ⟨g, j, none⟩ = some (.bool (f j)) ∧ W.frozen? ⟨g, j, none⟩ = false ∧ g < W.heap.size ∧ base ≤ g := by
  rcases h with h | ⟨b, h1, h2, h3, h4, h5⟩
  · omega
  · cases h1; exact ⟨h4 j hj, h5 j hj, h3, h2⟩
/-- What the document's rows read as. -/
def gz (S : Ex) (j : Nat) : Int := if S.got j = -2 then 0 else S.got j
def gb (S : Ex) (j : Nat) : Bool := decide (S.got j ≠ -2)
section
variable {n : Nat} {wi fi : Nat → List Int}
theorem do_add (hw : ∀ i, ∀ x ∈ wi i, 0 ≤ x) {S S1 : Ex} {X : Nat → Prop} {x : Nat} (hown : Own n wi fi S X) (hx : Nil n wi S x ∨ Cyc n wi fi S x) (hxt : ¬ X x) (hd : Do wi S X S1) :
    Bx wi S1 x = Bx wi S x ∧ Do wi S (fun i => X i ∨ i = x) (one S1 x (Bx wi S x)) := by
  have hone : Own n wi fi S (fun i => i = x) := fun i hi => by subst hi; exact hx
  have hb : Bx wi S1 x = Bx wi S x := by
    rcases hx with h | h
    · rw [(nil_keep hw hd h hxt).2.2, h.2.2]
    · exact best_keep hw hown hd h hxt
  refine ⟨hb, ?_⟩
  have h1 := do_one (wi := wi) S1 x
  rw [hb] at h1
  exact do_both hw hown hone hd (h1.iff (fun i => ⟨fun h => ⟨h, by subst h; exact hxt⟩, fun h => h.1⟩))
/-- Those that come back to themselves in so many steps. -/
def Rin (n : Nat) (wi fi : Nat → List Int) (S : Ex) (j : Nat) : Prop := j < n ∧ S.got j = -2 ∧ ∃ p, 0 < p ∧ p ≤ n + 1 ∧ itx wi fi S p j = j
theorem live_itx {S : Ex} (hl : ∀ i, i < n → S.got i = -2 → 0 ≤ Bx wi S i) (hnx : ∀ i, Live n wi S i → Nx wi fi S i < n ∧ S.got (Nx wi fi S i) = -2) : ∀ q i, i < n → S.got i = -2 → Live n wi S (itx wi fi S q i) := by
  intro q
  induction q with
  | zero => intro i h1 h2; exact ⟨h1, h2, hl i h1 h2⟩
  | succ q ih =>
    intro i h1 h2
    have := hnx i ⟨h1, h2, hl i h1 h2⟩
    exact ih _ this.1 this.2
theorem rin_cyc {S : Ex} (hl : ∀ i, i < n → S.got i = -2 → 0 ≤ Bx wi S i) (hnx : ∀ i, Live n wi S i → Nx wi fi S i < n ∧ S.got (Nx wi fi S i) = -2) {j : Nat} (h : Rin n wi fi S j) : Cyc n wi fi S j ∧ Rin n wi fi S (Nx wi fi S j) := by
  obtain ⟨h1, h2, p, hp, hpn, e⟩ := h
  have hn := hnx j ⟨h1, h2, hl j h1 h2⟩
  refine ⟨⟨⟨p, hp, e⟩, fun q => live_itx hl hnx q j h1 h2⟩, hn.1, hn.2, p, hp, hpn, ?_⟩
  have h3 : itx wi fi S (p + 1) j = Nx wi fi S j := by rw [itx_next, e]
  exact h3
theorem rin_ok {S : Ex} (hl : ∀ i, i < n → S.got i = -2 → 0 ≤ Bx wi S i) (hnx : ∀ i, Live n wi S i → Nx wi fi S i < n ∧ S.got (Nx wi fi S i) = -2) : Ok n wi fi S (Rin n wi fi S) := fun _ hj => .inr (rin_cyc hl hnx hj)
/-- Of numbers below n two of n + 1 are the same. -/
theorem pigeon (n : Nat) (f : Nat → Nat) (hf : ∀ t, t ≤ n → f t < n) : ∃ p q, p < q ∧ q ≤ n ∧ f p = f q := by
  refine Classical.byContradiction fun hc => ?_
  have h := len_le n ((List.range (n + 1)).map f) (by
    show List.Pairwise _ _
    rw [List.pairwise_map]
    refine List.Pairwise.imp_of_mem (fun {a b} ha hb hab e => ?_) List.pairwise_lt_range
    exact hc ⟨a, b, hab, by have := List.mem_range.1 hb; omega, e⟩) (fun x hx => by
    rw [List.mem_map] at hx
    obtain ⟨t, ht, rfl⟩ := hx
    exact hf t (by have := List.mem_range.1 ht; omega))
  simp at h
  omega
theorem rin_some {S : Ex} (hl : ∀ i, i < n → S.got i = -2 → 0 ≤ Bx wi S i) (hnx : ∀ i, Live n wi S i → Nx wi fi S i < n ∧ S.got (Nx wi fi S i) = -2) {i : Nat} (h1 : i < n) (h2 : S.got i = -2) : ∃ j, Rin n wi fi S j := by
  obtain ⟨p, q, hpq, hq, e⟩ := pigeon n (fun t => itx wi fi S t i) (fun t _ => (live_itx hl hnx t i h1 h2).1)
  have hlv := live_itx hl hnx p i h1 h2
  refine ⟨itx wi fi S p i, hlv.1, hlv.2.1, q - p, by omega, by omega, ?_⟩
  rw [← itx_add, show q - p + p = q by omega]
  exact e.symm
theorem wait_zero {f : Nat → Int} : ∀ n, waitN f n = 0 → ∀ j, j < n → f j ≠ -2 := by
  intro n
  induction n with
  | zero => intro _ j hj; omega
  | succ n ih =>
    intro h j hj
    rw [waitN] at h
    by_cases e : j = n
    · subst e
      intro h2
      rw [if_pos h2] at h
      omega
    · exact ih (by omega) j (by omega)
theorem wait_pos {f : Nat → Int} : ∀ n, 0 < waitN f n → ∃ j, j < n ∧ f j = -2 := by
  intro n h
  refine Classical.byContradiction fun hc => ?_
  have : waitN f n ≤ 0 := by
    have h2 : ∀ m, m ≤ n → waitN f m = 0 := by
      intro m
      induction m with
      | zero => intro _; rfl
      | succ m ih => intro hm; rw [waitN, ih (by omega), if_neg (fun h => hc ⟨m, by omega, h⟩)]
    rw [h2 n (Nat.le_refl _)]
    exact Nat.le_refl _
  omega
/-- Who goes has got something. -/
theorem do_gone {S T : Ex} {X : Nat → Prop} (hw : ∀ i, ∀ x ∈ wi i, 0 ≤ x) (hd : Do wi S X T) {j : Nat} (h : T.got j = -2) : S.got j = -2 ∧ ¬ X j := by
  have hnj : ¬ X j := fun hj => by
    have := hd.1 j hj
    rw [h] at this
    rcases fst_spec (p := fun s => 0 < S.left s) (l := wi j) with h | ⟨h, _⟩
    · have e : Bx wi S j = -1 := h
      omega
    · have := hw j _ h
      have e : Bx wi S j = fst (fun s => 0 < S.left s) (wi j) := rfl
      omega
  exact ⟨by rw [← hd.2.1 j hnj]; exact h, hnj⟩
end
end Go.Proofs.Ytihmbfapbkddeaa
