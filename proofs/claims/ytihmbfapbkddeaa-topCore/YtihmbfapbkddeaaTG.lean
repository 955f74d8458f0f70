import Derived.Test.YtihmbfapbkddeaaTF
namespace Go.Proofs.Ytihmbfapbkddeaa
open Classical in
theorem set_of (A : Nat → Prop) : ∀ n, ∃ s, s < 2 ^ n ∧ ∀ i, i < n → (s.testBit i = true ↔ A i) := by
  intro n
  induction n with
  | zero => exact ⟨0, by decide, fun i hi => by omega⟩
  | succ n ih =>
    obtain ⟨s, h1, h2⟩ := ih
    have h3 : s.testBit n = false := Nat.testBit_lt_two_pow h1
    have hp : 2 ^ (n + 1) = 2 ^ n + 2 ^ n := by rw [Nat.pow_succ]; omega
    by_cases c : A n
    · refine ⟨2 ^ n + s, by omega, fun i hi => ?_⟩
      by_cases e : i = n
      · subst e
        rw [Nat.testBit_two_pow_add_eq, h3]
        simpa using c
      · rw [Nat.testBit_two_pow_add_gt (by omega)]
        exact h2 i (by omega)
    · refine ⟨s, by omega, fun i hi => ?_⟩
      by_cases e : i = n
      · subst e
        rw [h3]
        simpa using c
      · exact h2 i (by omega)
theorem find_none {f : Nat → Bool} {N : Nat} : findF f N 0 = none ↔ ∀ s, s < N → f s = false := by
  unfold findF
  rw [List.find?_eq_none]
  constructor
  · intro h s hs
    have := h s (by rw [List.mem_range'_1]; omega)
    simpa using this
  · intro h s hs
    rw [List.mem_range'_1] at hs
    rw [h s (by omega)]
    simp
section
variable {wi : Nat → List Int} {n : Nat}
theorem idx_inj (hfull : ∀ i, i < n → ∀ k, k < n → (k : Int) ∈ wi i) : ∀ i x y : Nat, i < n → x < n → y < n → idxFrom (wi i) (x : Int) 0 = idxFrom (wi i) (y : Int) 0 → x = y := by
  intro i x y hi hx hy e
  obtain ⟨a, _, a2, a3⟩ := idx_of (hfull i hi x hx)
  obtain ⟨b, _, b2, b3⟩ := idx_of (hfull i hi y hy)
  have : a = b := by omega
  subst this
  omega
/-- The end of the rounds is in the core. -/
theorem core_yes (hr : ∀ i, ∀ x ∈ wi i, 0 ≤ x ∧ x < n) (hfull : ∀ i, i < n → ∀ k, k < n → (k : Int) ∈ wi i) (hnd : ∀ i, i < n → (wi i).Nodup) {k : Nat} {T : Ex} (h : Reach n wi (ownF n) k (Ex0 fun _ => 1) T) (hD : Done n T) (set : Nat) :
    dealL wi (gotL T n) (whoL set n) set false = false := by
  obtain ⟨r, R, h0⟩ := ends_rank hr hfull hnd h hD
  have hgt : ∀ i, i < n → (gotL T n)[i]?.getD 0 = (((T.got i).toNat : Nat) : Int) := fun i hi => by rw [gotL_at T hi, Int.toNat_of_nonneg (h0 i hi)]
  by_cases c : dealL wi (gotL T n) (whoL set n) set false = true
  · exfalso
    obtain ⟨p, p1, p2, p3, i, hi, p4⟩ := (deal_block hnd hr hfull (fun i hi => by rw [hgt i hi]; exact hfull i hi _ (R.lt i hi)) set).1 c
    have := R.core (idx_inj hfull) (A := inS set n) (p := p) (fun i h => h.1) p1 p2 (fun i hi => by have := p3 i hi; rw [hgt i hi.1] at this; exact this) _ i hi rfl
    rw [hgt i hi.1, this] at p4
    omega
  · simpa using c
/-- Nothing else is. -/
theorem core_only (hr : ∀ i, ∀ x ∈ wi i, 0 ≤ x ∧ x < n) (hfull : ∀ i, i < n → ∀ k, k < n → (k : Int) ∈ wi i) (hnd : ∀ i, i < n → (wi i).Nodup) {k : Nat} {T : Ex} (h : Reach n wi (ownF n) k (Ex0 fun _ => 1) T) (hD : Done n T) {ul : List Int} (hul : ul.length = n) (hun : ul.Nodup) (hur : ∀ x ∈ ul, 0 ≤ x ∧ x < n)
    (hc : ∀ s, s < 2 ^ n → dealL wi ul (whoL s n) s false = false) : ul = gotL T n := by
  obtain ⟨r, R, h0⟩ := ends_rank hr hfull hnd h hD
  have hu : ∀ i, i < n → 0 ≤ ul[i]?.getD 0 ∧ ul[i]?.getD 0 < n := fun i hi => hur _ (getD_mem (by omega))
  have hui : ∀ i, i < n → ul[i]?.getD 0 = (((ul[i]?.getD 0).toNat : Nat) : Int) := fun i hi => by rw [Int.toNat_of_nonneg (hu i hi).1]
  have hq := R.only (idx_inj hfull) (q := fun i => (ul[i]?.getD 0).toNat) (fun i hi => by have := hu i hi; show (ul[i]?.getD 0).toNat < n; omega) (fun i j hi hj e => by
    have e' : (ul[i]?.getD 0).toNat = (ul[j]?.getD 0).toNat := e
    have h1 := hu i hi
    have h2 := hu j hj
    have h3 : ul[i]?.getD 0 = ul[j]?.getD 0 := by omega
    rw [List.getElem?_eq_getElem (by omega), List.getElem?_eq_getElem (by omega)] at h3
    exact (List.getElem_inj hun).1 h3) (fun A p a1 a2 a3 a4 i hi a5 => by
    obtain ⟨s, s1, s2⟩ := set_of A n
    have hA : ∀ j, inS s n j ↔ A j := fun j => ⟨fun ⟨b1, b2⟩ => (s2 j b1).1 b2, fun b => ⟨a1 j b, (s2 j (a1 j b)).2 b⟩⟩
    have := (deal_block hnd hr hfull (gt := ul) (fun i hi => by rw [hui i hi]; exact hfull i hi _ (by have := hu i hi; omega)) s).2 ⟨p, fun j hj => (hA _).2 (a2 j ((hA j).1 hj)), fun j l hj hl e => a3 j l ((hA j).1 hj) ((hA l).1 hl) e, fun j hj => by have := a4 j ((hA j).1 hj); rw [hui j hj.1]; exact this, i, (hA i).2 hi, by rw [hui i (a1 i hi)]; exact a5⟩
    rw [hc s s1] at this
    cases this)
  refine List.ext_getElem (by simp [gotL, hul]) fun i hi hi2 => ?_
  have hin : i < n := by omega
  have h1 := hq _ i hin rfl
  have h1' : (ul[i]?.getD 0).toNat = (T.got i).toNat := h1
  have h2 := hu i hin
  have h3 := h0 i hin
  have h4 : ul[i]?.getD 0 = T.got i := by omega
  rw [List.getElem?_eq_getElem hi] at h4
  have h5 := gotL_at T hin
  rw [List.getElem?_eq_getElem hi2] at h5
  exact (show ul[i] = T.got i from h4).trans h5.symm
/-- It pays to be honest. -/
theorem honest (hr : ∀ i, ∀ x ∈ wi i, 0 ≤ x ∧ x < n) (hfull : ∀ i, i < n → ∀ k, k < n → (k : Int) ∈ wi i) (hnd : ∀ i, i < n → (wi i).Nodup) {wj : Nat → List Int} (hr' : ∀ i, ∀ x ∈ wj i, 0 ≤ x ∧ x < n) (hfull' : ∀ i, i < n → ∀ k, k < n → (k : Int) ∈ wj i) (hnd' : ∀ i, i < n → (wj i).Nodup)
    {i0 : Nat} (h0 : i0 < n) (hsame : ∀ j, j ≠ i0 → wj j = wi j) {k l : Nat} {T U : Ex} (h : Reach n wi (ownF n) k (Ex0 fun _ => 1) T) (hD : Done n T) (h' : Reach n wj (ownF n) l (Ex0 fun _ => 1) U) (hD' : Done n U) : idxFrom (wi i0) (T.got i0) 0 ≤ idxFrom (wi i0) (U.got i0) 0 := by
  obtain ⟨r, R, p0⟩ := ends_rank hr hfull hnd h hD
  obtain ⟨r', R', p0'⟩ := ends_rank hr' hfull' hnd' h' hD'
  have := R.honest (idx_inj hfull) R' h0 (fun j hj => by rw [hsame j hj])
  have e1 : (((T.got i0).toNat : Nat) : Int) = T.got i0 := Int.toNat_of_nonneg (p0 i0 h0)
  have e2 : (((U.got i0).toNat : Nat) : Int) = U.got i0 := Int.toNat_of_nonneg (p0' i0 h0)
  have h2 : idxFrom (wi i0) (((T.got i0).toNat : Nat) : Int) 0 ≤ idxFrom (wi i0) (((U.got i0).toNat : Nat) : Int) 0 := this
  rwa [e1, e2] at h2
end
end Go.Proofs.Ytihmbfapbkddeaa
