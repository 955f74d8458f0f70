import Derived.Test.YtihmbfapbkddeaaTH
namespace Go.Proofs.Ytihmbfapbkddeaa
open Go.RowKit
theorem nz_zero {f : Nat → Int} {n : Nat} (h : ∀ i, i < n → f i = 0) : ∀ d k, n - k = d → nzFrom f n k = 0 := by
  intro d
  induction d with
  | zero => intro k hk; exact nz_end (by omega)
  | succ d ih => intro k hk; rw [nz_no (show k < n by omega) (h k (by omega)), ih (k + 1) (by omega)]
theorem tE_zero {WL : List Sl} {n : Nat} (h6 : n ≤ 6) (h : ∀ i, i < n → ordE (lisA WL i) n = 0) : tE WL n = 0 := by
  unfold tE
  rw [if_neg (by omega)]
  exact nz_zero h _ 0 rfl
theorem got_ord {wi : Nat → List Int} {n : Nat} (hr : ∀ i, ∀ x ∈ wi i, 0 ≤ x ∧ x < n) (hfull : ∀ i, i < n → ∀ k, k < n → (k : Int) ∈ wi i) (hnd : ∀ i, i < n → (wi i).Nodup) {k : Nat} {T : Ex} (h : Reach n wi (ownF n) k (Ex0 fun _ => 1) T) (hD : Done n T) : ordE (gotL T n) n = 0 := by
  obtain ⟨r, R, h0⟩ := ends_rank hr hfull hnd h hD
  refine ord_zero (by simp [gotL]) (fun x hx => ?_) ?_
  · unfold gotL at hx
    obtain ⟨i, hi, rfl⟩ := List.mem_map.1 hx
    have hi := List.mem_range.1 hi
    have h1 := R.lt i hi
    have h2 := h0 i hi
    have h1' : (T.got i).toNat < n := h1
    omega
  · unfold gotL
    show List.Pairwise _ _
    rw [List.pairwise_map]
    refine List.Pairwise.imp_of_mem ?_ (List.nodup_range (n := n))
    intro i j hi hj hij e
    have hi := List.mem_range.1 hi
    have hj := List.mem_range.1 hj
    exact hij (R.inj i j hi hj (by show (T.got i).toNat = (T.got j).toNat; rw [e]))
/-- Core of the end of the rounds. -/
theorem cor_yes {WL : List Sl} {n : Nat} (hn : n = WL.length) (hz : tE WL n = 0) {k : Nat} {T : Ex} (h : Reach n (lisA WL) (ownF n) k (Ex0 fun _ => 1) T) (hD : Done n T) : corV WL n (gotL T n) = three true 0 0 := by
  obtain ⟨hn6, hr, hfull, hord⟩ := tr_ok hn hz
  have hnd := fun i hi => ord_nodup (hord i hi)
  unfold corV
  rw [if_neg (by omega), if_neg (by rw [got_ord hr hfull hnd h hD]; simp), find_none.2 fun s _ => core_yes hr hfull hnd h hD s]
  rfl
/-- Core of any order. -/
theorem cor_is {WL : List Sl} {n : Nat} (hn : n = WL.length) (hz : tE WL n = 0) {k : Nat} {T : Ex} (h : Reach n (lisA WL) (ownF n) k (Ex0 fun _ => 1) T) (hD : Done n T) {ul : List Int} (hu : ordE ul n = 0) : ∃ s, corV WL n ul = three (decide (gotL T n = ul)) s 0 := by
  obtain ⟨hn6, hr, hfull, hord⟩ := tr_ok hn hz
  have hnd := fun i hi => ord_nodup (hord i hi)
  by_cases c : gotL T n = ul
  · rw [← c, cor_yes hn hz h hD]
    exact ⟨0, by simp⟩
  · rw [decide_eq_false c]
    unfold corV
    rw [if_neg (by omega), if_neg (by omega)]
    cases hf : findF (fun s => dealL (lisA WL) ul (whoL s n) s false) (2 ^ n) 0 with
    | some s => exact ⟨s, rfl⟩
    | none =>
      exfalso
      have hl : ul.length = n := by
        unfold ordE at hu
        by_cases c : (ul.length : Int) = n
        · omega
        · rw [if_neg c] at hu; omega
      exact c (core_only hr hfull hnd h hD hl (ord_nodup hu) (ord_range hu) (find_none.1 hf)).symm
end Go.Proofs.Ytihmbfapbkddeaa
