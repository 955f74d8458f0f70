import Derived.Test.YtihmbfapbkddeaaTC
import Derived.Test.YtihmbfapbkddeaaZ6
namespace Go.Proofs.Ytihmbfapbkddeaa
theorem fst_at {p : Nat → Prop} [DecidablePred p] {l : List Int} (h : fst p l ≠ -1) : ∃ k : Nat, k < l.length ∧ fst p l = l[k]?.getD 0 ∧ ∀ j, j < k → ¬ p (l[j]?.getD 0).toNat := by
  induction l with
  | nil => exact absurd rfl h
  | cons x r ih =>
    unfold fst at h ⊢
    by_cases c : p x.toNat
    · rw [if_pos c]
      exact ⟨0, by simp, by simp, fun j hj => by omega⟩
    · rw [if_neg c] at h ⊢
      obtain ⟨k, h1, h2, h3⟩ := ih h
      refine ⟨k + 1, by simp; omega, by rw [h2]; simp, fun j hj => ?_⟩
      cases j with
      | zero => simpa using c
      | succ j => simpa using h3 j (by omega)
section
variable {n : Nat} {wi fi : Nat → List Int}
theorem got_stays : ∀ k (S T : Ex), Reach n wi fi k S T → ∀ i, S.got i ≠ -2 → T.got i = S.got i := by
  intro k
  induction k with
  | zero => intro S T h i _; have e : S = T := h; rw [e]
  | succ k ih =>
    intro S T h i hi
    obtain ⟨X, S1, h1, h2, h3⟩ := h
    have hX : ¬ X i := fun hx => by
      rcases h1 i hx with h | h
      · exact hi h.2.1
      · exact hi (h.1.2 0).2.1
    have e := h2.2.1 i hX
    rw [ih S1 T h3 i (by rw [e]; exact hi), e]
theorem reach_rank (hr : ∀ i, ∀ x ∈ wi i, 0 ≤ x ∧ x < n) (hfull : ∀ i, i < n → ∀ k, k < n → (k : Int) ∈ wi i) (hnd : ∀ i, i < n → (wi i).Nodup) (ho : ∀ s, s < n → fi s = [(s : Int)]) : ∀ k (S T : Ex), Reach n wi fi k S T → Done n T → Inv n S →
    ∃ r : Nat → Nat, (∀ i, i < n → S.got i = -2 → ∃ t : Nat, t < n ∧ T.got i = t ∧ S.got t = -2 ∧ r t = r i ∧ ∀ x : Nat, x < n → S.got x = -2 → idxFrom (wi i) x 0 < idxFrom (wi i) t 0 → r x < r i) ∧
      (∀ i j, i < n → j < n → S.got i = -2 → S.got j = -2 → T.got i = T.got j → i = j) := by
  intro k
  induction k with
  | zero =>
    intro S T h hD _
    have e : S = T := h
    subst e
    exact ⟨fun _ => 0, fun i hi h => absurd h (hD i hi), fun i j hi _ h => absurd h (hD i hi)⟩
  | succ k ih =>
    intro S T h hD hI
    obtain ⟨X, S1, hok, hd, h3⟩ := h
    obtain ⟨r1, a1, a2⟩ := ih S1 T h3 hD (inv_keep hr hfull ho hI hok hd)
    have hcy : ∀ i, X i → Cyc n wi fi S i ∧ X (Nx wi fi S i) := fun i hi => by
      rcases hok i hi with h | h
      · obtain ⟨t, _, h2, _⟩ := inv_best hr hfull ho hI h.1 h.2.1
        have := h.2.2
        omega
      · exact h
    have hX : ∀ i, X i → ∃ t : Nat, t < n ∧ Bx wi S i = t ∧ S.got t = -2 ∧ X t ∧ T.got i = t := fun i hi => by
      obtain ⟨h1, h2⟩ := hcy i hi
      have hlv := h1.2 0
      obtain ⟨t, b1, b2, b3, b4⟩ := inv_best hr hfull ho hI hlv.1 hlv.2.1
      have b2' : Bx wi S i = t := b2
      have b4' : Nx wi fi S i = t := b4
      refine ⟨t, b1, b2', b3, by rw [← b4']; exact h2, ?_⟩
      have e := hd.1 i hi
      rw [got_stays k S1 T h3 i (by rw [e, b2']; omega), e, b2']
    have hN : ∀ i, ¬ X i → S1.got i = S.got i := fun i hi => hd.2.1 i hi
    have hY : ∀ t, S1.got t = -2 → ¬ X t := fun t ht hx => by
      obtain ⟨u, _, b2, _⟩ := hX t hx
      have := hd.1 t hx
      omega
    classical
    refine ⟨fun i => if X i then 0 else r1 i + 1, fun i hi hg => ?_, fun i j hi hj hgi hgj e => ?_⟩
    · by_cases c : X i
      · obtain ⟨t, b1, b2, b3, b4, b5⟩ := hX i c
        refine ⟨t, b1, b5, b3, by show (if X t then 0 else r1 t + 1) = if X i then 0 else r1 i + 1; rw [if_pos b4, if_pos c], fun x hx hgx hlt => ?_⟩
        exfalso
        have hb : fst (fun s => 0 < S.left s) (wi i) = t := b2
        obtain ⟨q, q1, q2, q3⟩ := fst_at (p := fun s => 0 < S.left s) (l := wi i) (by rw [hb]; omega)
        obtain ⟨y, y1, y2, y3⟩ := idx_of (hfull i hi x hx)
        have h5 := idx_at (hnd i hi) q1
        rw [← q2, hb] at h5
        have h6 := q3 y (by omega)
        rw [y3, Int.toNat_natCast] at h6
        rcases hI x hx with h | h
        · exact h6 (by omega)
        · exact h.1 hgx
      · obtain ⟨t, b1, b2, b3, b4, b5⟩ := a1 i hi (by rw [hN i c]; exact hg)
        have hXt := hY t b3
        refine ⟨t, b1, b2, by rw [← hN t hXt]; exact b3, by show (if X t then 0 else r1 t + 1) = if X i then 0 else r1 i + 1; rw [if_neg hXt, if_neg c, b4], fun x hx hgx hlt => ?_⟩
        show (if X x then 0 else r1 x + 1) < if X i then 0 else r1 i + 1
        rw [if_neg c]
        by_cases cx : X x
        · rw [if_pos cx]; omega
        · rw [if_neg cx]
          have := b5 x hx (by rw [hN x cx]; exact hgx) hlt
          omega
    · by_cases c : X i
      · obtain ⟨t, b1, b2, b3, b4, b5⟩ := hX i c
        by_cases cj : X j
        · obtain ⟨u, d1, d2, d3, d4, d5⟩ := hX j cj
          exact (hcy i c).1.best (hcy j cj).1 (by omega)
        · exfalso
          obtain ⟨u, d1, d2, d3, _⟩ := a1 j hj (by rw [hN j cj]; exact hgj)
          have := hY u d3
          exact this (by rw [show u = t by omega]; exact b4)
      · by_cases cj : X j
        · exfalso
          obtain ⟨t, b1, b2, b3, b4, b5⟩ := hX j cj
          obtain ⟨u, d1, d2, d3, _⟩ := a1 i hi (by rw [hN i c]; exact hgi)
          have := hY u d3
          exact this (by rw [show u = t by omega]; exact b4)
        · exact a2 i j hi hj (by rw [hN i c]; exact hgi) (by rw [hN j cj]; exact hgj) e
/-- What Rounds ends in, as rings one after another. -/
theorem ends_rank (hr : ∀ i, ∀ x ∈ wi i, 0 ≤ x ∧ x < n) (hfull : ∀ i, i < n → ∀ k, k < n → (k : Int) ∈ wi i) (hnd : ∀ i, i < n → (wi i).Nodup) {k : Nat} {T : Ex} (h : Reach n wi (ownF n) k (Ex0 fun _ => 1) T) (hD : Done n T) :
    ∃ r, Rank n (fun i x => idxFrom (wi i) (x : Int) 0) (fun i => (T.got i).toNat) r ∧ ∀ i, i < n → 0 ≤ T.got i := by
  obtain ⟨r, a1, a2⟩ := reach_rank hr hfull hnd (fun s hs => ownF_in hs) k _ T h hD inv_start
  refine ⟨r, ⟨fun i hi => ?_, fun i j hi hj e => ?_, fun i hi => ?_, fun i x hi hx hlt => ?_⟩, fun i hi => ?_⟩
  · obtain ⟨t, b1, b2, _⟩ := a1 i hi rfl
    show (T.got i).toNat < n
    omega
  · obtain ⟨t, b1, b2, _⟩ := a1 i hi rfl
    obtain ⟨u, d1, d2, _⟩ := a1 j hj rfl
    have e' : (T.got i).toNat = (T.got j).toNat := e
    exact a2 i j hi hj rfl rfl (by omega)
  · obtain ⟨t, b1, b2, _, b4, _⟩ := a1 i hi rfl
    show r (T.got i).toNat = r i
    rw [b2, Int.toNat_natCast, b4]
  · obtain ⟨t, b1, b2, _, _, b5⟩ := a1 i hi rfl
    have hlt' : idxFrom (wi i) (x : Int) 0 < idxFrom (wi i) (((T.got i).toNat : Nat) : Int) 0 := hlt
    rw [b2, Int.toNat_natCast] at hlt'
    exact b5 x hx rfl hlt'
  · obtain ⟨t, b1, b2, _⟩ := a1 i hi rfl
    omega
end
end Go.Proofs.Ytihmbfapbkddeaa
