import Derived.Test.YtloandcndnmkhaaH
import Derived.Test.YtloandcndnmkhaaG
import Derived.Test.YtloandcndnmkhaaI
namespace Go.Proofs.Ytloandcndnmkhaa
open Go.RowKit
/-- The order in which x is moved up to the place t. -/
def rAt (o : List Int) (x : Int) (at' t j : Nat) : Int := if j < t then o[j]?.getD 0 else if j = t then x else if j ≤ at' then o[j - 1]?.getD 0 else o[j]?.getD 0
def rL (o : List Int) (x : Int) (at' t n : Nat) : List Int := (List.range n).map (rAt o x at' t)
theorem rL_len (o : List Int) (x : Int) (at' t n : Nat) : (rL o x at' t n).length = n := by simp [rL]
theorem rL_at (o : List Int) (x : Int) (at' t : Nat) {n j : Nat} (h : j < n) : (rL o x at' t n)[j]?.getD 0 = rAt o x at' t j := by
  unfold rL
  rw [List.getElem?_map, List.getElem?_range h]
  rfl
theorem rL_take (o : List Int) (x : Int) (at' t : Nat) {n k : Nat} (h : k < n) : (rL o x at' t n).take (k + 1) = (rL o x at' t n).take k ++ [rAt o x at' t k] := by
  rw [List.take_add_one, List.getElem?_eq_getElem (by rw [rL_len]; exact h)]
  have := rL_at o x at' t h
  rw [List.getElem?_eq_getElem (by rw [rL_len]; exact h)] at this
  simp only [Option.getD_some] at this
  rw [this]; rfl
/-- Two lists of which places tell all. -/
theorem idx_uniq {l : List Int} (hnd : l.Nodup) {i : Nat} (hi : i < l.length) {y : Int} (h : l[i]?.getD 0 = y) : idxFrom l y 0 = i := by
  rcases idxFrom_spec l y _ 0 rfl with ⟨h1, h2⟩ | ⟨m, _, h2, h3, h4, h5⟩
  · exact absurd h (h2 i (Nat.zero_le _) hi)
  · rw [h4]
    rw [List.getElem?_eq_getElem hi] at h
    rw [List.getElem?_eq_getElem h2] at h3
    have := (List.getElem_inj hnd).1 (show l[m] = l[i] from h3.trans h.symm)
    omega
section
variable {o : List Int} {n x a t : Nat} (ho : ordE o n = 0) (hx : x < n) (ha : idxFrom o x 0 = a) (ht : t ≤ a)
theorem ord_len (ho : ordE o n = 0) : o.length = n := by
  unfold ordE at ho
  by_cases c : (o.length : Int) = n
  · omega
  · rw [if_neg c] at ho; omega
include ho hx ha ht
theorem r_inj : ∀ i j, i < n → j < n → rAt o x a t i = rAt o x a t j → i = j := by
  intro i j hi hj e
  have hl := ord_len ho
  obtain ⟨p, p1, p2, p3⟩ := ord_place ho hx
  have hpa : p = a := by omega
  subst hpa
  have key : ∀ u v, u < n → v < n → o[u]?.getD 0 = o[v]?.getD 0 → u = v := fun u v hu hv h => by
    rw [List.getElem?_eq_getElem (by omega), List.getElem?_eq_getElem (by omega)] at h
    exact (List.getElem_inj (ord_nodup ho)).1 h
  unfold rAt at e
  by_cases i1 : i < t
  · rw [if_pos i1] at e
    by_cases j1 : j < t
    · rw [if_pos j1] at e; exact key i j hi hj e
    · rw [if_neg j1] at e
      by_cases j2 : j = t
      · rw [if_pos j2] at e
        have := key i p hi p1 (by rw [e, p3])
        omega
      · rw [if_neg j2] at e
        by_cases j3 : j ≤ p
        · rw [if_pos j3] at e; have := key i (j - 1) hi (by omega) e; omega
        · rw [if_neg j3] at e; have := key i j hi hj e; omega
  · rw [if_neg i1] at e
    by_cases i2 : i = t
    · rw [if_pos i2] at e
      by_cases j1 : j < t
      · rw [if_pos j1] at e
        have := key p j p1 hj (by rw [p3, e])
        omega
      · rw [if_neg j1] at e
        by_cases j2 : j = t
        · omega
        · rw [if_neg j2] at e
          by_cases j3 : j ≤ p
          · rw [if_pos j3] at e; have := key p (j - 1) p1 (by omega) (by rw [p3, e]); omega
          · rw [if_neg j3] at e; have := key p j p1 hj (by rw [p3, e]); omega
    · rw [if_neg i2] at e
      by_cases i3 : i ≤ p
      · rw [if_pos i3] at e
        by_cases j1 : j < t
        · rw [if_pos j1] at e; have := key (i - 1) j (by omega) hj e; omega
        · rw [if_neg j1] at e
          by_cases j2 : j = t
          · rw [if_pos j2] at e; have := key (i - 1) p (by omega) p1 (by rw [e, p3]); omega
          · rw [if_neg j2] at e
            by_cases j3 : j ≤ p
            · rw [if_pos j3] at e; have := key (i - 1) (j - 1) (by omega) (by omega) e; omega
            · rw [if_neg j3] at e; have := key (i - 1) j (by omega) hj e; omega
      · rw [if_neg i3] at e
        by_cases j1 : j < t
        · rw [if_pos j1] at e; have := key i j hi hj e; omega
        · rw [if_neg j1] at e
          by_cases j2 : j = t
          · rw [if_pos j2] at e; have := key i p hi p1 (by rw [e, p3]); omega
          · rw [if_neg j2] at e
            by_cases j3 : j ≤ p
            · rw [if_pos j3] at e; have := key i (j - 1) hi (by omega) e; omega
            · rw [if_neg j3] at e; have := key i j hi hj e; omega
theorem r_nodup : (rL o x a t n).Nodup := by
  unfold rL
  show List.Pairwise _ _
  rw [List.pairwise_map]
  refine List.Pairwise.imp_of_mem ?_ (List.nodup_range (n := n))
  intro i j hi hj hij e
  exact hij (r_inj ho hx ha ht i j (List.mem_range.1 hi) (List.mem_range.1 hj) e)
theorem r_x : idxFrom (rL o x a t n) x 0 = t := by
  have hl := ord_len ho
  obtain ⟨p, p1, p2, p3⟩ := ord_place ho hx
  refine idx_uniq (r_nodup ho hx ha ht) (by rw [rL_len]; omega) ?_
  rw [rL_at _ _ _ _ (by omega)]
  unfold rAt
  rw [if_neg (by omega), if_pos rfl]
theorem r_y {y : Nat} (hy : y < n) (hne : y ≠ x) : ∃ p : Nat, p < n ∧ idxFrom o y 0 = p ∧ p ≠ a ∧ idxFrom (rL o x a t n) y 0 = if p < t then (p : Int) else if p < a then (p : Int) + 1 else p := by
  have hl := ord_len ho
  obtain ⟨q, q1, q2, q3⟩ := ord_place ho hx
  obtain ⟨p, p1, p2, p3⟩ := ord_place ho hy
  have hpa : p ≠ a := fun e => by
    have : p = q := by omega
    subst this
    omega
  refine ⟨p, p1, p2, hpa, ?_⟩
  by_cases c1 : p < t
  · rw [if_pos c1]
    refine idx_uniq (r_nodup ho hx ha ht) (by rw [rL_len]; omega) ?_
    rw [rL_at _ _ _ _ (by omega)]
    unfold rAt
    rw [if_pos c1, p3]
  · rw [if_neg c1]
    by_cases c2 : p < a
    · rw [if_pos c2]
      have := idx_uniq (r_nodup ho hx ha ht) (i := p + 1) (by rw [rL_len]; omega) (y := y) (by
        rw [rL_at _ _ _ _ (by omega)]
        unfold rAt
        rw [if_neg (by omega), if_neg (by omega), if_pos (by omega), Nat.add_sub_cancel, p3])
      rw [this]; omega
    · rw [if_neg c2]
      refine idx_uniq (r_nodup ho hx ha ht) (by rw [rL_len]; omega) ?_
      rw [rL_at _ _ _ _ (by omega)]
      unfold rAt
      rw [if_neg (by omega), if_neg (by omega), if_neg (by omega), p3]
theorem r_ord : ordE (rL o x a t n) n = 0 := by
  have hl := ord_len ho
  obtain ⟨q, q1, q2, q3⟩ := ord_place ho hx
  refine ord_zero (rL_len _ _ _ _ _) (fun z hz => ?_) (r_nodup ho hx ha ht)
  unfold rL at hz
  obtain ⟨i, hi, rfl⟩ := List.mem_map.1 hz
  have hi := List.mem_range.1 hi
  have hr := fun j (hj : j < n) => ord_range ho (o[j]?.getD 0) (getD_mem (by omega))
  unfold rAt
  by_cases c1 : i < t
  · rw [if_pos c1]; exact hr i hi
  · rw [if_neg c1]
    by_cases c2 : i = t
    · rw [if_pos c2]; omega
    · rw [if_neg c2]
      by_cases c3 : i ≤ a
      · rw [if_pos c3]; exact hr (i - 1) (by omega)
      · rw [if_neg c3]; exact hr i hi
/-- What raising one does to who stands above whom. -/
theorem r_above : (∀ y, y < n → idxFrom o x 0 < idxFrom o y 0 → idxFrom (rL o x a t n) x 0 < idxFrom (rL o x a t n) y 0) ∧
    (∀ y, y < n → idxFrom (rL o x a t n) y 0 < idxFrom (rL o x a t n) x 0 → idxFrom o y 0 < idxFrom o x 0) ∧
    (∀ y z, y < n → z < n → y ≠ x → z ≠ x → (idxFrom (rL o x a t n) y 0 < idxFrom (rL o x a t n) z 0 ↔ idxFrom o y 0 < idxFrom o z 0)) := by
  have hX := r_x ho hx ha ht
  refine ⟨fun y hy h => ?_, fun y hy h => ?_, fun y z hy hz h1 h2 => ?_⟩
  · by_cases e : y = x
    · subst e; omega
    · obtain ⟨p, p1, p2, p3, p4⟩ := r_y ho hx ha ht hy e
      rw [hX, p4, if_neg (by omega), if_neg (by omega)]
      omega
  · by_cases e : y = x
    · subst e; omega
    · obtain ⟨p, p1, p2, p3, p4⟩ := r_y ho hx ha ht hy e
      rw [hX, p4] at h
      by_cases c : p < t
      · omega
      · rw [if_neg c] at h
        by_cases c2 : p < a
        · rw [if_pos c2] at h; omega
        · rw [if_neg c2] at h; omega
  · obtain ⟨p, p1, p2, p3, p4⟩ := r_y ho hx ha ht hy h1
    obtain ⟨q, q1, q2, q3, q4⟩ := r_y ho hx ha ht hz h2
    rw [p4, q4, p2, q2]
    by_cases c : p < t
    · rw [if_pos c]
      by_cases d : q < t
      · rw [if_pos d]
      · rw [if_neg d]
        by_cases d2 : q < a
        · rw [if_pos d2]; omega
        · rw [if_neg d2]
    · rw [if_neg c]
      by_cases c2 : p < a
      · rw [if_pos c2]
        by_cases d : q < t
        · rw [if_pos d]; omega
        · rw [if_neg d]
          by_cases d2 : q < a
          · rw [if_pos d2]; omega
          · rw [if_neg d2]; omega
      · rw [if_neg c2]
        by_cases d : q < t
        · rw [if_pos d]
        · rw [if_neg d]
          by_cases d2 : q < a
          · rw [if_pos d2]; omega
          · rw [if_neg d2]
end
/-- One ballot's word. -/
def tm (g : Bal) (x y : Nat) : Int := if idxFrom g.order x 0 < idxFrom g.order y 0 then g.count else 0
theorem prf_step (l : List Bal) (k x y : Nat) : prf l (k + 1) x y = prf l k x y + tm (balAt l k) x y := rfl
theorem prf_mono {l l' : List Bal} {x y : Nat} : ∀ k, (∀ j, j < k → tm (balAt l j) x y ≤ tm (balAt l' j) x y) → prf l k x y ≤ prf l' k x y := by
  intro k
  induction k with
  | zero => intro _; exact Int.le_refl _
  | succ k ih =>
    intro h
    rw [prf_step, prf_step]
    have := ih (fun j hj => h j (by omega))
    have := h k (by omega)
    omega
theorem balAt_set {l : List Bal} {i j : Nat} {g : Bal} (hi : i < l.length) : balAt (l.set i g) j = if j = i then g else balAt l j := by
  unfold balAt
  rw [List.getElem?_set]
  by_cases e : i = j
  · rw [if_pos e, if_pos hi, if_pos e.symm]; rfl
  · rw [if_neg e, if_neg (Ne.symm e)]
/-- One ballot raises x: x stays chosen. -/
theorem raise_one {l : List Bal} {n i x a t : Nat} (hg : Good n l) (hi : i < l.length) (hx : x < n) {g : Bal} (hgo : g.order = rL (balAt l i).order x a t n) (hgc : g.count = (balAt l i).count) (ha : idxFrom (balAt l i).order x 0 = a) (ht : t ≤ a)
    (hs : ∀ j, j < n → fw (prf l l.length) n j x ≤ fw (prf l l.length) n x j) :
    Good n (l.set i g) ∧ ∀ j, j < n → fw (prf (l.set i g) (l.set i g).length) n j x ≤ fw (prf (l.set i g) (l.set i g).length) n x j := by
  have hio := (hg.2.2.2 i hi).1
  have hic := (hg.2.2.2 i hi).2
  have hg' : Good n (l.set i g) := by
    refine ⟨hg.1, hg.2.1, by rw [List.length_set]; exact hg.2.2.1, fun k hk => ?_⟩
    rw [List.length_set] at hk
    rw [balAt_set hi]
    by_cases e : k = i
    · rw [if_pos e, hgo, hgc]
      exact ⟨r_ord hio hx ha ht, hic⟩
    · rw [if_neg e]; exact hg.2.2.2 k hk
  refine ⟨hg', ?_⟩
  obtain ⟨A1, A2, A3⟩ := r_above hio hx ha ht
  rw [List.length_set]
  have key : ∀ u v : Nat, (∀ (_ : idxFrom (balAt l i).order u 0 < idxFrom (balAt l i).order v 0), idxFrom g.order u 0 < idxFrom g.order v 0) → prf l l.length u v ≤ prf (l.set i g) l.length u v := fun u v h =>
    prf_mono l.length fun j hj => by
      rw [balAt_set hi]
      by_cases e : j = i
      · rw [if_pos e, e]
        unfold tm
        rw [hgc]
        by_cases c : idxFrom (balAt l i).order u 0 < idxFrom (balAt l i).order v 0
        · rw [if_pos c, if_pos (h c)]; exact Int.le_refl _
        · rw [if_neg c]
          by_cases c2 : idxFrom g.order u 0 < idxFrom g.order v 0
          · rw [if_pos c2]; exact hic.1
          · rw [if_neg c2]; exact Int.le_refl _
      · rw [if_neg e]; exact Int.le_refl _
  have key2 : ∀ u v : Nat, (∀ (_ : idxFrom g.order u 0 < idxFrom g.order v 0), idxFrom (balAt l i).order u 0 < idxFrom (balAt l i).order v 0) → prf (l.set i g) l.length u v ≤ prf l l.length u v := fun u v h =>
    prf_mono l.length fun j hj => by
      rw [balAt_set hi]
      by_cases e : j = i
      · rw [if_pos e, e]
        unfold tm
        rw [hgc]
        by_cases c : idxFrom g.order u 0 < idxFrom g.order v 0
        · rw [if_pos c, if_pos (h c)]; exact Int.le_refl _
        · rw [if_neg c]
          by_cases c2 : idxFrom (balAt l i).order u 0 < idxFrom (balAt l i).order v 0
          · rw [if_pos c2]; exact hic.1
          · rw [if_neg c2]; exact Int.le_refl _
      · rw [if_neg e]; exact Int.le_refl _
  refine raised (p := prf l l.length) (q := prf (l.set i g) l.length) (fun u v => (prf_le hg u v l.length (Nat.le_refl _)).1) (fun u v => (prf_le hg' u v l.length (by rw [List.length_set]; exact Nat.le_refl _)).1) hx (fun y hy => key x y (by rw [hgo]; exact A1 y hy)) (fun y hy => key2 y x (by rw [hgo]; exact A2 y hy)) (fun u v hu hv h1 h2 => ?_) hs
  have b1 := key u v (by rw [hgo]; exact (A3 u v hu hv h1 h2).2)
  have b2 := key2 u v (by rw [hgo]; exact (A3 u v hu hv h1 h2).1)
  omega
end Go.Proofs.Ytloandcndnmkhaa
