import Derived.Test.YtloandcndnmkhaaKK
namespace Go.Proofs.Ytloandcndnmkhaa
open Go.RowKit
/-- How many of the first k things stand below x on a ballot. -/
def lowN (g : Bal) (x : Nat) : Nat → Nat
  | 0 => 0
  | y + 1 => lowN g x y + if plN g x < plN g y then 1 else 0
theorem boT_add (p q : Nat → Nat → Int) (x : Nat) : ∀ k, boT (fun a b => p a b + q a b) x k = boT p x k + boT q x k := by
  intro k
  induction k with
  | zero => rfl
  | succ k ih =>
    show boT _ x k + (if x = k then 0 else p x k + q x k) = boT p x k + (if x = k then 0 else p x k) + (boT q x k + if x = k then 0 else q x k)
    rw [ih]
    split <;> omega
theorem boT_low (g : Bal) (c : Int) (x : Nat) : ∀ k, boT (fun a b => if plN g a < plN g b then c else 0) x k = c * (lowN g x k : Int) := by
  intro k
  induction k with
  | zero => simp [boT, lowN]
  | succ k ih =>
    show boT _ x k + (if x = k then 0 else if plN g x < plN g k then c else 0) = c * ((lowN g x k + if plN g x < plN g k then 1 else 0 : Nat) : Int)
    rw [ih]
    by_cases e : x = k
    · subst e
      rw [if_pos rfl, if_neg (Nat.lt_irrefl _)]; simp
    · rw [if_neg e]
      by_cases h : plN g x < plN g k
      · rw [if_pos h, if_pos h]; rw [Int.natCast_add, Int.mul_add]; simp
      · rw [if_neg h, if_neg h]; simp
/-- Counting by things is counting by places. -/
theorem count_places {n : Nat} (f : Nat → Nat) (hf : ∀ y, y < n → f y < n) (hi : ∀ y z, y < n → z < n → f y = f z → y = z) (P : Nat → Bool) : ((List.range n).filter fun y => P (f y)).length = ((List.range n).filter P).length := by
  have hp : ((List.range n).map f).Perm (List.range n) := by
    have hnd : ((List.range n).map f).Nodup := by
      rw [List.nodup_iff_pairwise_ne, List.pairwise_map]
      exact (List.nodup_range (n := n)).imp_of_mem fun {a b} ha hb hab e => hab (hi a b (List.mem_range.1 ha) (List.mem_range.1 hb) e)
    refine (List.perm_ext_iff_of_nodup hnd List.nodup_range).2 fun z => ?_
    constructor
    · intro hz
      obtain ⟨y, hy, rfl⟩ := List.mem_map.1 hz
      exact List.mem_range.2 (hf y (List.mem_range.1 hy))
    · intro hz
      exact Classical.byContradiction fun hno => by
        have hlen := len_le n ((List.range n).map f ++ [z]) (by
          rw [List.nodup_append]
          refine ⟨hnd, by simp, fun q hq r hr e => ?_⟩
          rw [List.mem_singleton] at hr
          exact hno (by rw [← hr, ← e]; exact hq)) (fun q hq => by
          rcases List.mem_append.1 hq with h | h
          · obtain ⟨y, hy, rfl⟩ := List.mem_map.1 h
            exact hf y (List.mem_range.1 hy)
          · rw [List.mem_singleton.1 h]; exact List.mem_range.1 hz)
        rw [List.length_append, List.length_map, List.length_range] at hlen
        simp only [List.length_singleton] at hlen
        omega
  have := (hp.filter P).length_eq
  rw [← this, List.filter_map, List.length_map]
  rfl
theorem lowN_filter (g : Bal) (x : Nat) : ∀ k, lowN g x k = ((List.range k).filter fun y => decide (plN g x < plN g y)).length := by
  intro k
  induction k with
  | zero => rfl
  | succ k ih =>
    rw [List.range_succ, List.filter_append, List.length_append, ← ih]
    show lowN g x k + (if plN g x < plN g k then 1 else 0) = _
    by_cases h : plN g x < plN g k <;> simp [h]
theorem above_count (p : Nat) : ∀ n, p < n → ((List.range n).filter fun j => decide (p < j)).length = n - 1 - p := by
  intro n
  induction n with
  | zero => intro h; omega
  | succ n ih =>
    intro h
    rw [List.range_succ, List.filter_append, List.length_append]
    by_cases e : p = n
    · subst e
      have : ((List.range p).filter fun j => decide (p < j)) = [] := by
        rw [List.filter_eq_nil_iff]
        intro j hj
        have := List.mem_range.1 hj
        simp
        omega
      rw [this]
      simp
    · rw [ih (by omega)]
      have hpn : p < n := by omega
      simp [hpn]
      omega
theorem lowN_eq {n : Nat} {g : Bal} (ho : ordE g.order n = 0) {x : Nat} (hx : x < n) : lowN g x n = n - 1 - plN g x := by
  have hpl : ∀ y, y < n → plN g y < n ∧ g.order[plN g y]?.getD 0 = (y : Int) := fun y hy => by
    obtain ⟨p, p1, p2, p3⟩ := ord_place ho hy
    have e : plN g y = p := by unfold plN; rw [p2]; exact Int.toNat_natCast p
    rw [e]; exact ⟨p1, p3⟩
  rw [lowN_filter]
  have := count_places (plN g) (fun y hy => (hpl y hy).1) (fun y z hy hz e => by
    have h1 := (hpl y hy).2
    have h2 := (hpl z hz).2
    rw [e, h2] at h1
    omega) (fun j => decide (plN g x < j))
  rw [this, above_count _ _ (hpl x hx).1]
/-- Both ways of counting what stands below. -/
theorem borda_same {n : Nat} {l : List Bal} (hg : Good n l) {x : Nat} (hx : x < n) : ∀ k, k ≤ l.length → boT (prf l k) x n = scF (pt2 n) l k x := by
  intro k
  induction k with
  | zero =>
    intro _
    have : ∀ m, boT (prf l 0) x m = 0 := by
      intro m
      induction m with
      | zero => rfl
      | succ m ih => show boT (prf l 0) x m + (if x = m then 0 else 0) = 0; rw [ih]; split <;> rfl
    exact this n
  | succ k ih =>
    intro hk
    obtain ⟨h1, h2, h3⟩ := hg.2.2.2 k (by omega)
    have e : boT (prf l (k + 1)) x n = boT (fun a b => prf l k a b + (if plN (balAt l k) a < plN (balAt l k) b then (balAt l k).count else 0)) x n := by
      have key : ∀ m, m ≤ n → boT (prf l (k + 1)) x m = boT (fun a b => prf l k a b + (if plN (balAt l k) a < plN (balAt l k) b then (balAt l k).count else 0)) x m := by
        intro m
        induction m with
        | zero => intro _; rfl
        | succ m ihm =>
          intro hm
          show boT (prf l (k + 1)) x m + (if x = m then 0 else prf l (k + 1) x m) = boT _ x m + (if x = m then 0 else prf l k x m + (if plN (balAt l k) x < plN (balAt l k) m then (balAt l k).count else 0))
          rw [ihm (by omega)]
          congr 1
          split
          · rfl
          · show prf l k x m + (if idxFrom (balAt l k).order x 0 < idxFrom (balAt l k).order m 0 then (balAt l k).count else 0) = _
            obtain ⟨p, p1, p2, _⟩ := ord_place h1 hx
            obtain ⟨q, q1, q2, _⟩ := ord_place h1 (show m < n by omega)
            have ep : plN (balAt l k) x = p := by unfold plN; rw [p2]; exact Int.toNat_natCast p
            have eq : plN (balAt l k) m = q := by unfold plN; rw [q2]; exact Int.toNat_natCast q
            rw [ep, eq, p2, q2]
            by_cases h : p < q
            · rw [if_pos h, if_pos (by omega)]
            · rw [if_neg h, if_neg (by omega)]
      exact key n (Nat.le_refl _)
    rw [e, boT_add, ih (by omega), boT_low, lowN_eq h1 hx]
    show _ = scF (pt2 n) l k x + (balAt l k).count * pt2 n (plN (balAt l k) x)
    obtain ⟨p, p1, p2, _⟩ := ord_place h1 hx
    have ep : plN (balAt l k) x = p := by unfold plN; rw [p2]; exact Int.toNat_natCast p
    rw [ep]
    unfold pt2
    rw [show ((n - 1 - p : Nat) : Int) = (n : Int) - 1 - (p : Int) by omega]
end Go.Proofs.Ytloandcndnmkhaa
