import Derived.Test.YtihmbfapbkddeaaE
namespace Go.Proofs.Ytihmbfapbkddeaa
open Go.RowKit
theorem idx_mem (l : List Int) (x : Int) : decide (0 ≤ idxFrom l x 0) = decide (x ∈ l) := by
  rcases idxFrom_spec l x _ 0 rfl with ⟨h1, h2⟩ | ⟨m, _, h2, h3, h4, _⟩
  · rw [decide_eq_false (by omega), decide_eq_false]
    intro h
    obtain ⟨i, hi, e⟩ := List.getElem_of_mem h
    exact h2 i (Nat.zero_le _) hi (by rw [List.getElem?_eq_getElem hi]; exact e)
  · rw [decide_eq_true (by omega), decide_eq_true]
    rw [List.getElem?_eq_getElem h2] at h3
    have : l[m] = x := h3
    rw [← this]
    exact List.getElem_mem h2
theorem Ints.dropAt {w : World} {b off n c : Nat} {l : List Int} (h : Ints w (some ⟨b, off, none⟩) n c l) (k : Nat) (hk : k ≤ n) : Ints w (if c = k then some ⟨b, off, none⟩ else some ⟨b, off + k, none⟩) (n - k) (c - k) (l.drop k) := by
  obtain ⟨h1, h2, h3, h4⟩ := h
  refine ⟨by rw [List.length_drop]; omega, by omega, by unfold maxLen at *; omega, ?_⟩
  by_cases hz : n = k
  · exact .inl (by omega)
  rcases h4 with h0 | ⟨b', off', e, hb, hc⟩
  · exact .inl (by omega)
  · cases e
    rw [if_neg (by omega)]
    refine .inr ⟨b, off + k, rfl, hb, fun j hj => ?_⟩
    rw [List.getElem?_drop, Nat.add_assoc]
    exact hc (k + j) (by omega)
section
variable (wi fi : Nat → List Int) (S : Ex)
/-- Where one comes by q steps. -/
def pathL (i q : Nat) : List Int := (List.range q).map fun t => (itx wi fi S t i : Int)
end
section
variable {n : Nat} {wi fi : Nat → List Int} {S : Ex}
theorem itx_next (q i : Nat) : itx wi fi S (q + 1) i = Nx wi fi S (itx wi fi S q i) := by
  rw [Nat.add_comm, itx_add]; rfl
theorem path_len (i q : Nat) : (pathL wi fi S i q).length = q := by simp [pathL]
theorem path_succ (i q : Nat) : pathL wi fi S i (q + 1) = pathL wi fi S i q ++ [(itx wi fi S q i : Int)] := by
  unfold pathL
  rw [List.range_succ, List.map_append]
  rfl
theorem path_mem {i q : Nat} {x : Int} : x ∈ pathL wi fi S i q ↔ ∃ t, t < q ∧ x = itx wi fi S t i := by
  unfold pathL
  rw [List.mem_map]
  exact ⟨fun ⟨t, h1, h2⟩ => ⟨t, List.mem_range.1 h1, h2.symm⟩, fun ⟨t, h1, h2⟩ => ⟨t, List.mem_range.2 h1, h2.symm⟩⟩
theorem path_at {i q t : Nat} (h : t < q) : (pathL wi fi S i q)[t]?.getD 0 = itx wi fi S t i := by
  unfold pathL
  rw [List.getElem?_map, List.getElem?_range h]
  rfl
theorem path_drop {i q k : Nat} {x : Int} : x ∈ (pathL wi fi S i q).drop k ↔ ∃ t, k ≤ t ∧ t < q ∧ x = itx wi fi S t i := by
  rw [List.mem_iff_getElem?]
  constructor
  · rintro ⟨j, hj⟩
    rw [List.getElem?_drop] at hj
    have hl : k + j < q := by
      rcases Nat.lt_or_ge (k + j) q with h | h
      · exact h
      · rw [List.getElem?_eq_none (by rw [path_len]; exact h)] at hj; cases hj
    have := path_at (wi := wi) (fi := fi) (S := S) (i := i) hl
    rw [hj] at this
    exact ⟨k + j, by omega, hl, this⟩
  · rintro ⟨t, h1, h2, rfl⟩
    refine ⟨t - k, ?_⟩
    rw [List.getElem?_drop, show k + (t - k) = t by omega]
    unfold pathL
    rw [List.getElem?_map, List.getElem?_range h2]
    rfl
theorem live_all {i p : Nat} (hp : 0 < p) (e : itx wi fi S p i = i) (hl : ∀ t, t < p → Live n wi S (itx wi fi S t i)) : ∀ d r, r ≤ d → Live n wi S (itx wi fi S r i) := by
  intro d
  induction d with
  | zero => intro r hr; exact hl r (by omega)
  | succ d ih =>
    intro r hr
    by_cases c : r < p
    · exact hl r c
    · have h1 : itx wi fi S r i = itx wi fi S (r - p) i := by
        rw [show r = (r - p) + p by omega, itx_add, e, Nat.add_sub_cancel]
      rw [h1]
      exact ih (r - p) (by omega)
theorem ring_cyc {i q k t : Nat} (hk : k < q) (e : itx wi fi S q i = itx wi fi S k i) (hl : ∀ t, t < q → Live n wi S (itx wi fi S t i)) (h1 : k ≤ t) (h2 : t < q) : Cyc n wi fi S (itx wi fi S t i) := by
  have fold : ∀ r, itx wi fi S (r + q) i = itx wi fi S (r + k) i := fun r => by rw [itx_add, e, ← itx_add]
  have ep : itx wi fi S (q - k) (itx wi fi S t i) = itx wi fi S t i := by
    rw [← itx_add, show q - k + t = (t - k) + q by omega, fold, show t - k + k = t by omega]
  refine ⟨⟨q - k, by omega, ep⟩, fun r => live_all (p := q - k) (by omega) ep (fun s hs => ?_) r r (Nat.le_refl _)⟩
  rw [← itx_add]
  by_cases c : s + t < q
  · exact hl _ c
  · rw [show s + t = (s + t - q) + q by omega, fold]
    exact hl _ (by omega)
/-- What goes at once: a ring, or one alone. -/
structure RingL (n : Nat) (wi fi : Nat → List Int) (S : Ex) (R : List Int) : Prop where
  ok : Ok n wi fi S (fun i => (i : Int) ∈ R)
  nd : R.Nodup
  ne : R ≠ []
  rg : ∀ x ∈ R, 0 ≤ x ∧ x < n ∧ S.got x.toNat = -2
theorem ring_of {i q k : Nat} (hk : k < q) (e : itx wi fi S q i = itx wi fi S k i) (hl : ∀ t, t < q → Live n wi S (itx wi fi S t i)) (hn : (pathL wi fi S i q).Nodup) : RingL n wi fi S ((pathL wi fi S i q).drop k) := by
  refine ⟨fun j hj => ?_, hn.sublist (List.drop_sublist _ _), fun h => ?_, fun x hx => ?_⟩
  · obtain ⟨t, h1, h2, h3⟩ := path_drop.1 hj
    have h3 : j = itx wi fi S t i := by omega
    subst h3
    refine .inr ⟨ring_cyc hk e hl h1 h2, path_drop.2 ?_⟩
    by_cases c : t + 1 < q
    · exact ⟨t + 1, by omega, c, by rw [itx_next]⟩
    · refine ⟨k, Nat.le_refl _, hk, ?_⟩
      rw [← itx_next, show t + 1 = q by omega, e]
  · have := congrArg List.length h
    rw [List.length_drop, path_len] at this
    simp at this
    omega
  · obtain ⟨t, h1, h2, rfl⟩ := path_drop.1 hx
    have := hl t h2
    exact ⟨by omega, by have := this.1; omega, by rw [Int.toNat_natCast]; exact this.2.1⟩
theorem alone_of {i : Nat} (h : Nil n wi S i) : RingL n wi fi S [(i : Int)] := by
  refine ⟨fun j hj => ?_, by simp, by simp, fun x hx => ?_⟩
  · have : j = i := by simp at hj; omega
    subst this
    exact .inl h
  · simp at hx
    subst hx
    exact ⟨by omega, by have := h.1; omega, by rw [Int.toNat_natCast]; exact h.2.1⟩
theorem path_nodup_len {i q : Nat} (hn : (pathL wi fi S i q).Nodup) (hl : ∀ t, t < q → itx wi fi S t i < n) : q ≤ n := by
  have h := len_le n ((List.range q).map fun t => itx wi fi S t i) (by
    have : pathL wi fi S i q = ((List.range q).map fun t => itx wi fi S t i).map (fun x : Nat => (x : Int)) := by unfold pathL; rw [List.map_map]; rfl
    rw [this] at hn
    exact List.Pairwise.of_map _ (fun a b h e => h (by rw [e])) hn) (fun x hx => by
      rw [List.mem_map] at hx
      obtain ⟨t, h1, rfl⟩ := hx
      exact hl t (List.mem_range.1 h1))
  simpa using h
end
def lenV : Value → Nat
  | .slice _ n _ => n
  | _ => 0
def FolPost (n : Nat) (wi fi : Nat → List Int) (S : Ex) (w : World) (e : Ending) (w' : World) : Prop :=
  ∃ b off k c R, e = .returned (.slice (some ⟨b, off, none⟩) k c) ∧ w.heap.size ≤ b ∧ Ints w' (some ⟨b, off, none⟩) k c R ∧ RingL n wi fi S R ∧ Below w.heap.size w w'
end Go.Proofs.Ytihmbfapbkddeaa
