import Derived.Test.YtihmbfapbkddeaaT2
namespace Go.Proofs.Ytihmbfapbkddeaa
open Go.RowKit
/-- All orders of a list, as the document tells them. -/
def permsF : Nat → List Int → List (List Int)
  | 0, _ => [[]]
  | d + 1, l => (List.range l.length).flatMap fun i => (permsF d (l.take i ++ l.drop (i + 1))).map fun p => (l[i]?.getD 0) :: p
def permsL (l : List Int) : List (List Int) := permsF l.length l
theorem split_at (l : List Int) {i : Nat} (h : i < l.length) : l.Perm ((l[i]?.getD 0) :: (l.take i ++ l.drop (i + 1))) := by
  have e : l = l.take i ++ l[i]?.getD 0 :: l.drop (i + 1) := by
    rw [List.getElem?_eq_getElem h]
    simp
  conv => lhs; rw [e]
  exact List.perm_middle
theorem perms_mem : ∀ (d : Nat) (l p : List Int), l.length = d → (p ∈ permsF d l ↔ p.Perm l) := by
  intro d
  induction d with
  | zero =>
    intro l p hl
    have : l = [] := List.length_eq_zero_iff.1 hl
    subst this
    simp [permsF]
  | succ d ih =>
    intro l p hl
    rw [permsF, List.mem_flatMap]
    constructor
    · rintro ⟨i, hi, hp⟩
      have hi := List.mem_range.1 hi
      rw [List.mem_map] at hp
      obtain ⟨q, hq, rfl⟩ := hp
      have hq2 := (ih _ q (by simp; omega)).1 hq
      exact (List.Perm.cons _ hq2).trans (split_at l hi).symm
    · intro hp
      cases p with
      | nil => have := hp.length_eq; simp at this; omega
      | cons x q =>
        have hx : x ∈ l := hp.mem_iff.1 (by simp)
        obtain ⟨i, hi, e⟩ := List.getElem_of_mem hx
        have e2 : l[i]?.getD 0 = x := by rw [List.getElem?_eq_getElem hi]; exact e
        refine ⟨i, List.mem_range.2 hi, List.mem_map.2 ⟨q, (ih _ q (by simp; omega)).2 ?_, by rw [e2]⟩⟩
        have h2 := hp.trans (split_at l hi)
        rw [e2] at h2
        exact (List.perm_cons x).1 h2
theorem perms_mem' (l p : List Int) : p ∈ permsL l ↔ p.Perm l := perms_mem _ l p rfl
theorem perm_of_sub : ∀ (A B : List Int), A.Nodup → (∀ x ∈ A, x ∈ B) → A.length = B.length → A.Perm B := by
  intro A
  induction A with
  | nil => intro B _ _ h; rw [List.length_eq_zero_iff.1 (show B.length = 0 by simpa using h.symm)]
  | cons x A ih =>
    intro B hn hs hl
    have hx : x ∈ B := hs x (by simp)
    have h1 := ih (B.erase x) (List.nodup_cons.1 hn).2 (fun y hy => by
      have hne : y ≠ x := fun e => by subst e; exact (List.nodup_cons.1 hn).1 hy
      exact (List.mem_erase_of_ne hne).2 (hs y (by simp [hy]))) (by rw [List.length_erase_of_mem hx]; simp at hl; omega)
    exact (List.Perm.cons x h1).trans (List.perm_cons_erase hx).symm
/-- What a set's traders can share out: who is still to choose, what is left (a bit each), whether one has gained. -/
def place (wi : Nat → List Int) (k : Nat) (c : Int) : Int := idxFrom (wi k) c 0
def dealL (wi : Nat → List Int) (gt : List Int) : List Nat → Nat → Bool → Bool
  | [], _, gain => gain
  | k :: r, left, gain => (List.range ((place wi k (gt[k]?.getD 0)).toNat + 1)).any fun i => left.testBit ((wi k)[i]?.getD 0).toNat && dealL wi gt r (left ^^^ 2 ^ ((wi k)[i]?.getD 0).toNat) (gain || decide ((i : Int) < place wi k (gt[k]?.getD 0)))
/-- The document's: fine, and better for one. -/
def fineL (wi : Nat → List Int) (gt : List Int) : List Nat → List Int → Bool
  | k :: r, c :: p => decide (place wi k c ≤ place wi k (gt[k]?.getD 0)) && fineL wi gt r p
  | _, _ => true
def moreL (wi : Nat → List Int) (gt : List Int) : List Nat → List Int → Bool
  | k :: r, c :: p => decide (place wi k c < place wi k (gt[k]?.getD 0)) || moreL wi gt r p
  | _, _ => false
theorem idx_at {l : List Int} (hn : l.Nodup) {i : Nat} (h : i < l.length) : idxFrom l (l[i]?.getD 0) 0 = i := by
  rcases idxFrom_spec l (l[i]?.getD 0) _ 0 rfl with ⟨_, h2⟩ | ⟨m, _, h2, h3, h4, _⟩
  · exact absurd rfl (h2 i (Nat.zero_le _) h)
  · rw [h4]
    rw [List.getElem?_eq_getElem h, List.getElem?_eq_getElem h2] at h3
    have := (List.getElem_inj hn (h₀ := h2) (h₁ := h)).1 h3
    omega
theorem idx_of {l : List Int} {x : Int} (h : x ∈ l) : ∃ i : Nat, i < l.length ∧ idxFrom l x 0 = i ∧ l[i]?.getD 0 = x := by
  rcases idxFrom_spec l x _ 0 rfl with ⟨_, h2⟩ | ⟨m, _, h2, h3, h4, _⟩
  · obtain ⟨i, hi, e⟩ := List.getElem_of_mem h
    exact absurd (by rw [List.getElem?_eq_getElem hi]; exact e) (h2 i (Nat.zero_le _) hi)
  · exact ⟨m, h2, h4, h3⟩
section
variable {wi : Nat → List Int} {gt : List Int} {n : Nat}
theorem deal_iff (hnd : ∀ i, i < n → (wi i).Nodup) (hr : ∀ i, ∀ x ∈ wi i, 0 ≤ x ∧ x < n) (hfull : ∀ i, i < n → ∀ k, k < n → (k : Int) ∈ wi i) (hg : ∀ k, k < n → gt[k]?.getD 0 ∈ wi k) :
    ∀ (who : List Nat) (left : Nat) (gain : Bool), (∀ k ∈ who, k < n) → (dealL wi gt who left gain = true ↔ ∃ p : List Int, p.length = who.length ∧ p.Nodup ∧ (∀ x ∈ p, 0 ≤ x ∧ x < n ∧ left.testBit x.toNat = true) ∧ fineL wi gt who p = true ∧ (gain = true ∨ moreL wi gt who p = true)) := by
  intro who
  induction who with
  | nil =>
    intro left gain _
    constructor
    · intro h
      exact ⟨[], rfl, by simp, fun x hx => (by cases hx), rfl, .inl h⟩
    · rintro ⟨p, _, _, _, _, h | h⟩
      · exact h
      · cases p <;> cases h
  | cons k r ih =>
    intro left gain hk
    have hkn := hk k (by simp)
    have ih := fun l g => ih l g (fun j hj => hk j (by simp [hj]))
    obtain ⟨o, ho, hoe, _⟩ := idx_of (hg k hkn)
    have hpl : place wi k (gt[k]?.getD 0) = o := hoe
    rw [dealL, List.any_eq_true, hpl]
    constructor
    · rintro ⟨i, hi, h⟩
      have hi := List.mem_range.1 hi
      rw [Bool.and_eq_true] at h
      obtain ⟨h1, h2⟩ := h
      have hil : i < (wi k).length := by omega
      obtain ⟨p, p1, p2, p3, p4, p5⟩ := (ih _ _).1 h2
      have hc := hr k _ (getD_mem hil)
      have hpc : place wi k ((wi k)[i]?.getD 0) = i := idx_at (hnd k hkn) hil
      refine ⟨(wi k)[i]?.getD 0 :: p, by simp [p1], ?_, fun x hx => ?_, ?_, ?_⟩
      · rw [List.nodup_cons]
        refine ⟨fun hm => ?_, p2⟩
        have := (p3 _ hm).2.2
        rw [Nat.testBit_xor, h1, Nat.testBit_two_pow_self] at this
        cases this
      · rcases List.mem_cons.1 hx with rfl | hx
        · exact ⟨hc.1, hc.2, h1⟩
        · have h3 := p3 x hx
          refine ⟨h3.1, h3.2.1, ?_⟩
          have h4 := h3.2.2
          rw [Nat.testBit_xor] at h4
          by_cases e : x.toNat = ((wi k)[i]?.getD 0).toNat
          · rw [e] at h4 ⊢; exact h1
          · rw [Nat.testBit_two_pow_of_ne (Ne.symm e)] at h4
            simpa using h4
      · rw [fineL, hpc, hpl, decide_eq_true (by omega), p4]; rfl
      · rw [moreL, hpc, hpl]
        rcases p5 with h | h
        · rw [Bool.or_eq_true] at h
          rcases h with h | h
          · exact .inl h
          · exact .inr (by rw [h]; rfl)
        · exact .inr (by rw [h]; simp)
    · rintro ⟨p, p1, p2, p3, p4, p5⟩
      cases p with
      | nil => simp at p1
      | cons c p =>
        rw [fineL, hpl, Bool.and_eq_true] at p4
        have hc := p3 c (by simp)
        obtain ⟨i, hi, hie, hiv⟩ := idx_of (hfull k hkn c.toNat (by omega))
        rw [Int.toNat_of_nonneg hc.1] at hie hiv
        have hpc : place wi k c = i := hie
        have hle := of_decide_eq_true p4.1
        rw [hpc] at hle
        refine ⟨i, List.mem_range.2 (by omega), ?_⟩
        rw [hiv, Bool.and_eq_true]
        refine ⟨hc.2.2, (ih _ _).2 ⟨p, by simpa using p1, (List.nodup_cons.1 p2).2, fun x hx => ?_, p4.2, ?_⟩⟩
        · have h3 := p3 x (by simp [hx])
          refine ⟨h3.1, h3.2.1, ?_⟩
          have hne : c.toNat ≠ x.toNat := fun e => by
            have : c = x := by omega
            subst this
            exact (List.nodup_cons.1 p2).1 hx
          rw [Nat.testBit_xor, h3.2.2, Nat.testBit_two_pow_of_ne hne]
          rfl
        · rw [moreL, hpc, hpl, Bool.or_eq_true] at p5
          rcases p5 with h | h | h
          · exact .inl (by rw [h]; rfl)
          · exact .inl (by rw [h]; simp)
          · exact .inr h
/-- Those of a set. -/
def whoL (set n : Nat) : List Nat := (List.range n).filter fun k => set.testBit k
theorem core_same (hnd : ∀ i, i < n → (wi i).Nodup) (hr : ∀ i, ∀ x ∈ wi i, 0 ≤ x ∧ x < n) (hfull : ∀ i, i < n → ∀ k, k < n → (k : Int) ∈ wi i) (hg : ∀ k, k < n → gt[k]?.getD 0 ∈ wi k) (set : Nat) :
    dealL wi gt (whoL set n) set false = (permsL ((whoL set n).map Int.ofNat)).any fun p => fineL wi gt (whoL set n) p && moreL wi gt (whoL set n) p := by
  rw [Bool.eq_iff_iff, deal_iff hnd hr hfull hg _ _ _ (fun k hk => by unfold whoL at hk; rw [List.mem_filter] at hk; exact List.mem_range.1 hk.1), List.any_eq_true]
  have hmem : ∀ k, k ∈ whoL set n ↔ k < n ∧ set.testBit k = true := fun k => by unfold whoL; rw [List.mem_filter, List.mem_range]
  have hwn : (whoL set n).Nodup := List.nodup_range.sublist (List.filter_sublist)
  constructor
  · rintro ⟨p, p1, p2, p3, p4, p5⟩
    refine ⟨p, (perms_mem' _ p).2 (perm_of_sub p _ p2 (fun x hx => ?_) (by simp [p1])), ?_⟩
    · have := p3 x hx
      rw [List.mem_map]
      exact ⟨x.toNat, (hmem _).2 ⟨by omega, this.2.2⟩, Int.toNat_of_nonneg this.1⟩
    · rcases p5 with h | h
      · cases h
      · rw [p4, h]; rfl
  · rintro ⟨p, h1, h2⟩
    rw [Bool.and_eq_true] at h2
    have hp := (perms_mem' _ p).1 h1
    refine ⟨p, by simpa using hp.length_eq, ?_, fun x hx => ?_, h2.1, .inr h2.2⟩
    · refine hp.nodup_iff.2 ?_
      show List.Pairwise _ _
      rw [List.pairwise_map]
      exact hwn.imp (fun h e => h (by exact Int.ofNat.inj e))
    · have := hp.mem_iff.1 hx
      rw [List.mem_map] at this
      obtain ⟨k, hk, rfl⟩ := this
      have := (hmem k).1 hk
      exact ⟨by simp, by simp; omega, by simpa using this.2⟩
end
end Go.Proofs.Ytihmbfapbkddeaa
