import Derived.Test.YtodbnjainpjkcaaDD
namespace Go.Proofs.Ytodbnjainpjkcaa
open Go.RowKit
/-- What is true whenever the right asks. -/
structure RInv (lL lR : List Ag) (ws asked : List Int) : Prop where
  len : ws.length = lL.length
  lenA : asked.length = lR.length
  le : ∀ r, r < lR.length → 0 ≤ atL asked r ∧ atL asked r ≤ (agAt lR r).likes.length
  vals : ∀ l, l < lL.length → atL ws l = -1 ∨ ∃ r : Nat, r < lR.length ∧ atL ws l = r
  cur : ∀ l r : Nat, l < lL.length → atL ws l = r → 0 ≤ rkL lL l r ∧ 0 ≤ rkR lR r l ∧ rkR lR r l < atL asked r
  cnt : ∀ r, r < lR.length → (ws.count (r : Int) : Int) ≤ (agAt lR r).room
  ref : ∀ l r : Nat, l < lL.length → r < lR.length → 0 ≤ rkR lR r l → rkR lR r l < atL asked r → atL ws l ≠ r → rkL lL l r < 0 ∨ gr lL l (atL ws l) < gr lL l r
  ach : ∀ l r : Nat, l < lL.length → r < lR.length → 0 ≤ rkR lR r l → rkR lR r l < atL asked r → atL ws l ≠ r → ∀ m, Stab lL lR m → atL m l ≠ r
theorem rkR_lt (lR : List Ag) (r l : Nat) : rkR lR r l < (agAt lR r).likes.length := (idx_bounds _ _).2
/-- One that l would rather have than what it has in m is full there, with those that it has here. -/
theorem RInv.full {lL lR : List Ag} {ws asked m : List Int} (I : RInv lL lR ws asked) (hm : Stab lL lR m) {l s : Nat} (hl : l < lL.length) (hs : s < lR.length) (h1 : 0 ≤ rkL lL l s) (h2 : 0 ≤ rkR lR s l) (h3 : gr lL l s < gr lL l (atL m l)) (h4 : rkR lR s l ≤ atL asked s) :
    (agAt lR s).room ≤ (m.count (s : Int) : Int) ∧ (∀ j, j < lL.length → atL m j = s → atL ws j = s) ∧ atL m l ≠ s := by
  have hne : atL m l ≠ s := fun e => by rw [e] at h3; omega
  have hb := hm.calm l s hl hs
  refine ⟨?_, fun j hj hjs => ?_, hne⟩
  · refine Int.not_lt.1 fun h => hb ⟨h1, h2, h3, Or.inl h⟩
  · refine Classical.byContradiction fun hw => ?_
    have hk := (hm.like j s hj hjs).2
    have hle : rkR lR s j ≤ rkR lR s l := Int.not_lt.1 fun h => hb ⟨h1, h2, h3, Or.inr ⟨j, by rw [hm.len]; exact hj, hjs, h⟩⟩
    have hne2 : rkR lR s j ≠ rkR lR s l := fun e => hne (by rw [← rkR_inj hk e]; exact hjs)
    exact I.ach j s hj hs hk (by omega) hw m hm hjs
theorem count_sub {lL : List Ag} {ws m : List Int} {s : Nat} (hw : ws.length = lL.length) (hm : m.length = lL.length) (h : ∀ j, j < lL.length → atL m j = s → atL ws j = s) : (m.count (s : Int) : Int) ≤ (ws.count (s : Int) : Int) ∧ ∀ l, l < lL.length → atL ws l = s → atL m l ≠ s → (m.count (s : Int) : Int) < (ws.count (s : Int) : Int) := by
  have hsub : ∀ j, j < lL.length → isAt m (s : Int) j = true → isAt ws (s : Int) j = true := fun j hj hp => decide_eq_true (h j hj (of_decide_eq_true hp))
  rw [count_cP, count_cP, hw, hm]
  refine ⟨by have := cP_mono lL.length hsub; omega, fun l hl h1 h2 => ?_⟩
  have := cP_lt hl (decide_eq_false h2 : isAt m (s : Int) l = false) (decide_eq_true h1) hsub
  omega
theorem RInv.start (lL lR : List Ag) (hM : mayE lL lR = 0) : RInv lL lR (List.replicate lL.length (-1)) (List.replicate lR.length 0) where
  len := by simp
  lenA := by simp
  le := fun l hl => by rw [zero_at]; omega
  vals := fun l hl => Or.inl (alone_at _ _ hl)
  cur := fun l r hl h => by rw [alone_at _ _ hl] at h; omega
  cnt := fun r hr => by
    have := room_right hM hr
    rw [List.count_replicate]
    simp
    omega
  ref := fun l r hl hr h1 h2 => by rw [zero_at] at h2; omega
  ach := fun l r hl hr h1 h2 => by rw [zero_at] at h2; omega
theorem gr_le {lL lR : List Ag} {ws asked : List Int} (I : RInv lL lR ws asked) {l : Nat} (hl : l < lL.length) : gr lL l (atL ws l) ≤ (agAt lL l).likes.length := by
  rcases I.vals l hl with h | ⟨r, _, h⟩
  · rw [h, gr_alone]; exact Int.le_refl _
  · rw [h, gr_in (I.cur l r hl h).1]; exact Int.le_of_lt (rk_lt lL l r)
theorem gr_out {lL : List Ag} {l r : Nat} (h : rkL lL l r < 0) : gr lL l r = (agAt lL l).likes.length + 1 := by
  unfold gr griefI
  rw [if_neg (by omega), if_neg (by unfold rkL at h; omega)]
theorem RInv.step {lL lR : List Ag} {ws asked : List Int} (hM : mayE lL lR = 0) (I : RInv lL lR ws asked) {r0 : Nat} (hr0 : r0 < lR.length) (hE : Eager lR ws asked r0) :
    RInv lL lR (rstepW lL lR ws asked r0) (stepA asked r0) := by
  obtain ⟨hmore, hroom⟩ := hE
  have hra : r0 < asked.length := by rw [I.lenA]; exact hr0
  obtain ⟨t, ht⟩ : ∃ t : Nat, atL asked r0 = t := ⟨(atL asked r0).toNat, by have := (I.le r0 hr0).1; omega⟩
  have htl : t < (agAt lR r0).likes.length := by omega
  have hrng := likes_right hM hr0 htl
  obtain ⟨l0, hl0⟩ : ∃ l : Nat, atL (agAt lR r0).likes t = l := ⟨(atL (agAt lR r0).likes t).toNat, by omega⟩
  have hl0L : l0 < lL.length := by omega
  have hwl : l0 < ws.length := by rw [I.len]; exact hl0L
  have hask : raskL lR asked r0 = l0 := by unfold raskL; rw [ht, Int.toNat_natCast]; exact hl0
  have hrk : rkR lR r0 l0 = t := by unfold rkR; rw [← hl0]; exact likes_idx (may_likes_right hM hr0) htl
  have hA : ∀ j, atL (stepA asked r0) j = if j = r0 then (t : Int) + 1 else atL asked j := fun j => by unfold stepA; rw [set_at asked r0 _ j hra, ht]
  have hne0 : atL ws l0 ≠ r0 := fun e => by have := (I.cur l0 r0 hl0L e).2.2; omega
  have hle : ∀ r, r < lR.length → 0 ≤ atL (stepA asked r0) r ∧ atL (stepA asked r0) r ≤ (agAt lR r).likes.length := fun r hr => by
    rw [hA]
    split
    · rename_i e; subst e; omega
    · exact I.le r hr
  have hlenA : (stepA asked r0).length = lR.length := by unfold stepA; rw [List.length_set]; exact I.lenA
  have hold : ∀ l r : Nat, 0 ≤ rkR lR r l → rkR lR r l < atL (stepA asked r0) r → ¬ (r = r0 ∧ l = l0) → rkR lR r l < atL asked r := fun l r h1 h2 h3 => by
    rw [hA] at h2
    by_cases e : r = r0
    · subst e
      rw [if_pos rfl] at h2
      rw [ht]
      have : rkR lR r l ≠ rkR lR r l0 := fun e => h3 ⟨rfl, rkR_inj h1 e⟩
      omega
    · rw [if_neg e] at h2; exact h2
  have hup : ∀ r, atL asked r ≤ atL (stepA asked r0) r := fun r => by
    rw [hA]
    split
    · rename_i e; subst e; omega
    · exact Int.le_refl _
  unfold rstepW
  rw [hask, Int.toNat_natCast]
  cases hq : ratherB (agAt lL l0).likes r0 (atL ws l0) with
  | true =>
    rw [if_pos rfl]
    have hgt : gr lL l0 r0 < gr lL l0 (atL ws l0) := of_decide_eq_true hq
    have hlk : 0 ≤ rkL lL l0 r0 := by
      refine Int.not_lt.1 fun h => ?_
      have := gr_out h
      have := gr_le I hl0L
      omega
    have hW : ∀ j, atL (ws.set l0 (r0 : Int)) j = if j = l0 then (r0 : Int) else atL ws j := fun j => set_at ws l0 r0 j hwl
    have hc0 := count_set_yes ws l0 (r0 : Int) hwl hne0
    refine ⟨by rw [List.length_set]; exact I.len, hlenA, hle, fun l hl => ?_, fun l r hl h => ?_, fun r hr => ?_, fun l r hl hr h1 h2 h3 => ?_, fun l r hl hr h1 h2 h3 m hm => ?_⟩
    · rw [hW]
      split
      · exact Or.inr ⟨r0, hr0, rfl⟩
      · exact I.vals l hl
    · rw [hW] at h
      by_cases e : l = l0
      · subst e
        rw [if_pos rfl] at h
        obtain rfl : r0 = r := by omega
        rw [hA, if_pos rfl, hrk]
        exact ⟨hlk, by omega, by omega⟩
      · rw [if_neg e] at h
        have := I.cur l r hl h
        exact ⟨this.1, this.2.1, by have := hup r; omega⟩
    · by_cases e : r = r0
      · subst e; omega
      · by_cases e2 : atL ws l0 = r
        · have := count_set_off ws l0 (r0 : Int) (r : Int) hwl e2 (by omega)
          have := I.cnt r hr
          omega
        · rw [count_set_no ws l0 (r0 : Int) (r : Int) hwl e2 (by omega)]
          exact I.cnt r hr
    · rw [hW] at h3 ⊢
      by_cases e : l = l0
      · subst e
        rw [if_pos rfl] at h3 ⊢
        have e0 : r ≠ r0 := fun e => h3 (by rw [e])
        by_cases e2 : atL ws l = r
        · right; rw [← e2]; exact hgt
        · rcases I.ref l r hl hr h1 (hold l r h1 h2 (fun h => e0 h.1)) e2 with h | h
          · exact Or.inl h
          · exact Or.inr (by omega)
      · rw [if_neg e] at h3 ⊢
        exact I.ref l r hl hr h1 (hold l r h1 h2 (fun h => e h.2)) h3
    · rw [hW] at h3
      by_cases e : l = l0
      · subst e
        rw [if_pos rfl] at h3
        have e0 : r ≠ r0 := fun e => h3 (by rw [e])
        by_cases e2 : atL ws l = r
        · intro hml
          have hf := I.full hm hl hr0 hlk (by omega) (by rw [hml, ← e2]; exact hgt) (by omega)
          have := (count_sub I.len hm.len hf.2.1).1
          omega
        · exact I.ach l r hl hr h1 (hold l r h1 h2 (fun h => e0 h.1)) e2 m hm
      · rw [if_neg e] at h3
        exact I.ach l r hl hr h1 (hold l r h1 h2 (fun h => e h.2)) h3 m hm
  | false =>
    rw [if_neg (by decide)]
    have hngt : ¬ gr lL l0 r0 < gr lL l0 (atL ws l0) := of_decide_eq_false hq
    have hstr : 0 ≤ rkL lL l0 r0 → gr lL l0 (atL ws l0) < gr lL l0 r0 := fun hk => by
      rw [gr_in hk] at hngt ⊢
      have hb := rk_lt lL l0 r0
      rcases I.vals l0 hl0L with h | ⟨s, _, h⟩
      · rw [h, gr_alone] at hngt; omega
      · have hc := (I.cur l0 s hl0L h).1
        rw [h, gr_in hc] at hngt ⊢
        have : rkL lL l0 s ≠ rkL lL l0 r0 := fun e => hne0 (by rw [h]; exact rkL_inj hc e)
        omega
    refine ⟨I.len, hlenA, hle, I.vals, fun l r hl h => ?_, I.cnt, fun l r hl hr h1 h2 h3 => ?_, fun l r hl hr h1 h2 h3 m hm => ?_⟩
    · have := I.cur l r hl h
      exact ⟨this.1, this.2.1, by have := hup r; omega⟩
    · by_cases e : r = r0 ∧ l = l0
      · obtain ⟨rfl, rfl⟩ := e
        rcases Int.lt_or_le (rkL lL l r) 0 with h | h
        · exact Or.inl h
        · exact Or.inr (hstr h)
      · exact I.ref l r hl hr h1 (hold l r h1 h2 e) h3
    · by_cases e : r = r0 ∧ l = l0
      · obtain ⟨rfl, rfl⟩ := e
        intro hml
        have hk := (hm.like l r hl hml).1
        have hs := hstr hk
        rw [gr_in hk] at hs
        have hb := rk_lt lL l r
        rcases I.vals l hl with h | ⟨s, hsR, h⟩
        · rw [h, gr_alone] at hs; omega
        · have hc := I.cur l s hl h
          have hf := I.full hm hl hsR hc.1 hc.2.1 (by rw [hml, gr_in hk, ← h]; exact hs) (by omega)
          have := (count_sub I.len hm.len hf.2.1).2 l hl h hf.2.2
          have := I.cnt s hsR
          omega
      · exact I.ach l r hl hr h1 (hold l r h1 h2 e) h3 m hm
theorem RAsks.inv {lL lR : List Ag} {ws asked : List Int} (hM : mayE lL lR = 0) (h : RAsks lL lR ws asked) : RInv lL lR ws asked :=
  h (RInv lL lR) (RInv.start lL lR hM) (fun _ _ _ hI h1 h2 => hI.step hM h1 h2)
/-- WHAT THE RIGHT GETS BY ASKING IS STABLE. -/
theorem RInv.stab {lL lR : List Ag} {ws asked : List Int} (I : RInv lL lR ws asked) (hF : ∀ r, r < lR.length → ¬ Eager lR ws asked r) : Stab lL lR ws where
  len := I.len
  rng := fun l hl => by
    rcases I.vals l hl with h | ⟨r, hr, h⟩ <;> rw [h] <;> omega
  cnt := I.cnt
  like := fun l r hl h => ⟨(I.cur l r hl h).1, (I.cur l r hl h).2.1⟩
  calm := fun l r hl hr ⟨b1, b2, b3, b4⟩ => by
    have hne : atL ws l ≠ r := fun e => by rw [e] at b3; omega
    rcases Int.lt_or_le (rkR lR r l) (atL asked r) with h | h
    · rcases I.ref l r hl hr b2 h hne with h' | h' <;> omega
    · have hlt := rkR_lt lR r l
      rcases b4 with b | ⟨j, hj, hjr, b⟩
      · exact hF r hr ⟨by omega, b⟩
      · have := (I.cur j r (by rw [← I.len]; exact hj) hjr).2.2
        omega
/-- .. AND NOTHING THAT IS STABLE IS WORSE FOR ANY OF THE LEFT. -/
theorem RInv.worst {lL lR : List Ag} {ws asked : List Int} (I : RInv lL lR ws asked) {m : List Int} (hm : Stab lL lR m) {l : Nat} (hl : l < lL.length) : gr lL l (atL m l) ≤ gr lL l (atL ws l) := by
  refine Int.not_lt.1 fun h => ?_
  have hml : gr lL l (atL m l) ≤ (agAt lL l).likes.length := by
    rcases Int.lt_or_eq_of_le (hm.rng l hl).1 with p | q
    · obtain ⟨s, hs⟩ : ∃ s : Nat, atL m l = s := ⟨(atL m l).toNat, by omega⟩
      rw [hs, gr_in (hm.like l s hl hs).1]; exact Int.le_of_lt (rk_lt lL l s)
    · rw [← q, gr_alone]; exact Int.le_refl _
  rcases I.vals l hl with h' | ⟨s, hsR, h'⟩
  · rw [h', gr_alone] at h; omega
  · have hc := I.cur l s hl h'
    have hf := I.full hm hl hsR hc.1 hc.2.1 (by rw [← h']; exact h) (by omega)
    have := (count_sub I.len hm.len hf.2.1).2 l hl h' hf.2.2
    have := I.cnt s hsR
    omega
end Go.Proofs.Ytodbnjainpjkcaa
