import Derived.Test.YtodbnjainpjkcaaCC
namespace Go.Proofs.Ytodbnjainpjkcaa
open Go.RowKit
/-- How many below n. -/
def cP (P : Nat → Bool) : Nat → Nat
  | 0 => 0
  | k + 1 => cP P k + if P k = true then 1 else 0
theorem cP_le (P : Nat → Bool) : ∀ n, cP P n ≤ n := by
  intro n
  induction n with
  | zero => exact Nat.le_refl _
  | succ n ih => rw [cP]; split <;> omega
theorem cP_mono {P Q : Nat → Bool} : ∀ n, (∀ j, j < n → P j = true → Q j = true) → cP P n ≤ cP Q n := by
  intro n
  induction n with
  | zero => intro _; exact Nat.le_refl _
  | succ n ih =>
    intro h
    rw [cP, cP]
    have := ih (fun j hj => h j (by omega))
    by_cases hp : P n = true
    · rw [if_pos hp, if_pos (h n (by omega) hp)]; omega
    · rw [if_neg hp]; omega
theorem cP_ext {P Q : Nat → Bool} (n : Nat) (h : ∀ j, j < n → P j = Q j) : cP P n = cP Q n :=
  Nat.le_antisymm (cP_mono n (fun j hj hp => by rw [← h j hj]; exact hp)) (cP_mono n (fun j hj hp => by rw [h j hj]; exact hp))
theorem cP_one {P Q : Nat → Bool} {m : Nat} : ∀ n, m < n → P m = false → Q m = true → (∀ j, j < n → j ≠ m → P j = Q j) → cP P n + 1 = cP Q n := by
  intro n
  induction n with
  | zero => intro h; omega
  | succ n ih =>
    intro hm hp hq h
    rw [cP, cP]
    by_cases hk : m = n
    · subst hk
      rw [cP_ext m (fun j hj => h j (by omega) (by omega)), if_neg (by rw [hp]; decide), if_pos hq]
    · have := ih (by omega) hp hq (fun j hj hne => h j (by omega) hne)
      rw [h n (by omega) (fun e => hk e.symm)]
      omega
theorem cP_lt {P Q : Nat → Bool} {m n : Nat} (hm : m < n) (hp : P m = false) (hq : Q m = true) (h : ∀ j, j < n → P j = true → Q j = true) : cP P n < cP Q n := by
  have h1 : cP (fun j => if j = m then false else Q j) n + 1 = cP Q n := cP_one n hm (by simp) hq (fun j _ hne => by simp [hne])
  have h2 : cP P n ≤ cP (fun j => if j = m then false else Q j) n := cP_mono n (fun j hj hpj => by
    by_cases e : j = m
    · subst e; rw [hp] at hpj; cases hpj
    · simp [e, h j hj hpj])
  omega
theorem cP_out {P Q : Nat → Bool} {n : Nat} (h : cP Q n < cP P n) : ∃ j, j < n ∧ P j = true ∧ Q j = false := by
  refine Classical.byContradiction fun hn => ?_
  have := cP_mono (P := P) (Q := Q) n (fun j hj hp => by
    cases hq : Q j with
    | true => rfl
    | false => exact absurd ⟨j, hj, hp, hq⟩ hn)
  omega
theorem cP_pos {P : Nat → Bool} {n m : Nat} (hm : m < n) (h : P m = true) : 0 < cP P n := by
  have := cP_lt (P := fun _ => false) (Q := P) hm rfl h (fun j _ hj => by cases hj)
  omega
def isAt (ws : List Int) (r : Int) (j : Nat) : Bool := decide (atL ws j = r)
theorem cnt_cP (ws : List Int) (r : Int) : ∀ k, k ≤ ws.length → cnt ws r k = cP (isAt ws r) k := by
  intro k
  induction k with
  | zero => intro _; rw [cnt_zero]; rfl
  | succ k ih =>
    intro h
    rw [cP]
    by_cases e : atL ws k = r
    · rw [cnt_yes (by omega) e, ih (by omega), if_pos (by unfold isAt; exact decide_eq_true e)]
    · rw [cnt_no (by omega) e, ih (by omega), if_neg (by unfold isAt; rw [decide_eq_false e]; decide)]
      rfl
theorem count_cP (ws : List Int) (r : Int) : ws.count r = cP (isAt ws r) ws.length := by rw [← cnt_len, cnt_cP ws r _ (Nat.le_refl _)]
/-- Nobody is named twice: so the place of the k-th is k. -/
theorem likes_idx {l : List Int} {o : Int} (h : likesFrom l o 0 = 0) {k : Nat} (hk : k < l.length) : idxFrom l (atL l k) 0 = k := by
  have hdis : ∀ d k, l.length - k = d → likesFrom l o k = 0 → ∀ i, k ≤ i → i < l.length → ¬ 0 ≤ idxFrom (l.take i) (l[i]?.getD 0) 0 := by
    intro d
    induction d with
    | zero => intro k hk _ i h1 h2; omega
    | succ d ih =>
      intro k hk h i h1 h2
      rw [likesFrom_step (by omega)] at h
      by_cases c1 : l[k]?.getD 0 < 0 ∨ o ≤ l[k]?.getD 0
      · rw [if_pos c1] at h; omega
      rw [if_neg c1] at h
      by_cases c2 : 0 ≤ idxFrom (l.take k) (l[k]?.getD 0) 0
      · rw [if_pos c2] at h; omega
      rw [if_neg c2] at h
      by_cases hi : i = k
      · subst hi; exact c2
      · exact ih (k + 1) (by omega) h i (by omega) h2
  have h1 := hdis _ 0 rfl h k (Nat.zero_le _) hk
  rw [idx_take l k hk] at h1
  rcases idxFrom_spec l (l[k]?.getD 0) _ 0 rfl with ⟨_, g2⟩ | ⟨m, _, g2, g3, g4, g5⟩
  · exact absurd rfl (g2 k (Nat.zero_le _) hk)
  · unfold atL
    rw [g4] at h1 ⊢
    rcases Nat.lt_trichotomy m k with h' | h' | h'
    · omega
    · rw [h']
    · exact absurd rfl (g5 k (Nat.zero_le _) h')
/-- Who likes it has it at a place. -/
theorem idx_place {l : List Int} {x : Int} (h : 0 ≤ idxFrom l x 0) : ∃ k : Nat, k < l.length ∧ idxFrom l x 0 = k ∧ atL l k = x := by
  rcases idxFrom_spec l x _ 0 rfl with ⟨h1, _⟩ | ⟨m, _, h2, h3, h4, _⟩
  · omega
  · exact ⟨m, h2, h4, h3⟩
theorem may_likes_left {lL lR : List Ag} (h : mayE lL lR = 0) {l : Nat} (hl : l < lL.length) : likesFrom (agAt lL l).likes lR.length 0 = 0 := by
  have h' := h
  unfold mayE at h'
  rw [if_neg (by have := may_six h; omega)] at h'
  have h2 := may_likes _ 0 rfl h' l (Nat.zero_le _) (by rw [List.length_append]; omega)
  rwa [agAt_left hl, if_pos hl] at h2
theorem may_likes_right {lL lR : List Ag} (h : mayE lL lR = 0) {r : Nat} (hr : r < lR.length) : likesFrom (agAt lR r).likes lL.length 0 = 0 := by
  have h' := h
  unfold mayE at h'
  rw [if_neg (by have := may_six h; omega)] at h'
  have h2 := may_likes _ 0 rfl h' (lL.length + r) (Nat.zero_le _) (by rw [List.length_append]; omega)
  rwa [agAt_right, if_neg (by omega)] at h2
/-- The place of r in l's likes; of l in r's. -/
def rkL (lL : List Ag) (l : Nat) (r : Int) : Int := idxFrom (agAt lL l).likes r 0
def rkR (lR : List Ag) (r : Nat) (l : Nat) : Int := idxFrom (agAt lR r).likes l 0
def gr (lL : List Ag) (l : Nat) (r : Int) : Int := griefI (agAt lL l).likes r
/-- These two would rather go with each other. -/
def Blocks (lL lR : List Ag) (ws : List Int) (l r : Nat) : Prop :=
  0 ≤ rkL lL l r ∧ 0 ≤ rkR lR r l ∧ gr lL l r < gr lL l (atL ws l) ∧ ((ws.count (r : Int) : Int) < (agAt lR r).room ∨ ∃ j, j < ws.length ∧ atL ws j = r ∧ rkR lR r l < rkR lR r j)
structure Stab (lL lR : List Ag) (ws : List Int) : Prop where
  len : ws.length = lL.length
  rng : ∀ l, l < lL.length → -1 ≤ atL ws l ∧ atL ws l < lR.length
  cnt : ∀ r, r < lR.length → (ws.count (r : Int) : Int) ≤ (agAt lR r).room
  like : ∀ l r : Nat, l < lL.length → atL ws l = r → 0 ≤ rkL lL l r ∧ 0 ≤ rkR lR r l
  calm : ∀ l r : Nat, l < lL.length → r < lR.length → ¬ Blocks lL lR ws l r
theorem gr_in {lL : List Ag} {l : Nat} {r : Nat} (h : 0 ≤ rkL lL l r) : gr lL l r = rkL lL l r := grief_in (by omega) h
theorem gr_alone (lL : List Ag) (l : Nat) : gr lL l (-1) = (agAt lL l).likes.length := by unfold gr griefI; rw [if_pos rfl]
theorem rk_lt (lL : List Ag) (l : Nat) (r : Int) : rkL lL l r < (agAt lL l).likes.length := (idx_bounds _ _).2
theorem count_set_yes (ws : List Int) (l : Nat) (r : Int) (hl : l < ws.length) (h : atL ws l ≠ r) : (ws.set l r).count r = ws.count r + 1 := by
  rw [count_cP, count_cP, List.length_set]
  refine (cP_one ws.length hl ?_ ?_ fun j hj hne => ?_).symm
  · unfold isAt; exact decide_eq_false h
  · unfold isAt; rw [set_at ws l r l hl, if_pos rfl]; exact decide_eq_true rfl
  · unfold isAt; rw [set_at ws l r j hl, if_neg hne]
theorem count_set_no (ws : List Int) (l : Nat) (x r : Int) (hl : l < ws.length) (h : atL ws l ≠ r) (hx : x ≠ r) : (ws.set l x).count r = ws.count r := by
  rw [count_cP, count_cP, List.length_set]
  refine cP_ext ws.length fun j hj => ?_
  unfold isAt
  rw [set_at ws l x j hl]
  by_cases e : j = l
  · subst e; rw [if_pos rfl, decide_eq_false hx, decide_eq_false h]
  · rw [if_neg e]
theorem count_set_off (ws : List Int) (l : Nat) (x r : Int) (hl : l < ws.length) (h : atL ws l = r) (hx : x ≠ r) : (ws.set l x).count r + 1 = ws.count r := by
  rw [count_cP, count_cP, List.length_set]
  refine cP_one ws.length hl ?_ ?_ fun j hj hne => ?_
  · unfold isAt; rw [set_at ws l x l hl, if_pos rfl]; exact decide_eq_false hx
  · unfold isAt; exact decide_eq_true h
  · unfold isAt; rw [set_at ws l x j hl, if_neg hne]
/-- What is true whenever the left asks. -/
structure LInv (lL lR : List Ag) (ws asked : List Int) : Prop where
  len : ws.length = lL.length
  lenA : asked.length = lL.length
  le : ∀ l, l < lL.length → 0 ≤ atL asked l ∧ atL asked l ≤ (agAt lL l).likes.length
  vals : ∀ l, l < lL.length → atL ws l = -1 ∨ ∃ r : Nat, r < lR.length ∧ atL ws l = r
  cur : ∀ l r : Nat, l < lL.length → atL ws l = r → atL asked l = rkL lL l r + 1 ∧ 0 ≤ rkL lL l r ∧ 0 ≤ rkR lR r l
  cnt : ∀ r, r < lR.length → (ws.count (r : Int) : Int) ≤ (agAt lR r).room
  ref : ∀ l r : Nat, l < lL.length → r < lR.length → 0 ≤ rkL lL l r → rkL lL l r < atL asked l → atL ws l ≠ r → rkR lR r l < 0 ∨ ((ws.count (r : Int) : Int) = (agAt lR r).room ∧ ∀ j, j < lL.length → atL ws j = r → rkR lR r j < rkR lR r l)
  ach : ∀ l r : Nat, l < lL.length → r < lR.length → 0 ≤ rkL lL l r → rkL lL l r < atL asked l → atL ws l ≠ r → ∀ m, Stab lL lR m → atL m l ≠ r
theorem rkL_inj {lL : List Ag} {l : Nat} {x y : Int} (hx : 0 ≤ rkL lL l x) (h : rkL lL l x = rkL lL l y) : x = y := idx_inj _ _ _ hx h
theorem rkR_inj {lR : List Ag} {r x y : Nat} (hx : 0 ≤ rkR lR r x) (h : rkR lR r x = rkR lR r y) : x = y := by
  have := idx_inj (agAt lR r).likes x y hx h
  omega
theorem LInv.start (lL lR : List Ag) (hM : mayE lL lR = 0) : LInv lL lR (List.replicate lL.length (-1)) (List.replicate lL.length 0) where
  len := by simp
  lenA := by simp
  le := fun l hl => by rw [zero_at]; omega
  vals := fun l hl => Or.inl (alone_at _ _ hl)
  cur := fun l r hl h => by rw [alone_at _ _ hl] at h; omega
  cnt := fun r hr => by
    have := room_right hM hr
    rw [List.count_replicate]
    simp
    omega
  ref := fun l r hl hr h1 h2 => by rw [zero_at] at h2; omega
  ach := fun l r hl hr h1 h2 => by rw [zero_at] at h2; omega
theorem LInv.step {lL lR : List Ag} {ws asked : List Int} (hM : mayE lL lR = 0) (I : LInv lL lR ws asked) {who : Nat} (hw : who < lL.length) (hal : atL ws who = -1) (hmore : atL asked who < (agAt lL who).likes.length) :
    LInv lL lR (stepW lL lR ws asked who) (stepA asked who) := by
  have hwl : who < ws.length := by rw [I.len]; exact hw
  have hwa : who < asked.length := by rw [I.lenA]; exact hw
  obtain ⟨t, ht⟩ : ∃ t : Nat, atL asked who = t := ⟨(atL asked who).toNat, by have := (I.le who hw).1; omega⟩
  have htl : t < (agAt lL who).likes.length := by omega
  have hrng := likes_left hM hw htl
  obtain ⟨r0, hr0⟩ : ∃ r : Nat, atL (agAt lL who).likes t = r := ⟨(atL (agAt lL who).likes t).toNat, by omega⟩
  have hr0R : r0 < lR.length := by omega
  have hask : askR lL asked who = r0 := by unfold askR; rw [ht, Int.toNat_natCast]; exact hr0
  have hrk : rkL lL who r0 = t := by unfold rkL; rw [← hr0]; exact likes_idx (may_likes_left hM hw) htl
  have hA : ∀ j, atL (stepA asked who) j = if j = who then (t : Int) + 1 else atL asked j := fun j => by unfold stepA; rw [set_at asked who _ j hwa, ht]
  have hroom := room_right hM hr0R
  unfold stepW
  rw [hask, Int.toNat_natCast]
  have hle : ∀ l, l < lL.length → 0 ≤ atL (stepA asked who) l ∧ atL (stepA asked who) l ≤ (agAt lL l).likes.length := fun l hl => by
    rw [hA]
    split
    · rename_i e; subst e; omega
    · exact I.le l hl
  have hlenA : (stepA asked who).length = lL.length := by unfold stepA; rw [List.length_set]; exact I.lenA
  -- one that was asked ahead of r0, or is r0
  have hold : ∀ r : Nat, 0 ≤ rkL lL who r → rkL lL who r < (t : Int) + 1 → r ≠ r0 → rkL lL who r < atL asked who := fun r h1 h2 h3 => by
    rw [ht]
    have : rkL lL who r ≠ rkL lL who r0 := fun e => h3 (by have := rkL_inj h1 e; omega)
    omega
  unfold takeW
  by_cases c1 : idxFrom (agAt lR r0).likes who 0 < 0
  · rw [if_pos c1]
    refine ⟨I.len, hlenA, hle, I.vals, fun l r hl h => ?_, I.cnt, fun l r hl hr h1 h2 h3 => ?_, fun l r hl hr h1 h2 h3 m hm => ?_⟩
    · have hne : l ≠ who := fun e => by subst e; omega
      rw [hA, if_neg hne]
      exact I.cur l r hl h
    · rw [hA] at h2
      by_cases e : l = who
      · subst e
        rw [if_pos rfl] at h2
        by_cases e0 : r = r0
        · subst e0; exact Or.inl c1
        · exact I.ref l r hl hr h1 (hold r h1 h2 e0) h3
      · rw [if_neg e] at h2
        exact I.ref l r hl hr h1 h2 h3
    · rw [hA] at h2
      by_cases e : l = who
      · subst e
        rw [if_pos rfl] at h2
        by_cases e0 : r = r0
        · subst e0
          intro hh
          have := (hm.like l r hl hh).2
          unfold rkR at this
          omega
        · exact I.ach l r hl hr h1 (hold r h1 h2 e0) h3 m hm
      · rw [if_neg e] at h2
        exact I.ach l r hl hr h1 h2 h3 m hm
  rw [if_neg c1]
  have hrkR : 0 ≤ rkR lR r0 who := by unfold rkR; omega
  have hal0 : atL ws who ≠ (r0 : Int) := by omega
  have hc0 := count_set_yes ws who (r0 : Int) hwl hal0
  have hcr : ∀ r : Nat, r ≠ r0 → (ws.set who (r0 : Int)).count (r : Int) = ws.count (r : Int) := fun r hne => count_set_no ws who r0 r hwl (by omega) (by omega)
  have hW : ∀ j, atL (ws.set who (r0 : Int)) j = if j = who then (r0 : Int) else atL ws j := fun j => set_at ws who r0 j hwl
  by_cases c2 : ((ws.set who (r0 : Int)).count (r0 : Int) : Int) ≤ (agAt lR r0).room
  · rw [if_pos c2]
    refine ⟨by rw [List.length_set]; exact I.len, hlenA, hle, fun l hl => ?_, fun l r hl h => ?_, fun r hr => ?_, fun l r hl hr h1 h2 h3 => ?_, fun l r hl hr h1 h2 h3 m hm => ?_⟩
    · rw [hW]
      split
      · exact Or.inr ⟨r0, hr0R, rfl⟩
      · exact I.vals l hl
    · rw [hW] at h
      by_cases e : l = who
      · subst e
        rw [if_pos rfl] at h
        obtain rfl : r0 = r := by omega
        rw [hA, if_pos rfl, hrk]
        exact ⟨rfl, by omega, hrkR⟩
      · rw [if_neg e] at h
        rw [hA, if_neg e]
        exact I.cur l r hl h
    · by_cases e : r = r0
      · subst e; exact c2
      · rw [hcr r e]; exact I.cnt r hr
    · rw [hW] at h3
      rw [hA] at h2
      by_cases e : l = who
      · subst e
        rw [if_pos rfl] at h2 h3
        have e0 : r ≠ r0 := fun e => h3 (by rw [e])
        rcases I.ref l r hl hr h1 (hold r h1 h2 e0) (by omega) with h | ⟨h, h'⟩
        · exact Or.inl h
        · refine Or.inr ⟨by rw [hcr r e0]; exact h, fun j hj hjr => ?_⟩
          rw [hW] at hjr
          by_cases ej : j = l
          · rw [if_pos ej] at hjr; exact absurd hjr h3
          · rw [if_neg ej] at hjr; exact h' j hj hjr
      · rw [if_neg e] at h2 h3
        rcases I.ref l r hl hr h1 h2 h3 with h | ⟨h, h'⟩
        · exact Or.inl h
        · by_cases e0 : r = r0
          · subst e0; omega
          · refine Or.inr ⟨by rw [hcr r e0]; exact h, fun j hj hjr => ?_⟩
            rw [hW] at hjr
            by_cases ej : j = who
            · rw [if_pos ej] at hjr; exact absurd hjr (by omega)
            · rw [if_neg ej] at hjr; exact h' j hj hjr
    · rw [hW] at h3
      rw [hA] at h2
      by_cases e : l = who
      · subst e
        rw [if_pos rfl] at h2 h3
        have e0 : r ≠ r0 := fun e => h3 (by rw [e])
        exact I.ach l r hl hr h1 (hold r h1 h2 e0) (by omega) m hm
      · rw [if_neg e] at h2 h3
        exact I.ach l r hl hr h1 h2 h3 m hm
  · rw [if_neg c2]
    have hfull : (ws.count (r0 : Int) : Int) = (agAt lR r0).room := by have := I.cnt r0 hr0R; omega
    have hlen1 : (ws.set who (r0 : Int)).length = ws.length := List.length_set
    rcases worst_spec (agAt lR r0).likes (ws.set who (r0 : Int)) (r0 : Int) ws.length with ⟨_, g2⟩ | ⟨m, g1, g2, g3, g4⟩
    · exact absurd (by have := hW who; unfold atL at this; rw [if_pos rfl] at this; exact this) (g2 who hwl)
    rw [g2, Int.toNat_natCast]
    have hmL : m < lL.length := by rw [← I.len]; exact g1
    have g3' : atL (ws.set who (r0 : Int)) m = r0 := g3
    have hWm : ∀ j, atL ((ws.set who (r0 : Int)).set m (-1)) j = if j = m then -1 else if j = who then (r0 : Int) else atL ws j := fun j => by rw [set_at _ m _ j (by rw [hlen1]; exact g1), hW]
    have hin : ∀ j, j < lL.length → atL (ws.set who (r0 : Int)) j = r0 → 0 ≤ rkR lR r0 j := fun j hj h => by
      rw [hW] at h
      by_cases e : j = who
      · subst e; exact hrkR
      · rw [if_neg e] at h; exact (I.cur j r0 hj h).2.2
    have hbest : ∀ j, j < lL.length → j ≠ m → atL (ws.set who (r0 : Int)) j = r0 → rkR lR r0 j < rkR lR r0 m := fun j hj hne h => by
      have h1 := g4 j (by rw [I.len]; exact hj) h
      have h2 : rkR lR r0 j ≠ rkR lR r0 m := fun e => hne (rkR_inj (hin j hj h) e)
      unfold rkR at h2 ⊢
      omega
    have hcm : (((ws.set who (r0 : Int)).set m (-1)).count (r0 : Int) : Int) = (agAt lR r0).room := by
      have := count_set_off (ws.set who (r0 : Int)) m (-1) r0 (by rw [hlen1]; exact g1) g3' (by omega)
      omega
    have hcmr : ∀ r : Nat, r ≠ r0 → ((ws.set who (r0 : Int)).set m (-1)).count (r : Int) = ws.count (r : Int) := fun r hne => by
      rw [count_set_no _ m (-1) r (by rw [hlen1]; exact g1) (by rw [g3']; omega) (by omega), hcr r hne]
    have hmem : ∀ j r : Nat, r ≠ r0 → atL ((ws.set who (r0 : Int)).set m (-1)) j = r → atL ws j = r := fun j r hne h => by
      rw [hWm] at h
      by_cases e1 : j = m
      · rw [if_pos e1] at h; omega
      · rw [if_neg e1] at h
        by_cases e2 : j = who
        · rw [if_pos e2] at h; omega
        · rw [if_neg e2] at h; exact h
    have hmem0 : ∀ j, atL ((ws.set who (r0 : Int)).set m (-1)) j = r0 → j ≠ m ∧ atL (ws.set who (r0 : Int)) j = r0 := fun j h => by
      rw [set_at _ m _ j (by rw [hlen1]; exact g1)] at h
      by_cases e1 : j = m
      · rw [if_pos e1] at h; omega
      · rw [if_neg e1] at h; exact ⟨e1, h⟩
    -- what m had, or was: nothing but r0
    have hmr : ∀ r : Nat, r ≠ r0 → atL ws m ≠ r := fun r hne h => by
      rw [hW] at g3'
      by_cases e : m = who
      · subst e; omega
      · rw [if_neg e] at g3'; omega
    refine ⟨by rw [List.length_set, hlen1]; exact I.len, hlenA, hle, fun l hl => ?_, fun l r hl h => ?_, fun r hr => ?_, fun l r hl hr h1 h2 h3 => ?_, fun l r hl hr h1 h2 h3 mu hmu => ?_⟩
    · rw [hWm]
      split
      · exact Or.inl rfl
      · split
        · exact Or.inr ⟨r0, hr0R, rfl⟩
        · exact I.vals l hl
    · rw [hWm] at h
      by_cases e1 : l = m
      · rw [if_pos e1] at h; omega
      · rw [if_neg e1] at h
        by_cases e2 : l = who
        · subst e2
          rw [if_pos rfl] at h
          obtain rfl : r0 = r := by omega
          rw [hA, if_pos rfl, hrk]
          exact ⟨rfl, by omega, hrkR⟩
        · rw [if_neg e2] at h
          rw [hA, if_neg e2]
          exact I.cur l r hl h
    · by_cases e : r = r0
      · subst e; omega
      · rw [hcmr r e]; exact I.cnt r hr
    · by_cases e0 : r = r0
      · subst e0
        by_cases em : l = m
        · subst em
          exact Or.inr ⟨hcm, fun j hj hjr => hbest j hj (hmem0 j hjr).1 (hmem0 j hjr).2⟩
        · have hlw : l ≠ who := fun e => h3 (by rw [hWm, if_neg em, if_pos e])
          rw [hA, if_neg hlw] at h2
          rw [hWm, if_neg em, if_neg hlw] at h3
          rcases I.ref l r hl hr h1 h2 h3 with h | ⟨h, h'⟩
          · exact Or.inl h
          · refine Or.inr ⟨hcm, fun j hj hjr => ?_⟩
            obtain ⟨hj1, hj2⟩ := hmem0 j hjr
            have hj3 := hj2
            rw [hW] at hj3
            by_cases ej : j = who
            · have hmw : m ≠ who := fun e => hj1 (by rw [ej, e])
              have hm0 := g3'
              rw [hW, if_neg hmw] at hm0
              have := h' m hmL hm0
              have := hbest j hj hj1 hj2
              omega
            · rw [if_neg ej] at hj3
              exact h' j hj hj3
      · have hlt : rkL lL l r < atL asked l := by
          rw [hA] at h2
          by_cases e : l = who
          · subst e; rw [if_pos rfl] at h2; exact hold r h1 h2 e0
          · rw [if_neg e] at h2; exact h2
        have hwr : atL ws l ≠ r := by
          by_cases e1 : l = m
          · rw [e1]; exact hmr r e0
          · rw [hWm, if_neg e1] at h3
            by_cases e2 : l = who
            · subst e2; omega
            · rw [if_neg e2] at h3; exact h3
        rcases I.ref l r hl hr h1 hlt hwr with h | ⟨h, h'⟩
        · exact Or.inl h
        · exact Or.inr ⟨by rw [hcmr r e0]; exact h, fun j hj hjr => h' j hj (hmem j r e0 hjr)⟩
    · by_cases e0 : r = r0
      · subst e0
        by_cases em : l = m
        · subst em
          intro hmur
          -- one of those that r keeps is not with r in mu
          have hlt : cP (isAt mu (r : Int)) lL.length < cP (fun j => isAt ((ws.set who (r : Int)).set l (-1)) (r : Int) j || decide (j = l)) lL.length := by
            have h1 : cP (isAt ((ws.set who (r : Int)).set l (-1)) (r : Int)) lL.length + 1 = cP (fun j => isAt ((ws.set who (r : Int)).set l (-1)) (r : Int) j || decide (j = l)) lL.length := by
              refine cP_one lL.length hl ?_ (by simp) fun j hj hne => by simp [hne]
              unfold isAt
              rw [hWm, if_pos rfl]
              exact decide_eq_false (by omega)
            have h2 : ((ws.set who (r : Int)).set l (-1)).count (r : Int) = cP (isAt ((ws.set who (r : Int)).set l (-1)) (r : Int)) lL.length := by
              rw [count_cP, List.length_set, hlen1, I.len]
            have h3 : mu.count (r : Int) = cP (isAt mu (r : Int)) lL.length := by rw [count_cP, hmu.len]
            have := hmu.cnt r hr
            omega
          obtain ⟨j, hj, hj1, hj2⟩ := cP_out hlt
          have hjl : j ≠ l := fun e => by
            subst e
            unfold isAt at hj2
            rw [decide_eq_true hmur] at hj2
            cases hj2
          have hjr : atL ((ws.set who (r : Int)).set l (-1)) j = r := by
            simp only [hjl, decide_false, Bool.or_false] at hj1
            exact of_decide_eq_true hj1
          have hjmu : atL mu j ≠ r := of_decide_eq_false hj2
          obtain ⟨_, hj3⟩ := hmem0 j hjr
          -- j has asked r last
          have hjk : 0 ≤ rkL lL j r ∧ rkL lL j r ≤ atL asked j ∧ (atL ws j = -1 ∨ atL ws j = r) := by
            rw [hW] at hj3
            by_cases e : j = who
            · subst e; exact ⟨by omega, by omega, Or.inl hal⟩
            · rw [if_neg e] at hj3
              have := I.cur j r hj hj3
              exact ⟨this.2.1, by omega, Or.inr hj3⟩
          refine hmu.calm j r hj hr ⟨hjk.1, hin j hj hj3, ?_, Or.inr ⟨l, by rw [hmu.len]; exact hl, hmur, hbest j hj hjl hj3⟩⟩
          rw [gr_in hjk.1]
          rcases Int.lt_or_eq_of_le (hmu.rng j hj).1 with hpos | hneg
          · obtain ⟨s, hs⟩ : ∃ s : Nat, atL mu j = s := ⟨(atL mu j).toNat, by omega⟩
            have hsR : s < lR.length := by have := (hmu.rng j hj).2; omega
            have hlk := (hmu.like j s hj hs).1
            rw [hs, gr_in hlk]
            have hne : rkL lL j s ≠ rkL lL j r := fun e => hjmu (by rw [hs]; have := rkL_inj hlk e; omega)
            rcases Int.lt_or_lt_of_ne hne with h | h
            · have hws : atL ws j ≠ s := by
                rcases hjk.2.2 with h' | h'
                · omega
                · intro e; exact hjmu (by rw [hs]; omega)
              exact absurd hs (I.ach j s hj hsR hlk (by omega) hws mu hmu)
            · exact h
          · rw [← hneg, gr_alone]
            exact rk_lt lL j r
        · have hlw : l ≠ who := fun e => h3 (by rw [hWm, if_neg em, if_pos e])
          rw [hA, if_neg hlw] at h2
          rw [hWm, if_neg em, if_neg hlw] at h3
          exact I.ach l r hl hr h1 h2 h3 mu hmu
      · have hlt : rkL lL l r < atL asked l := by
          rw [hA] at h2
          by_cases e : l = who
          · subst e; rw [if_pos rfl] at h2; exact hold r h1 h2 e0
          · rw [if_neg e] at h2; exact h2
        have hwr : atL ws l ≠ r := by
          by_cases e1 : l = m
          · rw [e1]; exact hmr r e0
          · rw [hWm, if_neg e1] at h3
            by_cases e2 : l = who
            · subst e2; omega
            · rw [if_neg e2] at h3; exact h3
        exact I.ach l r hl hr h1 hlt hwr mu hmu
theorem Asks.inv {lL lR : List Ag} {ws asked : List Int} (hM : mayE lL lR = 0) (h : Asks lL lR ws asked) : LInv lL lR ws asked :=
  h (LInv lL lR) (LInv.start lL lR hM) (fun _ _ _ hI h1 h2 h3 => hI.step hM h1 h2 h3)
/-- GALE AND SHAPLEY: WHAT THE LEFT GETS BY ASKING IS STABLE. -/
theorem LInv.stab {lL lR : List Ag} {ws asked : List Int} (I : LInv lL lR ws asked) (hF : Asked lL ws asked) : Stab lL lR ws where
  len := I.len
  rng := fun l hl => by
    rcases I.vals l hl with h | ⟨r, hr, h⟩ <;> rw [h] <;> omega
  cnt := I.cnt
  like := fun l r hl h => ⟨(I.cur l r hl h).2.1, (I.cur l r hl h).2.2⟩
  calm := fun l r hl hr ⟨b1, b2, b3, b4⟩ => by
    rw [gr_in b1] at b3
    have hne : atL ws l ≠ r := fun e => by rw [e, gr_in b1] at b3; omega
    have hlt : rkL lL l r < atL asked l := by
      rcases I.vals l hl with h | ⟨s, hs, h⟩
      · have := hF l hl h
        have := rk_lt lL l r
        omega
      · have hc := I.cur l s hl h
        rw [h, gr_in hc.2.1] at b3
        omega
    rcases I.ref l r hl hr b1 hlt hne with h | ⟨h, h'⟩
    · omega
    · rcases b4 with b | ⟨j, hj, hjr, b⟩
      · omega
      · have := h' j (by rw [← I.len]; exact hj) hjr
        omega
/-- .. AND NOTHING THAT IS STABLE IS BETTER FOR ANY OF THE LEFT. -/
theorem LInv.best {lL lR : List Ag} {ws asked : List Int} (I : LInv lL lR ws asked) (hF : Asked lL ws asked) {m : List Int} (hm : Stab lL lR m) {l : Nat} (hl : l < lL.length) : gr lL l (atL ws l) ≤ gr lL l (atL m l) := by
  rcases Int.lt_or_eq_of_le (hm.rng l hl).1 with hpos | hneg
  · obtain ⟨s, hs⟩ : ∃ s : Nat, atL m l = s := ⟨(atL m l).toNat, by omega⟩
    have hsR : s < lR.length := by have := (hm.rng l hl).2; omega
    have hlk := (hm.like l s hl hs).1
    rw [hs, gr_in hlk]
    by_cases e : atL ws l = s
    · rw [e, gr_in hlk]; exact Int.le_refl _
    · have hna : ¬ rkL lL l s < atL asked l := fun h => absurd hs (I.ach l s hl hsR hlk h e m hm)
      rcases I.vals l hl with h | ⟨r, hr, h⟩
      · have := hF l hl h
        have := rk_lt lL l s
        omega
      · have hc := I.cur l r hl h
        rw [h, gr_in hc.2.1]
        omega
  · rw [← hneg, gr_alone]
    rcases I.vals l hl with h | ⟨r, hr, h⟩
    · rw [h, gr_alone]; exact Int.le_refl _
    · rw [h, gr_in (I.cur l r hl h).2.1]
      exact Int.le_of_lt (rk_lt lL l r)
/-- What is as good for one is the same. -/
theorem gr_same {lL lR : List Ag} {a b : List Int} (ha : Stab lL lR a) (hb : Stab lL lR b) {l : Nat} (hl : l < lL.length) (h : gr lL l (atL a l) = gr lL l (atL b l)) : atL a l = atL b l := by
  rcases Int.lt_or_eq_of_le (ha.rng l hl).1 with pa | na
  · obtain ⟨r, hr⟩ : ∃ r : Nat, atL a l = r := ⟨(atL a l).toNat, by omega⟩
    have ka := (ha.like l r hl hr).1
    rcases Int.lt_or_eq_of_le (hb.rng l hl).1 with pb | nb
    · obtain ⟨s, hs⟩ : ∃ s : Nat, atL b l = s := ⟨(atL b l).toNat, by omega⟩
      have kb := (hb.like l s hl hs).1
      rw [hr, hs, gr_in ka, gr_in kb] at h
      rw [hr, hs]
      exact rkL_inj ka h
    · rw [hr, ← nb, gr_in ka, gr_alone] at h
      have := rk_lt lL l r
      omega
  · rcases Int.lt_or_eq_of_le (hb.rng l hl).1 with pb | nb
    · obtain ⟨s, hs⟩ : ∃ s : Nat, atL b l = s := ⟨(atL b l).toNat, by omega⟩
      have kb := (hb.like l s hl hs).1
      rw [← na, hs, gr_in kb, gr_alone] at h
      have := rk_lt lL l s
      omega
    · rw [← na, ← nb]
end Go.Proofs.Ytodbnjainpjkcaa
