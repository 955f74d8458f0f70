import Derived.Test.YtodbnjainpjkcaaEE
namespace Go.Proofs.Ytodbnjainpjkcaa
open Go.RowKit
/-- The better and the worse of two, for each of the left. -/
structure JM (lL : List Ag) (a b j m : List Int) : Prop where
  lenJ : j.length = lL.length
  lenM : m.length = lL.length
  lo : ∀ l, l < lL.length → gr lL l (atL a l) ≤ gr lL l (atL b l) → atL j l = atL a l ∧ atL m l = atL b l
  hi : ∀ l, l < lL.length → gr lL l (atL b l) ≤ gr lL l (atL a l) → atL j l = atL b l ∧ atL m l = atL a l
theorem JM.symm {lL : List Ag} {a b j m : List Int} (h : JM lL a b j m) : JM lL b a j m := ⟨h.lenJ, h.lenM, h.hi, h.lo⟩
/-- One whom l has in j and not in b is full in b, with better ones. -/
theorem JM.only {lL lR : List Ag} {a b j m : List Int} (h : JM lL a b j m) (ha : Stab lL lR a) (hb : Stab lL lR b) {l r : Nat} (hl : l < lL.length) (hr : r < lR.length) (h1 : atL j l = r) (h2 : atL b l ≠ r) :
    atL a l = r ∧ (agAt lR r).room ≤ (b.count (r : Int) : Int) ∧ ∀ k, k < lL.length → atL b k = r → rkR lR r k < rkR lR r l := by
  have hla : atL a l = r ∧ gr lL l (atL a l) < gr lL l (atL b l) := by
    rcases Int.lt_or_le (gr lL l (atL a l)) (gr lL l (atL b l)) with c | c
    · exact ⟨by rw [← (h.lo l hl (Int.le_of_lt c)).1]; exact h1, c⟩
    · exact absurd (by rw [← (h.hi l hl c).1]; exact h1) h2
  obtain ⟨hal, hlt⟩ := hla
  have hk := ha.like l r hl hal
  rw [hal] at hlt
  have hc := hb.calm l r hl hr
  refine ⟨hal, Int.not_lt.1 fun c => hc ⟨hk.1, hk.2, hlt, Or.inl c⟩, fun k hkL hkr => ?_⟩
  have h3 : ¬ rkR lR r l < rkR lR r k := fun c => hc ⟨hk.1, hk.2, hlt, Or.inr ⟨k, by rw [hb.len]; exact hkL, hkr, c⟩⟩
  have h4 : rkR lR r k ≠ rkR lR r l := fun e => h2 (by rw [← rkR_inj (hb.like k r hkL hkr).2 e]; exact hkr)
  omega
/-- Whom r has in j: those that it has in a, or those that it has in b. -/
theorem JM.part {lL lR : List Ag} {a b j m : List Int} (h : JM lL a b j m) (ha : Stab lL lR a) (hb : Stab lL lR b) {r : Nat} (hr : r < lR.length) :
    (∀ l, l < lL.length → atL j l = r → atL a l = r) ∨ (∀ l, l < lL.length → atL j l = r → atL b l = r) := by
  refine Classical.byContradiction fun hn => ?_
  rw [not_or] at hn
  obtain ⟨h1, h2⟩ := hn
  have e1 : ∃ l, l < lL.length ∧ atL j l = r ∧ atL a l ≠ r := Classical.byContradiction fun hh => h1 fun l hl hj => Classical.byContradiction fun hx => hh ⟨l, hl, hj, hx⟩
  have e2 : ∃ l, l < lL.length ∧ atL j l = r ∧ atL b l ≠ r := Classical.byContradiction fun hh => h2 fun l hl hj => Classical.byContradiction fun hx => hh ⟨l, hl, hj, hx⟩
  obtain ⟨l1, hl1, hj1, hx1⟩ := e1
  obtain ⟨l2, hl2, hj2, hx2⟩ := e2
  obtain ⟨k1, _, k3⟩ := h.symm.only hb ha hl1 hr hj1 hx1
  obtain ⟨q1, _, q3⟩ := h.only ha hb hl2 hr hj2 hx2
  have := k3 l2 hl2 q1
  have := q3 l1 hl1 k1
  omega
theorem JM.le {lL lR : List Ag} {a b j m : List Int} (h : JM lL a b j m) (ha : Stab lL lR a) (hb : Stab lL lR b) {r : Nat} (hr : r < lR.length) : (j.count (r : Int) : Int) ≤ (a.count (r : Int) : Int) := by
  by_cases c : ∀ l, l < lL.length → atL j l = r → atL a l = r
  · exact (count_sub ha.len h.lenJ c).1
  · have e1 : ∃ l, l < lL.length ∧ atL j l = r ∧ atL a l ≠ r := Classical.byContradiction fun hh => c fun l hl hj => Classical.byContradiction fun hx => hh ⟨l, hl, hj, hx⟩
    obtain ⟨l1, hl1, hj1, hx1⟩ := e1
    have hf := (h.symm.only hb ha hl1 hr hj1 hx1).2.1
    have hs := (h.part ha hb hr).resolve_left c
    have := (count_sub hb.len h.lenJ hs).1
    have := hb.cnt r hr
    omega
/-- How many there are of all. -/
def sumTo (f : Nat → Nat) : Nat → Nat
  | 0 => 0
  | k + 1 => sumTo f k + f k
theorem sumTo_le {f g : Nat → Nat} : ∀ n, (∀ r, r < n → f r ≤ g r) → sumTo f n ≤ sumTo g n := by
  intro n
  induction n with
  | zero => intro _; exact Nat.le_refl _
  | succ n ih => intro h; rw [sumTo, sumTo]; have := ih (fun r hr => h r (by omega)); have := h n (by omega); omega
theorem sumTo_eq {f g : Nat → Nat} : ∀ n, (∀ r, r < n → f r ≤ g r) → sumTo g n ≤ sumTo f n → ∀ r, r < n → f r = g r := by
  intro n
  induction n with
  | zero => intro _ _ r hr; omega
  | succ n ih =>
    intro h hs r hr
    rw [sumTo, sumTo] at hs
    have h1 := sumTo_le n (fun r hr => h r (by omega))
    have h2 := h n (by omega)
    by_cases e : r = n
    · subst e; omega
    · exact ih (fun r hr => h r (by omega)) (by omega) r (by omega)
theorem sumTo_add (f g : Nat → Nat) : ∀ n, sumTo (fun r => f r + g r) n = sumTo f n + sumTo g n := by
  intro n
  induction n with
  | zero => rfl
  | succ n ih => rw [sumTo, sumTo, sumTo, ih]; omega
theorem sumTo_zero : ∀ n, sumTo (fun _ => 0) n = 0 := by
  intro n
  induction n with
  | zero => rfl
  | succ n ih => rw [sumTo, ih]
theorem sumTo_one {x : Nat} : ∀ n, sumTo (fun r => if x = r then 1 else 0) n = if x < n then 1 else 0 := by
  intro n
  induction n with
  | zero => simp [sumTo]
  | succ n ih =>
    rw [sumTo, ih]
    by_cases e : x = n
    · subst e; simp
    · by_cases c : x < n
      · simp [e, c]; omega
      · rw [if_neg c, if_neg e, if_neg (by omega)]
/-- Each of the left goes with one, or is alone. -/
theorem all_count (ws : List Int) (nR : Nat) : ∀ n, (∀ l, l < n → -1 ≤ atL ws l ∧ atL ws l < nR) → sumTo (fun r => cP (isAt ws (r : Int)) n) nR + cP (isAt ws (-1)) n = n := by
  intro n
  induction n with
  | zero => intro _; show sumTo (fun _ => 0) nR + 0 = 0; rw [sumTo_zero]
  | succ n ih =>
    intro h
    have h1 := ih (fun l hl => h l (by omega))
    have h2 := h n (by omega)
    have e : (fun r : Nat => cP (isAt ws (r : Int)) (n + 1)) = fun r : Nat => cP (isAt ws (r : Int)) n + if isAt ws (r : Int) n = true then 1 else 0 := rfl
    rw [e, sumTo_add, cP]
    rcases Int.lt_or_eq_of_le h2.1 with p | q
    · obtain ⟨s, hs⟩ : ∃ s : Nat, atL ws n = s := ⟨(atL ws n).toNat, by omega⟩
      have e2 : (fun r : Nat => if isAt ws (r : Int) n = true then 1 else 0) = fun r : Nat => if s = r then 1 else 0 := by
        funext r
        unfold isAt
        rw [hs]
        by_cases c : s = r
        · subst c; simp
        · rw [if_neg c, if_neg (by rw [decide_eq_false (by omega)]; decide)]
      rw [e2, sumTo_one, if_pos (by omega), if_neg (by unfold isAt; rw [hs, decide_eq_false (by omega)]; decide)]
      omega
    · have e2 : (fun r : Nat => if isAt ws (r : Int) n = true then 1 else 0) = fun _ : Nat => 0 := by
        funext r
        unfold isAt
        rw [← q, if_neg (by rw [decide_eq_false (by omega)]; decide)]
      rw [e2, sumTo_zero, if_pos (by unfold isAt; rw [← q]; decide)]
      omega
/-- THE RURAL HOSPITALS, FOR TWO AND THE BETTER OF BOTH: each has as many as ever; who is alone is alone. -/
theorem JM.same {lL lR : List Ag} {a b j m : List Int} (h : JM lL a b j m) (ha : Stab lL lR a) (hb : Stab lL lR b) :
    (∀ r, r < lR.length → j.count (r : Int) = a.count (r : Int)) ∧ ∀ l, l < lL.length → (atL a l = -1 ↔ atL j l = -1) := by
  have hrng : ∀ l, l < lL.length → -1 ≤ atL j l ∧ atL j l < lR.length := fun l hl => by
    rcases Int.le_total (gr lL l (atL a l)) (gr lL l (atL b l)) with c | c
    · rw [(h.lo l hl c).1]; exact ha.rng l hl
    · rw [(h.hi l hl c).1]; exact hb.rng l hl
  have hj1 : ∀ l, l < lL.length → atL j l = -1 → atL a l = -1 := fun l hl e => by
    rcases Int.lt_or_le (gr lL l (atL b l)) (gr lL l (atL a l)) with c | c
    · rw [(h.hi l hl (Int.le_of_lt c)).1] at e
      rw [e, gr_alone] at c
      rcases Int.lt_or_eq_of_le (ha.rng l hl).1 with p | q
      · obtain ⟨s, hs⟩ : ∃ s : Nat, atL a l = s := ⟨(atL a l).toNat, by omega⟩
        rw [hs, gr_in (ha.like l s hl hs).1] at c
        have := rk_lt lL l s
        omega
      · exact q.symm
    · rw [(h.lo l hl c).1] at e; exact e
  have sJ := all_count j lR.length lL.length hrng
  have sA := all_count a lR.length lL.length ha.rng
  have cJ : ∀ r : Int, j.count r = cP (isAt j r) lL.length := fun r => by rw [count_cP, h.lenJ]
  have cA : ∀ r : Int, a.count r = cP (isAt a r) lL.length := fun r => by rw [count_cP, ha.len]
  have hle : ∀ r, r < lR.length → cP (isAt j (r : Int)) lL.length ≤ cP (isAt a (r : Int)) lL.length := fun r hr => by have := h.le ha hb hr; rw [cJ, cA] at this; omega
  have hle1 : cP (isAt j (-1)) lL.length ≤ cP (isAt a (-1)) lL.length := cP_mono _ fun l hl hp => decide_eq_true (hj1 l hl (of_decide_eq_true hp))
  have hsum := sumTo_le lR.length hle
  refine ⟨fun r hr => by rw [cJ, cA]; exact sumTo_eq lR.length hle (by omega) r hr, fun l hl => ⟨fun e => ?_, hj1 l hl⟩⟩
  refine Classical.byContradiction fun hx => ?_
  have := cP_lt (P := isAt j (-1)) (Q := isAt a (-1)) hl (decide_eq_false hx) (decide_eq_true e) (fun k hk hp => decide_eq_true (hj1 k hk (of_decide_eq_true hp)))
  omega
/-- THE BETTER OF BOTH IS STABLE. -/
theorem JM.join {lL lR : List Ag} {a b j m : List Int} (h : JM lL a b j m) (ha : Stab lL lR a) (hb : Stab lL lR b) : Stab lL lR j where
  len := h.lenJ
  rng := fun l hl => by
    rcases Int.le_total (gr lL l (atL a l)) (gr lL l (atL b l)) with c | c
    · rw [(h.lo l hl c).1]; exact ha.rng l hl
    · rw [(h.hi l hl c).1]; exact hb.rng l hl
  cnt := fun r hr => by rw [(h.same ha hb).1 r hr]; exact ha.cnt r hr
  like := fun l r hl e => by
    rcases Int.le_total (gr lL l (atL a l)) (gr lL l (atL b l)) with c | c
    · rw [(h.lo l hl c).1] at e; exact ha.like l r hl e
    · rw [(h.hi l hl c).1] at e; exact hb.like l r hl e
  calm := fun l r hl hr ⟨b1, b2, b3, b4⟩ => by
    have gab : gr lL l (atL j l) ≤ gr lL l (atL a l) ∧ gr lL l (atL j l) ≤ gr lL l (atL b l) := by
      rcases Int.le_total (gr lL l (atL a l)) (gr lL l (atL b l)) with c | c
      · rw [(h.lo l hl c).1]; omega
      · rw [(h.hi l hl c).1]; omega
    have ca := ha.calm l r hl hr
    have cb := hb.calm l r hl hr
    rcases b4 with c | ⟨k, hk, hkr, c⟩
    · rw [(h.same ha hb).1 r hr] at c
      exact ca ⟨b1, b2, by omega, Or.inl c⟩
    · have hkL : k < lL.length := by rw [← h.lenJ]; exact hk
      rcases Int.le_total (gr lL k (atL a k)) (gr lL k (atL b k)) with d | d
      · rw [(h.lo k hkL d).1] at hkr
        exact ca ⟨b1, b2, by omega, Or.inr ⟨k, by rw [ha.len]; exact hkL, hkr, c⟩⟩
      · rw [(h.hi k hkL d).1] at hkr
        exact cb ⟨b1, b2, by omega, Or.inr ⟨k, by rw [hb.len]; exact hkL, hkr, c⟩⟩
theorem JM.counts {lL lR : List Ag} {a b j m : List Int} (h : JM lL a b j m) (ha : Stab lL lR a) (hb : Stab lL lR b) {r : Nat} (hr : r < lR.length) : m.count (r : Int) = a.count (r : Int) ∧ m.count (r : Int) = b.count (r : Int) := by
  have h1 := (h.same ha hb).1 r hr
  have h2 := (h.symm.same hb ha).1 r hr
  have hsum : ∀ n, n ≤ lL.length → cP (isAt j (r : Int)) n + cP (isAt m (r : Int)) n = cP (isAt a (r : Int)) n + cP (isAt b (r : Int)) n := by
    intro n
    induction n with
    | zero => intro _; rfl
    | succ n ih =>
      intro hn
      have := ih (by omega)
      simp only [cP]
      rcases Int.le_total (gr lL n (atL a n)) (gr lL n (atL b n)) with c | c
      · have e := h.lo n (by omega) c
        have e1 : isAt j (r : Int) n = isAt a (r : Int) n := by unfold isAt; rw [e.1]
        have e2 : isAt m (r : Int) n = isAt b (r : Int) n := by unfold isAt; rw [e.2]
        rw [e1, e2]; omega
      · have e := h.hi n (by omega) c
        have e1 : isAt j (r : Int) n = isAt b (r : Int) n := by unfold isAt; rw [e.1]
        have e2 : isAt m (r : Int) n = isAt a (r : Int) n := by unfold isAt; rw [e.2]
        rw [e1, e2]; omega
  have h3 := hsum lL.length (Nat.le_refl _)
  have cJ : j.count (r : Int) = cP (isAt j (r : Int)) lL.length := by rw [count_cP, h.lenJ]
  have cM : m.count (r : Int) = cP (isAt m (r : Int)) lL.length := by rw [count_cP, h.lenM]
  have cA : a.count (r : Int) = cP (isAt a (r : Int)) lL.length := by rw [count_cP, ha.len]
  have cB : b.count (r : Int) = cP (isAt b (r : Int)) lL.length := by rw [count_cP, hb.len]
  omega
/-- Half of it: where what l has in m is what it has in a. -/
theorem JM.meet_half {lL lR : List Ag} {a b j m : List Int} (h : JM lL a b j m) (ha : Stab lL lR a) (hb : Stab lL lR b) {l r : Nat} (hl : l < lL.length) (hr : r < lR.length) (hma : atL m l = atL a l) : ¬ Blocks lL lR m l r := by
  rintro ⟨b1, b2, b3, b4⟩
  rw [hma] at b3
  have ca := ha.calm l r hl hr
  rcases b4 with c | ⟨k, hk, hkr, c⟩
  · rw [(h.counts ha hb hr).1] at c
    exact ca ⟨b1, b2, b3, Or.inl c⟩
  · have hkL : k < lL.length := by rw [← h.lenM]; exact hk
    have hka : atL a k ≠ r := fun e => ca ⟨b1, b2, b3, Or.inr ⟨k, by rw [ha.len]; exact hkL, e, c⟩⟩
    -- k goes with r in b, and with another one, a better one, in a
    have hkb : atL b k = r ∧ atL j k = atL a k := by
      rcases Int.le_total (gr lL k (atL a k)) (gr lL k (atL b k)) with d | d
      · have e := h.lo k hkL d; exact ⟨by rw [← e.2]; exact hkr, e.1⟩
      · have e := h.hi k hkL d; exact absurd (by rw [← e.2]; exact hkr) hka
    have hcab : (a.count (r : Int) : Int) = (b.count (r : Int) : Int) := by have := h.counts ha hb hr; omega
    -- so r has in j those that it has in a
    have hja : ∀ x, x < lL.length → atL j x = r → atL a x = r := by
      rcases h.part ha hb hr with d | d
      · exact d
      · exfalso
        have h1 := (count_sub hb.len h.lenJ d).2 k hkL hkb.1 (by rw [hkb.2]; exact hka)
        have h2 := (h.symm.same hb ha).1 r hr
        omega
    -- one of these is not with r in b
    have hex : ∃ x, x < lL.length ∧ atL a x = r ∧ atL b x ≠ r := Classical.byContradiction fun hh => by
      have hs : ∀ x, x < lL.length → atL a x = r → atL b x = r := fun x hx e => Classical.byContradiction fun e2 => hh ⟨x, hx, e, e2⟩
      have := (count_sub hb.len ha.len hs).2 k hkL hkb.1 hka
      omega
    obtain ⟨x, hx, hxa, hxb⟩ := hex
    have hxj : atL j x = r := Classical.byContradiction fun e => by
      have h1 := (count_sub ha.len h.lenJ hja).2 x hx hxa e
      have h2 := (h.same ha hb).1 r hr
      omega
    have := (h.only ha hb hx hr hxj hxb).2.2 k hkL hkb.1
    have h5 : ¬ rkR lR r l < rkR lR r x := fun d => ca ⟨b1, b2, b3, Or.inr ⟨x, by rw [ha.len]; exact hx, hxa, d⟩⟩
    omega
/-- THE WORSE OF BOTH IS STABLE. -/
theorem JM.meet {lL lR : List Ag} {a b j m : List Int} (h : JM lL a b j m) (ha : Stab lL lR a) (hb : Stab lL lR b) : Stab lL lR m where
  len := h.lenM
  rng := fun l hl => by
    rcases Int.le_total (gr lL l (atL a l)) (gr lL l (atL b l)) with c | c
    · rw [(h.lo l hl c).2]; exact hb.rng l hl
    · rw [(h.hi l hl c).2]; exact ha.rng l hl
  cnt := fun r hr => by rw [(h.counts ha hb hr).1]; exact ha.cnt r hr
  like := fun l r hl e => by
    rcases Int.le_total (gr lL l (atL a l)) (gr lL l (atL b l)) with c | c
    · rw [(h.lo l hl c).2] at e; exact hb.like l r hl e
    · rw [(h.hi l hl c).2] at e; exact ha.like l r hl e
  calm := fun l r hl hr => by
    rcases Int.le_total (gr lL l (atL a l)) (gr lL l (atL b l)) with c | c
    · exact h.symm.meet_half hb ha hl hr (h.lo l hl c).2
    · exact h.meet_half ha hb hl hr (h.hi l hl c).2
end Go.Proofs.Ytodbnjainpjkcaa
