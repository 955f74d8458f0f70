import Derived.Test.YtodbnjainpjkcaaFF
namespace Go.Proofs.Ytodbnjainpjkcaa
open Go.RowKit
theorem atL_snoc_lt (ws : List Int) (x : Int) {j : Nat} (h : j < ws.length) : atL (ws ++ [x]) j = atL ws j := by
  unfold atL
  rw [List.getElem?_append_left h]
theorem atL_snoc (ws : List Int) (x : Int) : atL (ws ++ [x]) ws.length = x := by
  unfold atL
  rw [List.getElem?_append_right (Nat.le_refl _)]
  simp
theorem count_snoc (ws : List Int) (x r : Int) : (ws ++ [x]).count r = ws.count r + if x = r then 1 else 0 := by
  rw [List.count_append, List.count_singleton]
  simp
/-- It is stable, in the words of the answers. -/
def calmB (lL lR : List Ag) (ws : List Int) : Bool := (twoOf (badB lL lR ws) lL.length lR.length).isNone
def stabB (lL lR : List Ag) (ws : List Int) : Bool := decide (withE lL lR ws = 0) && ((firstFrom (unwP lL lR ws) ws.length 0).isNone && (twoOf (wouldB lL lR ws) lL.length lR.length).isNone)
theorem stabV_true {lL lR : List Ag} {ws : List Int} : (∃ x y, stabV lL lR ws (wouldB lL lR ws) = four true x y 0) ↔ stabB lL lR ws = true := by
  unfold stabB
  by_cases h : withE lL lR ws = 0
  · cases hu : firstFrom (unwP lL lR ws) ws.length 0 with
    | some l => rw [stab_unw h hu]; simp [four]
    | none =>
      cases ht : twoOf (wouldB lL lR ws) lL.length lR.length with
      | some l => rw [stab_two h hu ht]; simp [four]
      | none => rw [stab_ok h hu ht]; simp [four, h]
  · rw [stab_err h]; simp [four, h]
theorem opt_isNone {α : Type} {o : Option α} : o.isNone = true ↔ o = none := by cases o <;> simp
/-- What may be, and where all that go with each other like each other: as far as it is known. -/
structure Good (lL lR : List Ag) (ws : List Int) : Prop where
  len : ws.length ≤ lL.length
  rng : ∀ l, l < ws.length → -1 ≤ atL ws l ∧ atL ws l < lR.length
  cnt : ∀ r, r < lR.length → (ws.count (r : Int) : Int) ≤ (agAt lR r).room
  like : ∀ l r : Nat, l < ws.length → atL ws l = r → likeB lL lR l r = true
theorem none_first {P : Nat → Bool} {n : Nat} (h : ∀ i, i < n → P i = false) : firstFrom P n 0 = none := by
  rcases firstFrom_spec P n _ 0 rfl with ⟨h1, _⟩ | ⟨m, _, h2, h3, _, _⟩
  · exact h1
  · rw [h m h2] at h3; cases h3
theorem Good.may {lL lR : List Ag} {ws : List Int} (h : Good lL lR ws) (hl : ws.length = lL.length) : mayBeE lL lR ws = 0 := by
  unfold mayBeE
  rw [if_pos hl]
  have e1 : firstFrom (outP lR.length ws) ws.length 0 = none := none_first fun i hi => by
    have := h.rng i hi
    unfold atL at this
    unfold outP
    rw [decide_eq_false (by omega), decide_eq_false (by omega)]
    rfl
  have e2 : firstFrom (overP lR ws) lR.length 0 = none := none_first fun r hr => by
    have := h.cnt r hr
    unfold overP
    exact decide_eq_false (by omega)
  rw [e1, e2]
  rfl
theorem Good.willing {lL lR : List Ag} {ws : List Int} (h : Good lL lR ws) : firstFrom (unwP lL lR ws) ws.length 0 = none := none_first fun i hi => by
  unfold unwP
  have hr := h.rng i hi
  unfold atL at hr
  by_cases e : ws[i]?.getD 0 = -1
  · rw [decide_eq_false (fun hh => hh e), Bool.false_and]
  · have := h.like i (ws[i]?.getD 0).toNat hi (by unfold atL; omega)
    rw [this]
    simp
theorem Good.leaf {lL lR : List Ag} {ws : List Int} (hm : matchE lL lR = 0) (h : Good lL lR ws) (hl : ws.length = lL.length) : stabB lL lR ws = calmB lL lR ws := by
  have hb := h.may hl
  have hu := h.willing
  unfold stabB calmB
  rw [hu, two_ext (bad_would_all hm hb hu), decide_eq_true (by unfold withE; rw [if_pos hm]; exact hb)]
  rfl
theorem over_not {lL lR : List Ag} {ws : List Int} {r : Nat} (hr : r < lR.length) (h : (agAt lR r).room < (ws.count (r : Int) : Int)) : stabB lL lR ws = false := by
  unfold stabB
  have : ¬ withE lL lR ws = 0 := fun e => by
    have hb := (with_match e).2
    unfold mayBeE at hb
    by_cases c : ws.length = lL.length
    · rw [if_pos c] at hb
      unfold outE at hb
      by_cases c2 : (firstFrom (outP lR.length ws) ws.length 0).isSome = true
      · rw [if_pos c2] at hb; omega
      · rw [if_neg c2] at hb
        unfold overE at hb
        by_cases c3 : (firstFrom (overP lR ws) lR.length 0).isSome = true
        · rw [if_pos c3] at hb; omega
        · have := firstFrom_none (isSome_none c3) hr
          unfold overP at this
          exact absurd h (of_decide_eq_false this)
    · rw [if_neg c] at hb; omega
  rw [decide_eq_false this, Bool.false_and]
/-- All that are stable, as the document looks for them; as the program does. -/
def docF (lL lR : List Ag) : Nat → List Int → List (List Int)
  | 0, ws => if stabB lL lR ws = true then [ws] else []
  | f + 1, ws => docF lL lR f (ws ++ [-1]) ++ (List.range lR.length).flatMap fun r => if likeB lL lR ws.length r = true then docF lL lR f (ws ++ [(r : Int)]) else []
def progF (lL lR : List Ag) : Nat → List Int → List (List Int)
  | 0, ws => if calmB lL lR ws = true then [ws] else []
  | f + 1, ws => progF lL lR f (ws ++ [-1]) ++ (List.range lR.length).flatMap fun r => if (likeB lL lR ws.length r && decide ((ws.count (r : Int) : Int) < (agAt lR r).room)) = true then progF lL lR f (ws ++ [(r : Int)]) else []
theorem doc_over {lL lR : List Ag} {r : Nat} (hr : r < lR.length) : ∀ f ws, (agAt lR r).room < (ws.count (r : Int) : Int) → docF lL lR f ws = [] := by
  intro f
  induction f with
  | zero => intro ws h; rw [docF, over_not hr h]; rfl
  | succ f ih =>
    intro ws h
    rw [docF, ih (ws ++ [-1]) (by rw [count_snoc]; omega), List.nil_append, List.flatMap_eq_nil_iff]
    intro s _
    split
    · exact ih _ (by rw [count_snoc]; omega)
    · rfl
theorem Good.alone {lL lR : List Ag} {ws : List Int} (h : Good lL lR ws) (hl : ws.length < lL.length) : Good lL lR (ws ++ [-1]) where
  len := by simp; omega
  rng := fun l hl' => by
    rw [List.length_append, List.length_singleton] at hl'
    by_cases e : l = ws.length
    · subst e; rw [atL_snoc]; omega
    · rw [atL_snoc_lt ws _ (by omega)]; exact h.rng l (by omega)
  cnt := fun r hr => by rw [count_snoc, if_neg (by omega)]; exact h.cnt r hr
  like := fun l r hl' e => by
    rw [List.length_append, List.length_singleton] at hl'
    by_cases e2 : l = ws.length
    · subst e2; rw [atL_snoc] at e; omega
    · rw [atL_snoc_lt ws _ (by omega)] at e; exact h.like l r (by omega) e
theorem Good.with {lL lR : List Ag} {ws : List Int} (h : Good lL lR ws) (hl : ws.length < lL.length) {s : Nat} (hs : s < lR.length) (hk : likeB lL lR ws.length s = true) (hc : (ws.count (s : Int) : Int) < (agAt lR s).room) : Good lL lR (ws ++ [(s : Int)]) where
  len := by simp; omega
  rng := fun l hl' => by
    rw [List.length_append, List.length_singleton] at hl'
    by_cases e : l = ws.length
    · subst e; rw [atL_snoc]; omega
    · rw [atL_snoc_lt ws _ (by omega)]; exact h.rng l (by omega)
  cnt := fun r hr => by
    rw [count_snoc]
    by_cases e : r = s
    · subst e; rw [if_pos rfl]; omega
    · rw [if_neg (by omega)]; exact h.cnt r hr
  like := fun l r hl' e => by
    rw [List.length_append, List.length_singleton] at hl'
    by_cases e2 : l = ws.length
    · subst e2
      rw [atL_snoc] at e
      obtain rfl : s = r := by omega
      exact hk
    · rw [atL_snoc_lt ws _ (by omega)] at e; exact h.like l r (by omega) e
theorem flatMap_same {α β : Type} {f g : α → List β} : ∀ l : List α, (∀ x, x ∈ l → f x = g x) → l.flatMap f = l.flatMap g := by
  intro l
  induction l with
  | nil => intro _; rfl
  | cons a l ih => intro h; rw [List.flatMap_cons, List.flatMap_cons, h a (by simp), ih (fun x hx => h x (by simp [hx]))]
theorem prog_doc {lL lR : List Ag} (hm : matchE lL lR = 0) : ∀ f ws, Good lL lR ws → ws.length + f = lL.length → progF lL lR f ws = docF lL lR f ws := by
  intro f
  induction f with
  | zero => intro ws h hl; rw [progF, docF, h.leaf hm (by omega)]
  | succ f ih =>
    intro ws h hl
    rw [progF, docF, ih _ (h.alone (by omega)) (by simp; omega)]
    refine congrArg _ (flatMap_same _ fun r hr => ?_)
    have hrR := List.mem_range.1 hr
    cases hk : likeB lL lR ws.length r with
    | false => simp
    | true =>
      by_cases hc : (ws.count (r : Int) : Int) < (agAt lR r).room
      · rw [decide_eq_true hc]
        simp only [Bool.and_self, if_true]
        exact ih _ (h.with (by omega) hrR hk hc) (by simp; omega)
      · rw [decide_eq_false hc, Bool.and_false, if_neg (by decide), if_pos rfl]
        exact (doc_over hrR f _ (by rw [count_snoc, if_pos rfl]; omega)).symm
theorem good_nil {lL lR : List Ag} (hM : mayE lL lR = 0) : Good lL lR [] where
  len := Nat.zero_le _
  rng := fun l hl => by simp at hl
  cnt := fun r hr => by have := room_right hM hr; simp; omega
  like := fun l r hl => by simp at hl
theorem two_none {P : Nat → Nat → Bool} {nL nR : Nat} (h : twoOf P nL nR = none) {l r : Nat} (hl : l < nL) (hr : r < nR) : P l r = false := by
  have h1 := firstFrom_none h hl
  have h2 : rowOf P nR l = none := by
    cases hq : rowOf P nR l with
    | none => rfl
    | some x => rw [hq] at h1; cases h1
  exact firstFrom_none h2 hr
theorem none_two {P : Nat → Nat → Bool} {nL nR : Nat} (h : ∀ l, l < nL → ∀ r, r < nR → P l r = false) : twoOf P nL nR = none :=
  none_first fun l hl => by
    have : rowOf P nR l = none := none_first fun r hr => h l hl r hr
    rw [this]
    rfl
theorem like_iff {lL lR : List Ag} {l r : Nat} : likeB lL lR l r = true ↔ (0 ≤ rkL lL l r ∧ 0 ≤ rkR lR r l) := by
  unfold likeB rkL rkR
  rw [Bool.and_eq_true, decide_eq_true_eq, decide_eq_true_eq]
/-- 'Would rather' is 'blocks'. -/
theorem bad_iff {lL lR : List Ag} {ws : List Int} (hlen : ws.length = lL.length) (hlike : ∀ l r : Nat, l < lL.length → atL ws l = r → 0 ≤ rkL lL l r ∧ 0 ≤ rkR lR r l) {l r : Nat} (hroom : 1 ≤ (agAt lR r).room) : badB lL lR ws l r = true ↔ Blocks lL lR ws l r := by
  unfold badB Blocks
  rw [Bool.and_eq_true, Bool.and_eq_true, like_iff]
  have e1 : ratherB (agAt lL l).likes r (ws[l]?.getD 0) = true ↔ gr lL l r < gr lL l (atL ws l) := by unfold ratherB; rw [decide_eq_true_eq]; exact Iff.rfl
  rw [e1]
  have key : 0 ≤ rkR lR r l → (wantsB (agAt lR r).likes (agAt lR r).room ws l r = true ↔ ((ws.count (r : Int) : Int) < (agAt lR r).room ∨ ∃ j, j < ws.length ∧ atL ws j = r ∧ rkR lR r l < rkR lR r j)) := by
    intro hk
    unfold wantsB
    rw [Bool.or_eq_true, decide_eq_true_eq]
    have gl : griefI (agAt lR r).likes l = rkR lR r l := grief_in (by omega) hk
    unfold ratherB
    rw [decide_eq_true_eq, gl]
    rcases worst_spec (agAt lR r).likes ws r ws.length with ⟨w1, w2⟩ | ⟨m, w1, w2, w3, w4⟩
    · have hc : (ws.count (r : Int) : Int) < (agAt lR r).room := by
        have : ws.count (r : Int) = 0 := by
          rw [count_cP]
          have := cP_mono (P := isAt ws (r : Int)) (Q := fun _ => false) ws.length (fun j hj hp => absurd (of_decide_eq_true hp) (w2 j hj))
          have h0 : ∀ n, cP (fun _ => false) n = 0 := by
            intro n
            induction n with
            | zero => rfl
            | succ n ih => rw [cP, ih]; rfl
          rw [h0] at this
          omega
        omega
      exact ⟨fun _ => Or.inl hc, fun _ => Or.inl hc⟩
    · have hmL : m < lL.length := by omega
      have hkm := (hlike m r hmL w3).2
      have gm : griefI (agAt lR r).likes (worstTo (agAt lR r).likes ws r ws.length) = rkR lR r m := by rw [w2]; exact grief_in (by omega) hkm
      rw [gm]
      constructor
      · rintro (h | h)
        · exact Or.inl h
        · exact Or.inr ⟨m, w1, w3, h⟩
      · rintro (h | ⟨j, hj, hjr, h⟩)
        · exact Or.inl h
        · refine Or.inr ?_
          have := w4 j hj hjr
          unfold rkR at h ⊢
          omega
  constructor
  · rintro ⟨⟨h1, h2⟩, h3, h4⟩
    exact ⟨h1, h2, h3, (key h2).1 h4⟩
  · rintro ⟨h1, h2, h3, h4⟩
    exact ⟨⟨h1, h2⟩, h3, (key h2).2 h4⟩
theorem with_cnt {lL lR : List Ag} {ws : List Int} (h : mayBeE lL lR ws = 0) {r : Nat} (hr : r < lR.length) : (ws.count (r : Int) : Int) ≤ (agAt lR r).room := by
  unfold mayBeE at h
  by_cases c : ws.length = lL.length
  · rw [if_pos c] at h
    unfold outE at h
    by_cases c2 : (firstFrom (outP lR.length ws) ws.length 0).isSome = true
    · rw [if_pos c2] at h; omega
    · rw [if_neg c2] at h
      unfold overE at h
      by_cases c3 : (firstFrom (overP lR ws) lR.length 0).isSome = true
      · rw [if_pos c3] at h; omega
      · have := firstFrom_none (isSome_none c3) hr
        unfold overP at this
        have := of_decide_eq_false this
        omega
  · rw [if_neg c] at h; omega
/-- WHAT THE ANSWERS CALL STABLE IS STABLE. -/
theorem stab_iff {lL lR : List Ag} (hm : matchE lL lR = 0) {ws : List Int} : stabB lL lR ws = true ↔ Stab lL lR ws := by
  constructor
  · intro h
    unfold stabB at h
    rw [Bool.and_eq_true, Bool.and_eq_true, decide_eq_true_eq, opt_isNone, opt_isNone] at h
    obtain ⟨h1, h2, h3⟩ := h
    have hb := (with_match h1).2
    obtain ⟨hlen, hrng⟩ := mayBe_ok hb
    have hlk : ∀ l r : Nat, l < lL.length → atL ws l = r → 0 ≤ rkL lL l r ∧ 0 ≤ rkR lR r l := fun l r hl e => by
      have e' : ws[l]?.getD 0 = r := e
      have := unw_none h2 (k := l) (by omega) (by rw [e']; omega)
      rw [e', Int.toNat_natCast] at this
      exact like_iff.1 this
    refine ⟨hlen, fun l hl => hrng l (by omega), fun r hr => with_cnt hb hr, hlk, fun l r hl hr hbl => ?_⟩
    have h4 := (bad_iff hlen hlk (room_right (match_may hm) hr)).2 hbl
    rw [bad_would_all hm hb h2 l hl r hr, two_none h3 hl hr] at h4
    cases h4
  · intro h
    have hg : Good lL lR ws := ⟨by rw [h.len]; exact Nat.le_refl _, fun l hl => h.rng l (by rw [← h.len]; exact hl), h.cnt, fun l r hl e => like_iff.2 (h.like l r (by rw [← h.len]; exact hl) e)⟩
    rw [hg.leaf hm h.len]
    unfold calmB
    rw [opt_isNone]
    refine none_two fun l hl r hr => ?_
    cases hq : badB lL lR ws l r with
    | false => rfl
    | true => exact absurd ((bad_iff h.len h.like (room_right (match_may hm) hr)).1 hq) (h.calm l r hl hr)
theorem doc_mem {lL lR : List Ag} : ∀ f pre ws, ws ∈ docF lL lR f pre → stabB lL lR ws = true := by
  intro f
  induction f with
  | zero =>
    intro pre ws h
    rw [docF] at h
    split at h
    · rw [List.mem_singleton] at h; subst h; assumption
    · cases h
  | succ f ih =>
    intro pre ws h
    rw [docF, List.mem_append, List.mem_flatMap] at h
    rcases h with h | ⟨r, _, h⟩
    · exact ih _ ws h
    · split at h
      · exact ih _ ws h
      · cases h
theorem doc_all {lL lR : List Ag} (hm : matchE lL lR = 0) {ws : List Int} (h : Stab lL lR ws) : ∀ f k, k + f = lL.length → ws ∈ docF lL lR f (ws.take k) := by
  intro f
  induction f with
  | zero =>
    intro k hk
    rw [docF, List.take_of_length_le (by rw [h.len]; omega), if_pos ((stab_iff hm).2 h)]
    simp
  | succ f ih =>
    intro k hk
    have hkl : k < ws.length := by rw [h.len]; omega
    have hlen : (ws.take k).length = k := by simp; omega
    have hnext := ih (k + 1) (by omega)
    rw [take_snoc ws hkl] at hnext
    rw [docF, List.mem_append, List.mem_flatMap]
    rcases Int.lt_or_eq_of_le (h.rng k (by omega)).1 with p | q
    · obtain ⟨s, hs⟩ : ∃ s : Nat, atL ws k = s := ⟨(atL ws k).toNat, by omega⟩
      have hs' : ws[k]?.getD 0 = (s : Int) := hs
      refine Or.inr ⟨s, List.mem_range.2 (by have := (h.rng k (by omega)).2; omega), ?_⟩
      rw [hlen, if_pos (like_iff.2 (h.like k s (by omega) hs)), ← hs']
      exact hnext
    · have q' : ws[k]?.getD 0 = -1 := q.symm
      rw [q'] at hnext
      exact Or.inl hnext
end Go.Proofs.Ytodbnjainpjkcaa
