import Derived.Test.YtodbnjainpjkcaaSS
import Derived.Test.YtodbnjainpjkcaaFT
namespace Go.Proofs.Ytodbnjainpjkcaa
open Go.RowKit
/-- The left, where one tells other likes. -/
def tell (lL : List Ag) (who : Nat) (l : List Int) : List Ag := lL.set who ⟨(agAt lL who).name, (agAt lL who).room, none, 0, 0, l⟩
theorem tell_len (lL : List Ag) (who : Nat) (l : List Int) : (tell lL who l).length = lL.length := by simp [tell]
theorem agAt_set (lL : List Ag) (who : Nat) (g : Ag) (hw : who < lL.length) (j : Nat) : agAt (lL.set who g) j = if j = who then g else agAt lL j := by
  unfold agAt
  rw [List.getElem?_set]
  by_cases e : who = j
  · subst e
    rw [if_pos rfl, if_pos hw, if_pos rfl]; rfl
  · rw [if_neg e, if_neg (fun h => e h.symm)]
theorem Fit.set {lL lR : List Ag} (h : Fit lL lR) {who : Nat} (hw : who < lL.length) {g : Ag} (hn : g.name = (agAt lL who).name) (hr : g.room = (agAt lL who).room) (hl : Likes g.likes lR.length) : Fit (lL.set who g) lR := by
  have hlen : (lL.set who g).length = lL.length := by simp
  have e : ∀ k, agAt (lL.set who g ++ lR) k = if k = who then g else agAt (lL ++ lR) k := fun k => by
    rw [← List.set_append_left who g hw]
    exact agAt_set (lL ++ lR) who g (by simp; omega) k
  have en : ∀ k, (agAt (lL.set who g ++ lR) k).name = (agAt (lL ++ lR) k).name := fun k => by
    rw [e]
    by_cases c : k = who
    · rw [if_pos c, hn, c, agAt_left hw]
    · rw [if_neg c]
  have hl2 : (lL.set who g ++ lR).length = (lL ++ lR).length := by simp
  refine ⟨by rw [hlen]; exact h.nl, h.nr, fun k hk => by rw [en]; exact h.name k (by omega), fun i j hij hj => by rw [en, en]; exact h.apart i j hij (by omega), fun k hk => ?_, fun k hk => ?_⟩
  · rw [e]
    by_cases c : k = who
    · rw [if_pos c, hr]; have := h.room who (by simp; omega); rw [agAt_left hw] at this; exact this
    · rw [if_neg c]; exact h.room k (by omega)
  · rw [e, hlen]
    by_cases c : k = who
    · rw [if_pos c, if_pos (by omega)]; exact hl
    · rw [if_neg c]; exact h.likes k (by omega)
theorem Fit.left {lL lR : List Ag} (h : Fit lL lR) {k : Nat} (hk : k < lL.length) : Likes (agAt lL k).likes lR.length := by
  have := h.likes k (by simp; omega)
  rw [agAt_left hk, if_pos hk] at this
  exact this
theorem Fit.tell {lL lR : List Ag} (h : Fit lL lR) {who : Nat} (hw : who < lL.length) {l : List Int} (hl : Likes l lR.length) : Fit (tell lL who l) lR := h.set hw rfl rfl hl
/-- The others tell the same. -/
def Same (lL lQ : List Ag) (who : Nat) : Prop := lQ.length = lL.length ∧ ∀ j, j ≠ who → (agAt lQ j).likes = (agAt lL j).likes
theorem Same.symm {lL lQ : List Ag} {who : Nat} (h : Same lL lQ who) : Same lQ lL who := ⟨h.1.symm, fun j hj => (h.2 j hj).symm⟩
theorem Same.trans {lL lM lQ : List Ag} {who : Nat} (h : Same lL lM who) (g : Same lM lQ who) : Same lL lQ who := ⟨g.1.trans h.1, fun j hj => (g.2 j hj).trans (h.2 j hj)⟩
theorem same_tell (lL : List Ag) (who : Nat) (l : List Int) (hw : who < lL.length) : Same lL (tell lL who l) who := ⟨tell_len _ _ _, fun j hj => by unfold tell; rw [agAt_set _ _ _ hw, if_neg hj]⟩
theorem tell_at (lL : List Ag) (who : Nat) (l : List Int) (hw : who < lL.length) : (agAt (tell lL who l) who).likes = l := by unfold tell; rw [agAt_set _ _ _ hw, if_pos rfl]
theorem Stab.tell {lL lQ lR : List Ag} {ws : List Int} {who : Nat} (h : Stab lL lR ws) (hs : Same lL lQ who) (hlike : ∀ r : Nat, atL ws who = r → 0 ≤ rkL lQ who r)
    (hcalm : ∀ r : Nat, r < lR.length → 0 ≤ rkL lQ who r → gr lQ who r < gr lQ who (atL ws who) → 0 ≤ rkL lL who r ∧ gr lL who r < gr lL who (atL ws who)) : Stab lQ lR ws where
  len := by rw [hs.1]; exact h.len
  rng := fun l hl => h.rng l (by rw [← hs.1]; exact hl)
  cnt := h.cnt
  like := fun l r hl he => by
    have h0 := h.like l r (by rw [← hs.1]; exact hl) he
    refine ⟨?_, h0.2⟩
    by_cases c : l = who
    · subst c; exact hlike r he
    · unfold rkL; rw [hs.2 l c]; exact h0.1
  calm := fun l r hl hr hB => by
    refine h.calm l r (by rw [← hs.1]; exact hl) hr ?_
    obtain ⟨b1, b2, b3, b4⟩ := hB
    by_cases c : l = who
    · subst c
      have := hcalm r hr b1 b3
      exact ⟨this.1, b2, this.2, b4⟩
    · unfold rkL gr at *
      rw [hs.2 l c] at b1 b3
      exact ⟨b1, b2, b3, b4⟩
theorem idx_some {l : List Int} {x : Int} (h : 0 ≤ idxFrom l x 0) : ∃ m : Nat, m < l.length ∧ atL l m = x ∧ idxFrom l x 0 = m ∧ ∀ i, i < m → ¬ atL l i = x := by
  rcases idxFrom_spec l x _ 0 rfl with ⟨e, _⟩ | ⟨m, _, hm, he, hi, hn⟩
  · rw [e] at h; omega
  · exact ⟨m, hm, he, hi, fun i hi => hn i (Nat.zero_le _) hi⟩
theorem idx_is {l : List Int} {x : Int} {m : Nat} (hm : m < l.length) (he : atL l m = x) (hn : ∀ i, i < m → ¬ atL l i = x) : idxFrom l x 0 = m := by
  rcases idxFrom_spec l x _ 0 rfl with ⟨e, ha⟩ | ⟨k, _, hk, hke, hi, hkn⟩
  · exact absurd he (ha m (Nat.zero_le _) hm)
  · have : k = m := by
      rcases Nat.lt_trichotomy k m with c | c | c
      · exact absurd hke (hn k c)
      · exact c
      · exact absurd he (hkn m (Nat.zero_le _) c)
    rw [hi, this]
theorem idx_of_take {l : List Int} {x : Int} {n : Nat} (h : 0 ≤ idxFrom (l.take n) x 0) : idxFrom l x 0 = idxFrom (l.take n) x 0 ∧ idxFrom (l.take n) x 0 < n := by
  obtain ⟨m, hm, he, hi, hn⟩ := idx_some h
  have hm2 : m < n ∧ m < l.length := by rw [List.length_take] at hm; omega
  rw [hi]
  refine ⟨idx_is hm2.2 ((take_at l hm2.1).symm.trans he) fun i hi => ?_, by omega⟩
  have := hn i hi
  rw [show atL (l.take n) i = atL l i from take_at l (by omega)] at this
  exact this
theorem idx_to_take {l : List Int} {x : Int} {n : Nat} (h : 0 ≤ idxFrom l x 0) (h2 : idxFrom l x 0 < n) : idxFrom (l.take n) x 0 = idxFrom l x 0 := by
  obtain ⟨m, hm, he, hi, hn⟩ := idx_some h
  have hmn : m < n := by omega
  rw [hi]
  refine idx_is (by simp; omega) ((take_at l hmn).trans he) fun i hi => ?_
  rw [show atL (l.take n) i = atL l i from take_at l (by omega)]
  exact hn i hi
theorem some_stab {lL lR : List Ag} (hM : mayE lL lR = 0) : ∃ ws, Stab lL lR ws := by
  obtain ⟨ws, asked, hA, hF⟩ := asks_end lL lR _ _ _ (Nat.le_refl _) (Asks.start lL lR)
  exact ⟨ws, (hA.inv hM).stab hF⟩
/-- IT PAYS TO BE HONEST. -/
theorem honest {lL lQ lR : List Ag} {a b : List Int} {who : Nat} (hF : Fit lL lR) (hs : Same lL lQ who) (hw : who < lL.length)
    (ha : ∀ m, Stab lL lR m → gr lL who (atL a who) ≤ gr lL who (atL m who)) (hb : Stab lQ lR b) {r : Nat} (hr : atL b who = r) (hk : 0 ≤ rkL lL who r) : gr lL who (atL a who) ≤ gr lL who r := by
  have hrR : r < lR.length := by have := hb.rng who (by rw [hs.1]; exact hw); omega
  obtain ⟨n, hn⟩ : ∃ n : Nat, rkL lL who r = n := ⟨(rkL lL who r).toNat, by omega⟩
  have hl0 : Likes (agAt lL who).likes lR.length := hF.left hw
  have f1 : Fit (tell lL who [(r : Int)]) lR := hF.tell hw ⟨fun i hi => by
    have : i = 0 := by simp at hi; exact hi
    subst this
    exact ⟨by simp [atL], by simp [atL]; exact hrR⟩, fun i j hij hj => by simp at hj; omega⟩
  have f2 : Fit (tell lL who ((agAt lL who).likes.take (n + 1))) lR := hF.tell hw (hl0.take _)
  have s1 := same_tell lL who [(r : Int)] hw
  have s2 := same_tell lL who ((agAt lL who).likes.take (n + 1)) hw
  have e1 := tell_at lL who [(r : Int)] hw
  have e2 := tell_at lL who ((agAt lL who).likes.take (n + 1)) hw
  obtain ⟨l1, h1⟩ : ∃ x, x = tell lL who [(r : Int)] := ⟨_, rfl⟩
  obtain ⟨l2, h2⟩ : ∃ x, x = tell lL who ((agAt lL who).likes.take (n + 1)) := ⟨_, rfl⟩
  rw [← h1] at f1 s1 e1
  rw [← h2] at f2 s2 e2
  clear h1 h2
  have one : ∀ x : Int, 0 ≤ rkL l1 who x → x = r := fun x hx => by
    unfold rkL at hx
    rw [e1] at hx
    obtain ⟨m, hm, he, _, _⟩ := idx_some hx
    have : m = 0 := by simp at hm; exact hm
    subst this
    rw [← he]; rfl
  have r1 : rkL l1 who r = 0 := by unfold rkL; rw [e1]; exact idx_is (m := 0) (by simp) rfl fun i hi => absurd hi (Nat.not_lt_zero i)
  have hb1 : Stab l1 lR b := hb.tell (hs.symm.trans s1) (fun s hes => by
    rw [hr] at hes
    obtain rfl : r = s := by omega
    rw [r1]; exact Int.le_refl _) (fun s _ hx hlt => by
    have := one s hx
    rw [this, hr] at hlt
    omega)
  obtain ⟨c, hc⟩ := some_stab f2.may
  have r2 : rkL l2 who r = n := by
    unfold rkL
    rw [e2, ← hn]
    exact idx_to_take hk (by unfold rkL at hn; omega)
  have hrange := hc.rng who (by rw [s2.1]; exact hw)
  have hne : atL c who ≠ -1 := fun hal => by
    have hc1 : Stab l1 lR c := hc.tell (s2.symm.trans s1) (fun s hes => by omega) (fun s _ hx _ => by
      rw [one s hx, hal, gr_alone, gr_in (by rw [r2]; omega)]
      exact ⟨by rw [r2]; omega, rk_lt _ _ _⟩)
    have J := jm_pick hb1 hc1
    have j1 := (J.same hb1 hc1).2 who (by rw [s1.1]; exact hw)
    have j2 := (J.symm.same hc1 hb1).2 who (by rw [s1.1]; exact hw)
    have := j1.2 (j2.1 hal)
    omega
  obtain ⟨s, hs'⟩ : ∃ s : Nat, atL c who = s := ⟨(atL c who).toNat, by omega⟩
  have k2 := (hc.like who s (by rw [s2.1]; exact hw) hs').1
  have k2' : rkL lL who s = rkL l2 who s ∧ rkL l2 who s < (n + 1 : Nat) := by
    unfold rkL at k2 ⊢
    rw [e2] at k2 ⊢
    exact idx_of_take k2
  have hcL : Stab lL lR c := hc.tell s2.symm (fun t het => by
    obtain rfl : s = t := by omega
    rw [k2'.1]; exact k2) (fun t _ hx hlt => by
    rw [hs', gr_in hx, gr_in (by rw [k2'.1]; exact k2)] at hlt
    have e : rkL l2 who t = rkL lL who t := by
      unfold rkL at hx ⊢
      rw [e2]
      exact idx_to_take hx (by unfold rkL at hlt k2'; omega)
    rw [hs', gr_in (by rw [e]; exact hx), gr_in k2, e]
    exact ⟨hx, by omega⟩)
  have hle := ha c hcL
  rw [hs', gr_in (by rw [k2'.1]; exact k2)] at hle
  rw [gr_in hk]
  omega
end Go.Proofs.Ytodbnjainpjkcaa
