import Derived.Test.YtcannknicfnkdaaA
namespace Go.Proofs.Ytcannknicfnkdaa
open Go.RowKit
/-- Is a road in a set? -/
def bt (x : Int) (e : Nat) : Nat := x.toNat / 2 ^ e % 2
theorem bt_le (x : Int) (e : Nat) : bt x e ≤ 1 := by unfold bt; omega
/-- The set of roads that a player's choice is. -/
def cv (C : List Sl) (i : Nat) (k : Int) : Int := nth (slAt C i).ints k.toNat
def co (K : List Sl) (e k : Nat) : Int := nth (slAt K e).ints k
/-- How many of the first players take a road. -/
def us (C : List Sl) (p : List Int) (e : Nat) : Nat → Nat
  | 0 => 0
  | i + 1 => us C p e i + bt (cv C i (nth p i)) e
theorem us_le (C : List Sl) (p : List Int) (e : Nat) : ∀ n, us C p e n ≤ n
  | 0 => Nat.le_refl _
  | n + 1 => by have := us_le C p e n; have := bt_le (cv C n (nth p n)) e; unfold us; omega
theorem us_ge (C : List Sl) (p : List Int) (e i : Nat) : ∀ n, i < n → bt (cv C i (nth p i)) e ≤ us C p e n
  | 0, h => absurd h (Nat.not_lt_zero _)
  | n + 1, h => by
    unfold us
    by_cases hi : i = n
    · subst hi; omega
    · have := us_ge C p e i n (by omega); omega
theorem us_same (C : List Sl) (p q : List Int) (e : Nat) : ∀ n, (∀ j, j < n → nth p j = nth q j) → us C p e n = us C q e n
  | 0, _ => rfl
  | n + 1, h => by unfold us; rw [us_same C p q e n (fun j hj => h j (by omega)), h n (by omega)]
theorem us_but (C : List Sl) (p q : List Int) (e i : Nat) : ∀ n, i < n → (∀ j, j < n → j ≠ i → nth p j = nth q j) → us C p e n + bt (cv C i (nth q i)) e = us C q e n + bt (cv C i (nth p i)) e
  | 0, h, _ => absurd h (Nat.not_lt_zero _)
  | n + 1, h, hs => by
    unfold us
    by_cases hi : i = n
    · subst hi
      rw [us_same C p q e i (fun j hj => hs j (by omega) (by omega))]
      omega
    · have := us_but C p q e i n (by omega) (fun j hj => hs j (by omega))
      rw [hs n (by omega) (by omega)]
      omega
/-- What a road costs the first ones, together. -/
def sm (K : List Sl) (e : Nat) : Nat → Int
  | 0 => 0
  | k + 1 => sm K e k + co K e k
/-- What the first roads cost a player. -/
def cs (C K : List Sl) (n : Nat) (p : List Int) (i : Nat) : Nat → Int
  | 0 => 0
  | e + 1 => cs C K n p i e + if bt (cv C i (nth p i)) e = 1 then co K e (us C p e n - 1) else 0
def hg (C K : List Sl) (n : Nat) (p : List Int) : Nat → Int
  | 0 => 0
  | e + 1 => hg C K n p e + sm K e (us C p e n)
theorem sm_but (K : List Sl) (e a b : Nat) (hb : b ≤ a) (h1 : b ≤ 1) : sm K e a - (if b = 1 then co K e (a - 1) else 0) = sm K e (a - b) := by
  by_cases h : b = 1
  · subst h
    rw [if_pos rfl]
    obtain ⟨a', rfl⟩ : ∃ a', a = a' + 1 := ⟨a - 1, by omega⟩
    show sm K e a' + co K e a' - co K e (a' + 1 - 1) = sm K e (a' + 1 - 1)
    rw [Nat.add_sub_cancel]
    omega
  · obtain rfl : b = 0 := by omega
    rw [if_neg (by decide)]
    simp
/-- ROSENTHAL: when one changes its choice, the height changes by just as much as its cost. -/
theorem rosenthal (C K : List Sl) (n : Nat) (p q : List Int) (i : Nat) (hi : i < n) (hs : ∀ j, j < n → j ≠ i → nth p j = nth q j) : ∀ m, hg C K n q m - hg C K n p m = cs C K n q i m - cs C K n p i m
  | 0 => rfl
  | e + 1 => by
    have ih := rosenthal C K n p q i hi hs e
    have h1 := sm_but K e (us C p e n) (bt (cv C i (nth p i)) e) (us_ge C p e i n hi) (bt_le _ _)
    have h2 := sm_but K e (us C q e n) (bt (cv C i (nth q i)) e) (us_ge C q e i n hi) (bt_le _ _)
    have h3 := us_but C p q e i n hi hs
    have h4 := us_ge C p e i n hi
    have h5 := us_ge C q e i n hi
    rw [show us C p e n - bt (cv C i (nth p i)) e = us C q e n - bt (cv C i (nth q i)) e by omega] at h1
    unfold hg cs
    omega
def OkK (n m : Nat) (K : List Sl) : Prop := ∀ e, e < m → ∀ k, k < n → -999 ≤ co K e k ∧ co K e k ≤ 999
theorem sm_bd {n m : Nat} {K : List Sl} (h : OkK n m K) (e : Nat) (he : e < m) : ∀ k, k ≤ n → -999 * (k : Int) ≤ sm K e k ∧ sm K e k ≤ 999 * (k : Int)
  | 0, _ => by unfold sm; omega
  | k + 1, hk => by
    have := sm_bd h e he k (by omega)
    have := h e he k (by omega)
    unfold sm
    omega
theorem hg_bd {C : List Sl} {n m : Nat} {K : List Sl} (h : OkK n m K) (p : List Int) (hn : n ≤ 5) : ∀ e, e ≤ m → -4995 * (e : Int) ≤ hg C K n p e ∧ hg C K n p e ≤ 4995 * (e : Int)
  | 0, _ => by unfold hg; omega
  | e + 1, he => by
    have := hg_bd h p hn e (by omega) (C := C)
    have h2 := us_le C p e n
    have := sm_bd h e (by omega) (us C p e n) h2
    unfold hg
    omega
theorem cs_bd {C : List Sl} {n m : Nat} {K : List Sl} (h : OkK n m K) (p : List Int) (i : Nat) (hi : i < n) : ∀ e, e ≤ m → -999 * (e : Int) ≤ cs C K n p i e ∧ cs C K n p i e ≤ 999 * (e : Int)
  | 0, _ => by unfold cs; omega
  | e + 1, he => by
    have := cs_bd h p i hi e (by omega) (C := C)
    unfold cs
    split
    · have h2 := us_le C p e n
      have := h e (by omega) (us C p e n - 1) (by omega)
      omega
    · omega
theorem nth_set {p : List Int} {i j : Nat} {x : Int} (hi : i < p.length) : nth (p.set i x) j = if j = i then x else nth p j := by
  unfold nth
  rw [List.getElem?_set]
  by_cases h : i = j
  · subst h; simp [hi]
  · rw [if_neg h, if_neg (fun e => h e.symm)]
/-- The first best of some, if it is better than what one has. -/
def bs (f : Nat → Int) (b l : Int) : Nat → Int × Int
  | 0 => (b, l)
  | j + 1 => if f j < (bs f b l j).2 then ((j : Int), f j) else bs f b l j
theorem bs_two (f : Nat → Int) (b l : Int) : ∀ j, (bs f b l j).2 = (bs f (-1) l j).2 ∧ (bs f b l j).2 ≤ l ∧ (∀ k, k < j → (bs f b l j).2 ≤ f k) ∧ (((bs f b l j).1 = b ∧ (bs f (-1) l j).1 = -1 ∧ (bs f b l j).2 = l) ∨ (∃ k : Nat, k < j ∧ (bs f b l j).1 = k ∧ (bs f (-1) l j).1 = k ∧ f k = (bs f b l j).2 ∧ f k < l))
  | 0 => ⟨rfl, Int.le_refl _, fun k hk => absurd hk (Nat.not_lt_zero _), Or.inl ⟨rfl, rfl, rfl⟩⟩
  | j + 1 => by
    obtain ⟨h1, h2, h3, h4⟩ := bs_two f b l j
    unfold bs
    rw [← h1]
    by_cases h : f j < (bs f b l j).2
    · rw [if_pos h, if_pos h]
      refine ⟨rfl, by show f j ≤ l; omega, fun k hk => ?_, Or.inr ⟨j, by omega, rfl, rfl, rfl, by omega⟩⟩
      show f j ≤ f k
      by_cases e : k = j
      · subst e; exact Int.le_refl _
      · have := h3 k (by omega); omega
    · rw [if_neg h, if_neg h]
      refine ⟨h1, h2, fun k hk => ?_, ?_⟩
      · by_cases e : k = j
        · subst e; omega
        · exact h3 k (by omega)
      · rcases h4 with h4 | ⟨k, k1, k2⟩
        · exact Or.inl h4
        · exact Or.inr ⟨k, by omega, k2⟩
/-- The choice that a player would change to; -1: none. -/
def mvB (C K : List Sl) (n m : Nat) (p : List Int) (i : Nat) : Int := (bs (fun k => cs C K n (p.set i k) i m) (-1) (cs C K n p i m) (slAt C i).ln).1
/-- The first player that changes, and where all are then. -/
def nxF (g : Nat → Int) (p : List Int) : Nat → Nat → Option (List Int)
  | 0, _ => none
  | d + 1, i => if 0 ≤ g i then some (p.set i (g i)) else nxF g p d (i + 1)
def nx (C K : List Sl) (n m : Nat) (p : List Int) : Option (List Int) := nxF (mvB C K n m p) p n 0
theorem nxF_yes {g : Nat → Int} {p : List Int} {n i : Nat} (hi : i < n) (h : 0 ≤ g i) : nxF g p (n - i) i = some (p.set i (g i)) := by
  obtain ⟨d, hd⟩ : ∃ d, n - i = d + 1 := ⟨n - i - 1, by omega⟩
  rw [hd]; unfold nxF; rw [if_pos h]
theorem nxF_no {g : Nat → Int} {p : List Int} {n i : Nat} (hi : i < n) (h : ¬ 0 ≤ g i) : nxF g p (n - i) i = nxF g p (n - (i + 1)) (i + 1) := by
  obtain ⟨d, hd⟩ : ∃ d, n - i = d + 1 := ⟨n - i - 1, by omega⟩
  rw [hd, show n - (i + 1) = d by omega]
  conv => lhs; unfold nxF
  rw [if_neg h]
theorem nxF_end {g : Nat → Int} {p : List Int} {n i : Nat} (hi : ¬ i < n) : nxF g p (n - i) i = none := by
  rw [show n - i = 0 by omega]; rfl
theorem nxF_spec {g : Nat → Int} {p q : List Int} : ∀ (d i : Nat), nxF g p d i = some q → ∃ j, i ≤ j ∧ j < i + d ∧ 0 ≤ g j ∧ q = p.set j (g j)
  | 0, _, h => by cases h
  | d + 1, i, h => by
    unfold nxF at h
    by_cases hg : 0 ≤ g i
    · rw [if_pos hg] at h
      cases h
      exact ⟨i, Nat.le_refl _, by omega, hg, rfl⟩
    · rw [if_neg hg] at h
      obtain ⟨j, a, b, c⟩ := nxF_spec d (i + 1) h
      exact ⟨j, by omega, by omega, c⟩
theorem nxF_none {g : Nat → Int} {p : List Int} : ∀ (d i : Nat), nxF g p d i = none → ∀ j, i ≤ j → j < i + d → ¬ 0 ≤ g j
  | 0, _, _, j, h1, h2 => by omega
  | d + 1, i, h, j, h1, h2 => by
    unfold nxF at h
    by_cases hg : 0 ≤ g i
    · rw [if_pos hg] at h; cases h
    · rw [if_neg hg] at h
      by_cases e : j = i
      · rw [e]; exact hg
      · exact nxF_none d (i + 1) h j (by omega) (by omega)
/-- All are somewhere where they may be. -/
def OkP (C : List Sl) (n : Nat) (p : List Int) : Prop := p.length = n ∧ ∀ i, i < n → 0 ≤ nth p i ∧ nth p i < (slAt C i).ln
theorem OkP.set {C : List Sl} {n : Nat} {p : List Int} (h : OkP C n p) {i : Nat} (hi : i < n) {x : Int} (h0 : 0 ≤ x) (h1 : x < (slAt C i).ln) : OkP C n (p.set i x) := by
  refine ⟨by rw [List.length_set]; exact h.1, fun j hj => ?_⟩
  rw [nth_set (by rw [h.1]; exact hi)]
  split
  · next e => subst e; exact ⟨h0, h1⟩
  · exact h.2 j hj
theorem nx_ok {C K : List Sl} {n m : Nat} {p q : List Int} (h : OkP C n p) (e : nx C K n m p = some q) : OkP C n q ∧ hg C K n q m < hg C K n p m := by
  obtain ⟨j, _, hj, h0, rfl⟩ := nxF_spec n 0 e
  have hj' : j < n := by omega
  have hb := (bs_two (fun k => cs C K n (p.set j k) j m) (-1) (cs C K n p j m) (slAt C j).ln).2.2.2
  rcases hb with ⟨b1, _⟩ | ⟨k, k1, k2, _, k3, k4⟩
  · exfalso
    unfold mvB at h0
    rw [b1] at h0
    omega
  · have ek : mvB C K n m p j = k := k2
    rw [ek]
    refine ⟨h.set hj' (by omega) (by omega), ?_⟩
    have hr := rosenthal C K n p (p.set j k) j hj' (fun i hi hne => by rw [nth_set (by rw [h.1]; exact hj'), if_neg hne]) m
    have k4' : cs C K n (p.set j k) j m < cs C K n p j m := k4
    omega
theorem nx_none {C K : List Sl} {n m : Nat} {p : List Int} (e : nx C K n m p = none) {i : Nat} (hi : i < n) {k : Nat} (hk : k < (slAt C i).ln) : cs C K n p i m ≤ cs C K n (p.set i k) i m := by
  have h0 := nxF_none n 0 e i (Nat.zero_le _) (by omega)
  have hb := bs_two (fun k => cs C K n (p.set i k) i m) (-1) (cs C K n p i m) (slAt C i).ln
  rcases hb.2.2.2 with ⟨_, _, b3⟩ | ⟨k', _, k2, _⟩
  · have := hb.2.2.1 k hk
    rw [b3] at this
    exact this
  · exfalso
    exact h0 (by show 0 ≤ (bs _ _ _ _).1; rw [k2]; omega)
/-- What is gone through. -/
def it (C K : List Sl) (n m : Nat) (p : List Int) : Nat → Option (List Int)
  | 0 => some p
  | t + 1 => (it C K n m p t).bind (nx C K n m)
def Path (C K : List Sl) (n m : Nat) (p : List Int) (L : List (List Int)) : Prop := ∀ j, j < L.length → it C K n m p j = some (L[j]?.getD [])
theorem Path.one (C K : List Sl) (n m : Nat) (p : List Int) : Path C K n m p [p] := fun j hj => by
  obtain rfl : j = 0 := by simp at hj; omega
  rfl
theorem Path.next {C K : List Sl} {n m : Nat} {p q r : List Int} {L : List (List Int)} (h : Path C K n m p (L ++ [q])) (e : nx C K n m q = some r) : Path C K n m p ((L ++ [q]) ++ [r]) := fun j hj => by
  by_cases hl : j < (L ++ [q]).length
  · rw [List.getElem?_append_left hl]
    exact h j hl
  · have hj2 : j = L.length + 1 := by simp at hj hl; omega
    subst hj2
    have h1 := h L.length (by simp)
    simp at h1
    unfold it
    rw [h1]
    simp [e]
theorem Path.ok {C K : List Sl} {n m : Nat} {p : List Int} (hp : OkP C n p) : ∀ (j : Nat) (q : List Int), it C K n m p j = some q → OkP C n q ∧ hg C K n q m + j ≤ hg C K n p m
  | 0, q, h => by cases h; exact ⟨hp, by omega⟩
  | j + 1, q, h => by
    unfold it at h
    cases hi : it C K n m p j with
    | none => rw [hi] at h; cases h
    | some r =>
      rw [hi] at h
      have h2 := Path.ok hp j r hi
      have h3 := nx_ok h2.1 (show nx C K n m r = some q from h)
      exact ⟨h3.1, by omega⟩
theorem Path.len {C K : List Sl} {n m : Nat} {p : List Int} {L : List (List Int)} (hp : OkP C n p) (hK : OkK n m K) (hn : n ≤ 5) (hm : m ≤ 6) (h : Path C K n m p L) : L.length ≤ 60000 := by
  by_cases h0 : L.length = 0
  · omega
  · have h1 := Path.ok hp (L.length - 1) _ (h (L.length - 1) (by omega))
    have h2 := hg_bd (C := C) hK p hn m (Nat.le_refl _)
    have h3 := hg_bd (C := C) hK (L[L.length - 1]?.getD []) hn m (Nat.le_refl _)
    have := h1.2
    omega
theorem Path.uniq {C K : List Sl} {n m : Nat} {p q r : List Int} {L M : List (List Int)} (h : Path C K n m p (L ++ [q])) (g : Path C K n m p (M ++ [r])) (e : nx C K n m q = none) (f : nx C K n m r = none) : L ++ [q] = M ++ [r] := by
  have key : ∀ (L M : List (List Int)) (q r : List Int), Path C K n m p (L ++ [q]) → Path C K n m p (M ++ [r]) → nx C K n m q = none → ¬ L.length < M.length := by
    intro L M q r h g e hlt
    have h1 := h L.length (by simp)
    have h2 := g (L.length + 1) (by simp; omega)
    simp at h1
    unfold it at h2
    rw [h1] at h2
    rw [show (some q).bind (nx C K n m) = nx C K n m q from rfl, e] at h2
    cases h2
  have k1 := key L M q r h g e
  have k2 := key M L r q g h f
  have hl : (L ++ [q]).length = (M ++ [r]).length := by simp; omega
  apply List.ext_getElem? 
  intro j
  by_cases hj : j < (L ++ [q]).length
  · have a := h j hj
    have b := g j (by omega)
    rw [a] at b
    rw [List.getElem?_eq_getElem hj, List.getElem?_eq_getElem (by omega)] at *
    simp at b
    rw [b]
  · rw [List.getElem?_eq_none (by omega), List.getElem?_eq_none (by omega)]
end Go.Proofs.Ytcannknicfnkdaa
