import Derived.Test.YtodbnjainpjkcaaZ
namespace Go.Proofs.Ytodbnjainpjkcaa
open Go.RowKit
theorem take_cases (likes : List Int) (room : Int) (ws : List Int) (l : Nat) (r : Int) (hl : l < ws.length) (ha : atL ws l = -1) :
    (takeO likes room ws l r = -1 ∧ atL (takeW likes room ws l r) l = r ∧ ∀ j, j ≠ l → atL (takeW likes room ws l r) j = atL ws j) ∨
    (∃ m : Nat, m < ws.length ∧ takeO likes room ws l r = m ∧ atL (takeW likes room ws l r) m = -1 ∧ (m = l ∨ (atL ws m = r ∧ atL (takeW likes room ws l r) l = r)) ∧ ∀ j, j ≠ l → j ≠ m → atL (takeW likes room ws l r) j = atL ws j) := by
  unfold takeO takeW
  by_cases h1 : idxFrom likes l 0 < 0
  · rw [if_pos h1, if_pos h1]
    exact Or.inr ⟨l, hl, rfl, ha, Or.inl rfl, fun j _ _ => rfl⟩
  rw [if_neg h1, if_neg h1]
  by_cases h2 : ((ws.set l r).count r : Int) ≤ room
  · rw [if_pos h2, if_pos h2]
    exact Or.inl ⟨rfl, by rw [set_at ws l r l hl, if_pos rfl], fun j hj => by rw [set_at ws l r j hl, if_neg hj]⟩
  rw [if_neg h2, if_neg h2]
  have hl2 : l < (ws.set l r).length := by rw [List.length_set]; exact hl
  rcases worst_spec likes (ws.set l r) r ws.length with ⟨_, g2⟩ | ⟨m, g1, g2, g3, _⟩
  · exact absurd (by have := set_at ws l r l hl; unfold atL at this; rw [if_pos rfl] at this; exact this) (g2 l hl)
  · have hm2 : m < (ws.set l r).length := by rw [List.length_set]; exact g1
    have g3' : atL (ws.set l r) m = r := g3
    rw [g2, Int.toNat_natCast]
    refine Or.inr ⟨m, g1, rfl, by rw [set_at _ m _ m hm2, if_pos rfl], ?_, fun j hj hjm => by rw [set_at _ m _ j hm2, if_neg hjm, set_at ws l r j hl, if_neg hj]⟩
    by_cases hml : m = l
    · exact Or.inl hml
    · refine Or.inr ⟨?_, ?_⟩
      · rw [set_at ws l r m hl, if_neg hml] at g3'; exact g3'
      · rw [set_at _ m _ l hm2, if_neg (fun e => hml e.symm), set_at ws l r l hl, if_pos rfl]
/-- Whom one asks next. -/
def askR (lL : List Ag) (asked : List Int) (who : Nat) : Int := atL (agAt lL who).likes (atL asked who).toNat
def stepW (lL lR : List Ag) (ws asked : List Int) (who : Nat) : List Int := takeW (agAt lR (askR lL asked who).toNat).likes (agAt lR (askR lL asked who).toNat).room ws who (askR lL asked who)
def stepA (asked : List Int) (who : Nat) : List Int := asked.set who (atL asked who + 1)
/-- What may come of asking, in whatever order. -/
def Asks (lL lR : List Ag) (ws asked : List Int) : Prop :=
  ∀ P : List Int → List Int → Prop, P (List.replicate lL.length (-1)) (List.replicate lL.length 0) →
    (∀ ws asked who, P ws asked → who < lL.length → atL ws who = -1 → atL asked who < (agAt lL who).likes.length → P (stepW lL lR ws asked who) (stepA asked who)) → P ws asked
theorem Asks.start (lL lR : List Ag) : Asks lL lR (List.replicate lL.length (-1)) (List.replicate lL.length 0) := fun _ h _ => h
theorem Asks.step {lL lR : List Ag} {ws asked : List Int} (h : Asks lL lR ws asked) {who : Nat} (h1 : who < lL.length) (h2 : atL ws who = -1) (h3 : atL asked who < (agAt lL who).likes.length) : Asks lL lR (stepW lL lR ws asked who) (stepA asked who) :=
  fun P p0 p1 => p1 ws asked who (h P p0 p1) h1 h2 h3
theorem Asks.lens {lL lR : List Ag} {ws asked : List Int} (h : Asks lL lR ws asked) : ws.length = lL.length ∧ asked.length = lL.length ∧ ∀ j, 0 ≤ atL asked j := by
  refine h (fun ws asked => ws.length = lL.length ∧ asked.length = lL.length ∧ ∀ j, 0 ≤ atL asked j) ⟨by simp, by simp, fun j => ?_⟩ ?_
  · unfold atL
    by_cases hj : j < lL.length
    · simp [hj]
    · simp [hj]
  · rintro ws asked who ⟨h1, h2, h3⟩ hw _ _
    refine ⟨by unfold stepW; rw [take_len]; exact h1, by unfold stepA; rw [List.length_set]; exact h2, fun j => ?_⟩
    unfold stepA
    rw [set_at asked who _ j (by omega)]
    split
    · have := h3 who; omega
    · exact h3 j
/-- Nobody who is alone has anybody to ask. -/
def Asked (lL : List Ag) (ws asked : List Int) : Prop := ∀ j, j < lL.length → atL ws j = -1 → ((agAt lL j).likes.length : Int) ≤ atL asked j
/-- How many questions are left. -/
def leftQ (lL : List Ag) (f : Nat → Int) : Nat → Nat
  | 0 => 0
  | k + 1 => leftQ lL f k + ((agAt lL k).likes.length - (f k).toNat)
theorem leftQ_same {lL : List Ag} {f g : Nat → Int} : ∀ k, (∀ j, j < k → f j = g j) → leftQ lL f k = leftQ lL g k := by
  intro k
  induction k with
  | zero => intro _; rfl
  | succ k ih => intro h; rw [leftQ, leftQ, ih (fun j hj => h j (by omega)), h k (by omega)]
theorem leftQ_less {lL : List Ag} {f g : Nat → Int} {m : Nat} : ∀ k, m < k → (∀ j, j < k → j ≠ m → g j = f j) → 0 ≤ f m → f m < (agAt lL m).likes.length → g m = f m + 1 → leftQ lL g k < leftQ lL f k := by
  intro k
  induction k with
  | zero => intro h; omega
  | succ k ih =>
    intro hm h1 h2 h3 h4
    rw [leftQ, leftQ]
    by_cases hk : m = k
    · subst hk
      rw [leftQ_same (g := f) m (fun j hj => h1 j (by omega) (by omega)), h4]
      omega
    · have := ih (by omega) (fun j hj hne => h1 j (by omega) hne) h2 h3 h4
      rw [h1 k (by omega) (by omega)]
      omega
/-- Whom the sides like is there. -/
theorem likes_range {l : List Int} {o : Int} : ∀ d k, l.length - k = d → likesFrom l o k = 0 → ∀ i, k ≤ i → i < l.length → 0 ≤ atL l i ∧ atL l i < o := by
  intro d
  induction d with
  | zero => intro k hk _ i h1 h2; omega
  | succ d ih =>
    intro k hk h i h1 h2
    rw [likesFrom_step (by omega)] at h
    by_cases c1 : l[k]?.getD 0 < 0 ∨ o ≤ l[k]?.getD 0
    · rw [if_pos c1] at h; omega
    rw [if_neg c1] at h
    by_cases c2 : 0 ≤ idxFrom (l.take k) (l[k]?.getD 0) 0
    · rw [if_pos c2] at h; omega
    rw [if_neg c2] at h
    by_cases hi : i = k
    · subst hi; unfold atL; omega
    · exact ih (k + 1) (by omega) h i (by omega) h2
theorem may_likes {all : List Ag} {nL nR : Nat} : ∀ d k, all.length - k = d → mayFrom all nL nR k = 0 → ∀ i, k ≤ i → i < all.length → likesFrom (agAt all i).likes (if i < nL then (nR : Int) else nL) 0 = 0 := by
  intro d
  induction d with
  | zero => intro k hk _ i h1 h2; omega
  | succ d ih =>
    intro k hk h i h1 h2
    rw [mayFrom_step (by omega)] at h
    by_cases hz : agE (agAt all k) (all.take k) (if k < nL then (nR : Int) else nL) = 0
    · rw [if_pos hz] at h
      by_cases hi : i = k
      · subst hi
        unfold agE at hz
        by_cases c1 : nameB (agAt all i).name = false
        · rw [if_pos c1] at hz; omega
        rw [if_neg c1] at hz
        by_cases c2 : 0 ≤ aidxFrom (all.take i) (agAt all i).name 0
        · rw [if_pos c2] at hz; omega
        rw [if_neg c2] at hz
        by_cases c3 : (agAt all i).room < 1 ∨ 4 < (agAt all i).room
        · rw [if_pos c3] at hz; omega
        rw [if_neg c3] at hz
        exact hz
      · exact ih (k + 1) (by omega) h i (by omega) h2
    · rw [if_neg hz] at h
      exact absurd h hz
theorem likes_left {lL lR : List Ag} (h : mayE lL lR = 0) {l : Nat} (hl : l < lL.length) {k : Nat} (hk : k < (agAt lL l).likes.length) : 0 ≤ atL (agAt lL l).likes k ∧ atL (agAt lL l).likes k < lR.length := by
  have h' := h
  unfold mayE at h'
  rw [if_neg (by have := may_six h; omega)] at h'
  have h2 := may_likes _ 0 rfl h' l (Nat.zero_le _) (by rw [List.length_append]; omega)
  rw [agAt_left hl, if_pos hl] at h2
  exact likes_range _ 0 rfl h2 k (Nat.zero_le _) hk
theorem likes_right {lL lR : List Ag} (h : mayE lL lR = 0) {r : Nat} (hr : r < lR.length) {k : Nat} (hk : k < (agAt lR r).likes.length) : 0 ≤ atL (agAt lR r).likes k ∧ atL (agAt lR r).likes k < lL.length := by
  have h' := h
  unfold mayE at h'
  rw [if_neg (by have := may_six h; omega)] at h'
  have h2 := may_likes _ 0 rfl h' (lL.length + r) (Nat.zero_le _) (by rw [List.length_append]; omega)
  rw [agAt_right, if_neg (by omega)] at h2
  exact likes_range _ 0 rfl h2 k (Nat.zero_le _) hk
theorem Row.far {base : Nat} {W W' : World} {g g' n : Nat} {f : Nat → Int} (h : Row base W (some ⟨g, 0, none⟩) n f) (hg : W.grownBy W' (some g')) (hne : g ≠ g') : Row base W' (some ⟨g, 0, none⟩) n f := by
  rcases h with h | ⟨q, h1, h2, h3, h4, h5⟩
  · exact .inl h
  · cases h1
    have hb : W'.heap[g]? = W.heap[g]? := hg.block g h3 (fun e => hne (Option.some.inj e))
    exact .inr ⟨g, rfl, h2, Nat.lt_of_lt_of_le h3 hg.size, fun j hj => (World.cell?_of_block (a := ⟨g, j, none⟩) hb).trans (h4 j hj), fun j hj => (World.frozen?_of_block (a := ⟨g, j, none⟩) hb).trans (h5 j hj)⟩
/-- What a cell of ints holds. -/
def intAt (W : World) (g j : Nat) : Int := match W.cell? ⟨g, j, none⟩ with
  | some (.int _ x) => x
  | _ => 0
theorem Row.intAt {base : Nat} {W : World} {g n : Nat} {f : Nat → Int} (h : Row base W (some ⟨g, 0, none⟩) n f) {j : Nat} (hj : j < n) : intAt W g j = f j := by
  rcases h with h | ⟨q, h1, h2, h3, h4, h5⟩
  · omega
  · cases h1
    unfold Ytodbnjainpjkcaa.intAt
    rw [h4 j hj]
theorem alone_at (n j : Nat) (h : j < n) : atL (List.replicate n (-1)) j = -1 := by simp [atL, h]
theorem zero_at (n j : Nat) : atL (List.replicate n 0) j = 0 := by
  unfold atL
  by_cases h : j < n <;> simp [h]
end Go.Proofs.Ytodbnjainpjkcaa
