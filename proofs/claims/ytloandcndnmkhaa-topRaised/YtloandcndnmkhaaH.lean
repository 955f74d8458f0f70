import Derived.Test.YtloandcndnmkhaaF
namespace Go.Proofs.Ytloandcndnmkhaa
section
variable {p : Nat → Nat → Int}
theorem fw_step (k x y : Nat) (h : x ≠ y) : fw p (k + 1) x y = max (fw p k x y) (min (fw p k x k) (fw p k k y)) := by rw [fw, if_neg h]; rfl
theorem fw_tri (h0 : ∀ x y, 0 ≤ p x y) : ∀ k z x y, z < k → x ≠ y → min (fw p k x z) (fw p k z y) ≤ fw p k x y := by
  intro k
  induction k with
  | zero => intro z x y hz; omega
  | succ k ih =>
    intro z x y hz hxy
    have P := fw_pos h0
    by_cases e : z = k
    · subst e
      rw [fw_col h0, fw_row h0, fw_step z x y hxy]
      omega
    · have hz' : z < k := by omega
      have hp := P (k + 1) x y
      by_cases exz : x = z
      · subst exz
        rw [fw_diag (k + 1) x]
        omega
      by_cases ezy : z = y
      · subst ezy
        rw [fw_diag (k + 1) z]
        omega
      rw [fw_step k x y hxy, fw_step k x z exz, fw_step k z y ezy]
      have t1 := ih z x y hz' hxy
      have p1 := P k x y
      have p2 := P k x k
      have p3 := P k k y
      by_cases exk : x = k
      · subst exk
        rw [fw_diag x x]
        have t3 : x ≠ y → min (fw p x x z) (fw p x z y) ≤ fw p x x y := ih z x y hz'
        have := P x x z
        have := P x z y
        omega
      by_cases eyk : y = k
      · subst eyk
        rw [fw_diag y y]
        have t2 := ih z x y hz' exk
        have := P y x z
        have := P y z y
        omega
      have t2 := ih z x k hz' exk
      have t3 := ih z k y hz' (Ne.symm eyk)
      omega
theorem fw_mono (k x y : Nat) : st0 p x y ≤ fw p k x y := by
  induction k with
  | zero => exact Int.le_refl _
  | succ k ih =>
    by_cases c : x = y
    · rw [fw, if_pos c]; exact ih
    · rw [fw_step k x y c]; omega
/-- A walk of so many steps, each at least s strong, over things below n. -/
def Walk (p : Nat → Nat → Int) (n : Nat) (s : Int) : Nat → Nat → Nat → Prop
  | 0, x, y => x = y
  | m + 1, x, y => ∃ z, z < n ∧ s ≤ st0 p x z ∧ Walk p n s m z y
theorem Walk.add {n : Nat} {s : Int} : ∀ {m q x y z : Nat}, Walk p n s m x y → Walk p n s q y z → Walk p n s (m + q) x z := by
  intro m
  induction m with
  | zero => intro q x y z h1 h2; have e : x = y := h1; subst e; rw [Nat.zero_add]; exact h2
  | succ m ih =>
    intro q x y z ⟨u, h1, h2, h3⟩ h4
    rw [Nat.succ_add]
    exact ⟨u, h1, h2, ih h3 h4⟩
theorem fw_walk {n : Nat} {s : Int} (hs : 0 < s) : ∀ k x y, k ≤ n → y < n → s ≤ fw p k x y → ∃ m, Walk p n s m x y := by
  intro k
  induction k with
  | zero => intro x y _ hy h; exact ⟨1, y, hy, h, rfl⟩
  | succ k ih =>
    intro x y hk hy h
    by_cases c : x = y
    · subst c; rw [fw_diag] at h; omega
    · rw [fw_step k x y c] at h
      by_cases c2 : s ≤ fw p k x y
      · exact ih x y (by omega) hy c2
      · obtain ⟨a, ha⟩ := ih x k (by omega) (by omega) (by omega)
        obtain ⟨b, hb⟩ := ih k y (by omega) hy (by omega)
        exact ⟨a + b, ha.add hb⟩
theorem st0_pos {s : Int} {x y : Nat} (hs : 0 < s) (h : s ≤ st0 p x y) : x ≠ y ∧ p y x < p x y ∧ s ≤ p x y := by
  unfold st0 at h
  by_cases c : p y x < p x y
  · rw [if_pos c] at h
    exact ⟨fun e => by subst e; omega, c, h⟩
  · rw [if_neg c] at h; omega
theorem st0_of {s : Int} {x y : Nat} (h1 : p y x < p x y) (h2 : s ≤ p x y) : s ≤ st0 p x y := by unfold st0; rw [if_pos h1]; exact h2
end
/-- To be ranked higher never drives one out. -/
theorem raised {p q : Nat → Nat → Int} {n x : Nat} (hp : ∀ i j, 0 ≤ p i j) (hq : ∀ i j, 0 ≤ q i j) (hx : x < n)
    (h1 : ∀ y, y < n → p x y ≤ q x y) (h2 : ∀ y, y < n → q y x ≤ p y x) (h3 : ∀ i j, i < n → j < n → i ≠ x → j ≠ x → q i j = p i j)
    (hs : ∀ j, j < n → fw p n j x ≤ fw p n x j) : ∀ j, j < n → fw q n j x ≤ fw q n x j := by
  intro j hj
  by_cases e : j = x
  · subst e; exact Int.le_refl _
  have hE : ∀ {s : Int} {u z : Nat}, 0 < s → u < n → z < n → z ≠ x → s ≤ st0 p u z → s ≤ st0 q u z := by
    intro s u z hs hu hz hzx h
    obtain ⟨a1, a2, a3⟩ := st0_pos hs h
    by_cases c : u = x
    · subst c
      have b1 := h1 z hz
      have b2 := h2 z hz
      exact st0_of (by omega) (by omega)
    · have b1 := h3 u z hu hz c hzx
      have b2 := h3 z u hz hu hzx c
      exact st0_of (by omega) (by omega)
  have up : fw p n x j ≤ fw q n x j := by
    by_cases hzz : fw p n x j ≤ 0
    · have := fw_pos hq n x j; omega
    obtain ⟨s, hss⟩ : ∃ s, s = fw p n x j := ⟨_, rfl⟩
    have hs0 : 0 < s := by omega
    obtain ⟨m, hm⟩ := fw_walk (p := p) (n := n) hs0 n x j (Nat.le_refl _) hj (by omega)
    have key : ∀ m u, u < n → Walk p n s m u j → u ≠ j → s ≤ fw q n u j ∨ s ≤ fw q n x j := by
      intro m
      induction m with
      | zero => intro u _ h1 h2; exact absurd h1 h2
      | succ m ih =>
        intro u hu ⟨z, hz, hE1, hW⟩ huj
        by_cases c : z = j
        · subst c
          have := hE hs0 hu hz e hE1
          have := fw_mono (p := q) n u z
          exact .inl (by omega)
        · rcases ih z hz hW c with h | h
          · by_cases c2 : z = x
            · subst c2; exact .inr h
            · have a1 := hE hs0 hu hz c2 hE1
              have a2 := fw_mono (p := q) n u z
              have a3 := fw_tri hq n z u j hz huj
              exact .inl (by omega)
          · exact .inr h
    rcases key m x hx hm (Ne.symm e) with h | h <;> omega
  have dn : fw q n j x ≤ fw p n j x := by
    by_cases hzz : fw q n j x ≤ 0
    · have := fw_pos hp n j x; omega
    obtain ⟨s, hss⟩ : ∃ s, s = fw q n j x := ⟨_, rfl⟩
    have hs0 : 0 < s := by omega
    obtain ⟨m, hm⟩ := fw_walk (p := q) (n := n) hs0 n j x (Nat.le_refl _) hx (by omega)
    have key : ∀ m u, u < n → Walk q n s m u x → u ≠ x → s ≤ fw p n u x := by
      intro m
      induction m with
      | zero => intro u _ h1 h2; exact absurd h1 h2
      | succ m ih =>
        intro u hu ⟨z, hz, hE1, hW⟩ hux
        obtain ⟨a1, a2, a3⟩ := st0_pos hs0 hE1
        by_cases c : z = x
        · subst c
          have b1 := h1 u hu
          have b2 := h2 u hu
          have := fw_mono (p := p) n u z
          have := st0_of (p := p) (s := s) (x := u) (y := z) (by omega) (by omega)
          omega
        · have b1 := h3 u z hu hz hux c
          have b2 := h3 z u hz hu c hux
          have c1 := st0_of (p := p) (s := s) (x := u) (y := z) (by omega) (by omega)
          have c2 := fw_mono (p := p) n u z
          have c3 := ih z hz hW c
          have c4 := fw_tri hp n z u x hz hux
          omega
    have := key m j hj hm e
    omega
  have := hs j hj
  omega
/-- Somebody is chosen. -/
theorem some_sch {p : Nat → Nat → Int} {n : Nat} (hp : ∀ i j, 0 ≤ p i j) : ∀ k, 0 < k → k ≤ n → ∃ x, x < k ∧ ∀ j, j < k → fw p n j x ≤ fw p n x j := by
  have tr : ∀ a b c, b < n → a < n → c < n → fw p n b a < fw p n a b → fw p n c b ≤ fw p n b c → fw p n c a ≤ fw p n a c := by
    intro a b c hb ha hc h1 h2
    by_cases e : a = c
    · subst e; exact Int.le_refl _
    have e2 : a ≠ b := fun e2 => by subst e2; omega
    by_cases e3 : b = c
    · subst e3; omega
    have t1 := fw_tri hp n b a c hb e
    have t2 := fw_tri hp n c b a hc (Ne.symm e2)
    have t3 := fw_tri hp n a c b ha (Ne.symm e3)
    omega
  intro k
  induction k with
  | zero => intro h; omega
  | succ k ih =>
    intro _ hk
    by_cases h0 : k = 0
    · subst h0; exact ⟨0, by omega, fun j hj => by have : j = 0 := by omega
                                                   subst this; exact Int.le_refl _⟩
    · obtain ⟨x, hx, hm⟩ := ih (by omega) (by omega)
      by_cases c : fw p n k x ≤ fw p n x k
      · refine ⟨x, by omega, fun j hj => ?_⟩
        by_cases e : j = k
        · rw [e]; exact c
        · exact hm j (by omega)
      · refine ⟨k, by omega, fun j hj => ?_⟩
        by_cases e : j = k
        · rw [e]; exact Int.le_refl _
        · exact tr k x j (by omega) (by omega) (by omega) (by omega) (hm j (by omega))
end Go.Proofs.Ytloandcndnmkhaa
