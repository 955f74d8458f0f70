namespace Go.Proofs.Ytbcchbhchfdbiaa
/-- A tree: of each node its kids, which lie behind it, whose it is, and what all get there. -/
structure PT where
  N : Nat
  kids : Nat → List Nat
  pl : Nat → Nat
  pay : Nat → Nat → Int
  later : ∀ a, a < N → ∀ k ∈ kids a, a < k ∧ k < N
/-- What all get by choices. -/
def Sett (T : PT) (c : Nat → Nat) (f : Nat → Nat → Int) : Prop := ∀ a, a < T.N → (T.kids a = [] → f a = T.pay a) ∧ (T.kids a ≠ [] → ∃ k, (T.kids a)[c a]? = some k ∧ f a = f k)
/-- The place of the first kid from which one gets the most. -/
def Most (ks : List Nat) (f : Nat → Nat → Int) (who m : Nat) : Prop := ∃ k, ks[m]? = some k ∧ (∀ x ∈ ks, f x who ≤ f k who) ∧ ∀ j x, j < m → ks[j]? = some x → f x who < f k who
theorem Most.uniq {ks : List Nat} {f : Nat → Nat → Int} {who m m' : Nat} (h : Most ks f who m) (h' : Most ks f who m') : m = m' := by
  obtain ⟨k, a1, a2, a3⟩ := h
  obtain ⟨k', b1, b2, b3⟩ := h'
  rcases Nat.lt_trichotomy m m' with q | q | q
  · have := b3 m k q a1
    have := a2 k' (List.mem_of_getElem? b1)
    omega
  · exact q
  · have := a3 m' k' q b1
    have := b2 k (List.mem_of_getElem? a1)
    omega
theorem from_end {N : Nat} {P : Nat → Prop} (h : ∀ a, a < N → (∀ b, a < b → b < N → P b) → P a) : ∀ a, a < N → P a := by
  have : ∀ d a, a < N → N - a = d → P a := by
    intro d
    induction d using Nat.strongRecOn with
    | _ d ih => exact fun a ha hd => h a ha (fun b hb hbN => ih (N - b) (by omega) b hbN rfl)
  exact fun a ha => this _ a ha rfl
/-- What comes of choices is one. -/
theorem Sett.uniq {T : PT} {c : Nat → Nat} {f g : Nat → Nat → Int} (hf : Sett T c f) (hg : Sett T c g) : ∀ a, a < T.N → f a = g a := by
  refine from_end fun a ha ih => ?_
  by_cases e : T.kids a = []
  · rw [(hf a ha).1 e, (hg a ha).1 e]
  · obtain ⟨k, k1, k2⟩ := (hf a ha).2 e
    obtain ⟨k', k3, k4⟩ := (hg a ha).2 e
    rw [k1] at k3
    cases k3
    have hm := T.later a ha k (List.mem_of_getElem? k1)
    rw [k2, k4, ih k hm.1 hm.2]
/-- Choices that are best for one, the others' being as they are. -/
def Bett (T : PT) (c : Nat → Nat) (who : Nat) (c' : Nat → Nat) (h : Nat → Nat → Int) : Prop :=
  Sett T c' h ∧ ∀ a, a < T.N → T.kids a ≠ [] → (T.pl a = who → Most (T.kids a) h who (c' a)) ∧ (T.pl a ≠ who → c' a = c a)
section
variable {T : PT} {c c' : Nat → Nat} {f h : Nat → Nat → Int} {who : Nat}
theorem Bett.ge (hf : Sett T c f) (hb : Bett T c who c' h) : ∀ a, a < T.N → f a who ≤ h a who := by
  refine from_end fun a ha ih => ?_
  by_cases e : T.kids a = []
  · rw [(hf a ha).1 e, (hb.1 a ha).1 e]; exact Int.le_refl _
  · obtain ⟨k, k1, k2⟩ := (hf a ha).2 e
    obtain ⟨k', k3, k4⟩ := (hb.1 a ha).2 e
    have hm := T.later a ha k (List.mem_of_getElem? k1)
    have hk := ih k hm.1 hm.2
    rw [k2, k4]
    by_cases p : T.pl a = who
    · obtain ⟨m, m1, m2, -⟩ := (hb.2 a ha e).1 p
      rw [k3] at m1
      cases m1
      have := m2 k (List.mem_of_getElem? k1)
      omega
    · rw [(hb.2 a ha e).2 p, k1] at k3
      cases k3
      exact hk
/-- Nobody gets more by choosing otherwise at one node alone. -/
def Sing (T : PT) (f : Nat → Nat → Int) : Prop := ∀ a, a < T.N → ∀ k ∈ T.kids a, f k (T.pl a) ≤ f a (T.pl a)
/-- ONE NODE AT A TIME IS ENOUGH. -/
theorem sing_le (hf : Sett T c f) (hb : Bett T c who c' h) (hs : Sing T f) : ∀ a, a < T.N → h a who ≤ f a who := by
  refine from_end fun a ha ih => ?_
  by_cases e : T.kids a = []
  · rw [(hf a ha).1 e, (hb.1 a ha).1 e]; exact Int.le_refl _
  · obtain ⟨k, k1, k2⟩ := (hf a ha).2 e
    obtain ⟨k', k3, k4⟩ := (hb.1 a ha).2 e
    have hm := T.later a ha k' (List.mem_of_getElem? k3)
    have hk := ih k' hm.1 hm.2
    rw [k4]
    by_cases p : T.pl a = who
    · have := hs a ha k' (List.mem_of_getElem? k3)
      rw [p] at this
      omega
    · rw [(hb.2 a ha e).2 p, k1] at k3
      cases k3
      rw [k2]; exact hk
theorem le_sing (hf : Sett T c f) (hall : ∀ who, ∃ c' h, Bett T c who c' h ∧ ∀ a, a < T.N → h a who ≤ f a who) : Sing T f := fun a ha k hk => by
  obtain ⟨c', h, hb, hle⟩ := hall (T.pl a)
  have hm := T.later a ha k hk
  have e : T.kids a ≠ [] := fun q => by rw [q] at hk; cases hk
  have g1 := hb.ge hf k hm.2
  obtain ⟨k', k3, k4⟩ := (hb.1 a ha).2 e
  obtain ⟨m, m1, m2, -⟩ := (hb.2 a ha e).1 rfl
  rw [k3] at m1
  cases m1
  have g2 := m2 k hk
  have g3 := hle a ha
  rw [k4] at g3
  omega
/-- What is chosen from the end back is best at each node. -/
theorem back_sing (hf : Sett T c f) (hb : ∀ a, a < T.N → T.kids a ≠ [] → Most (T.kids a) f (T.pl a) (c a)) : Sing T f := fun a ha k hk => by
  have e : T.kids a ≠ [] := fun q => by rw [q] at hk; cases hk
  obtain ⟨k', k3, k4⟩ := (hf a ha).2 e
  obtain ⟨m, m1, m2, -⟩ := hb a ha e
  rw [k3] at m1
  cases m1
  rw [k4]; exact m2 k hk
end
end Go.Proofs.Ytbcchbhchfdbiaa
