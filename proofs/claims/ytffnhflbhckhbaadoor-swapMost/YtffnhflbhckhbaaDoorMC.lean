import Derived.Test.YtffnhflbhckhbaaDoorMB
namespace Go.Proofs.YtffnhflbhckhbaaDoor
open Go.RowKit Go.Shelf
/-- Where Most stands: who is used, what was chosen, and that it is the best. -/
structure MI (s : Sw) (v : Int) (u : Nat) (R Q : List (List Int)) : Prop where
  ult : u < 2 ^ s.n
  pl : Plan s (fun _ => False) (R ++ Q)
  ub : ∀ x ∈ (R ++ Q).flatten, Ub u x
  rr : ∀ c ∈ R, isRow s c = false
  qq : ∀ c ∈ Q, isRow s c = true
  opt : ∃ vu, Opt s (Ub u) vu ∧ total s (R ++ Q) + vu = v
theorem MI.start {s : Sw} {v : Int} (h : Opt s (Ub 0) v) : MI s v 0 [] [] :=
  ⟨Nat.two_pow_pos _, plan_nil _, fun x hx => (by cases hx), fun c hc => (by cases hc), fun c hc => (by cases hc), v, h, by simp [total]⟩
theorem plan_len {s : Sw} {P : List (List Int)} (h : Plan s (fun _ => False) P) : 2 * P.length ≤ s.n ∧ ∀ c ∈ P, c.length ≤ s.n := by
  have hl := nodup_len8 (n := s.n) h.nd (fun x hx => by
    obtain ⟨c, hc, hxc⟩ := List.mem_flatten.1 hx
    exact (h.line c hc).rng x hxc)
  have key : ∀ P : List (List Int), (∀ c ∈ P, 2 ≤ c.length) → 2 * P.length ≤ P.flatten.length ∧ ∀ c ∈ P, c.length ≤ P.flatten.length := by
    intro P
    induction P with
    | nil => intro _; exact ⟨Nat.le_refl _, fun c hc => (by cases hc)⟩
    | cons d P ih =>
      intro hP
      obtain ⟨i1, i2⟩ := ih fun c hc => hP c (List.mem_cons_of_mem _ hc)
      have := hP d List.mem_cons_self
      rw [List.flatten_cons, List.length_append, List.length_cons]
      refine ⟨by omega, fun c hc => ?_⟩
      rcases List.mem_cons.1 hc with rfl | hc
      · omega
      · have := i2 c hc; omega
  obtain ⟨k1, k2⟩ := key P fun c hc => (h.line c hc).two
  exact ⟨by omega, fun c hc => Nat.le_trans (k2 c hc) hl⟩
theorem ub_mono {u u' : Nat} (h : ∀ j, u.testBit j = true → u'.testBit j = true) {x : Int} (hx : Ub u x) : Ub u' x := h _ hx
theorem or_mono (u k j : Nat) (h : u.testBit j = true) : (u ||| k).testBit j = true := by rw [Nat.testBit_or, h]; rfl
theorem MI.skip {s : Sw} {v : Int} {u : Nat} {R Q : List (List Int)} {g : Int} {u' : Nat} (h : MI s v u R Q) (hg : Opt s (Ub u) g) (hG : Good s u [] g u') : MI s v u' R Q ∧ u' = u ||| 2 ^ lowB u := by
  obtain ⟨h1, v', h2, h3⟩ := hG
  rcases h3 with ⟨-, rfl, rfl⟩ | ⟨h3, -⟩
  · obtain ⟨vu, o1, o2⟩ := h.opt
    refine ⟨⟨h1, h.pl, fun x hx => or_mono _ _ _ (h.ub x hx), h.rr, h.qq, _, h2, ?_⟩, rfl⟩
    rw [← o1.uniq hg]
    exact o2
  · have := h3.two
    cases this
theorem perm_mid (R Q : List (List Int)) (c : List Int) : (c :: (R ++ Q)).Perm (R ++ (Q ++ [c])) := by
  rw [← List.append_assoc]
  exact (List.perm_append_comm (l₁ := [c]) (l₂ := R ++ Q))
theorem perm_mid2 (R Q : List (List Int)) (c : List Int) : (c :: (R ++ Q)).Perm (R ++ [c] ++ Q) := by
  rw [List.append_assoc]
  exact List.perm_middle.symm
theorem MI.put {s : Sw} (hn : s.n ≤ 8) {v : Int} {u : Nat} {R Q R' Q' : List (List Int)} {c : List Int} {g : Int} {u' : Nat} (h : MI s v u R Q) (hg : Opt s (Ub u) g) (hG : Good s u c g u') (hc : c ≠ []) (hp : (c :: (R ++ Q)).Perm (R' ++ Q')) (hr : ∀ c ∈ R', isRow s c = false) (hq : ∀ c ∈ Q', isRow s c = true) : MI s v u' R' Q' ∧ ∀ j, (u ||| 2 ^ lowB u).testBit j = true → u'.testBit j = true := by
  obtain ⟨h1, v', h2, h3⟩ := hG
  rcases h3 with ⟨h3, -⟩ | ⟨l1, l2, l3, l4, rfl, l6⟩
  · exact absurd h3 hc
  · obtain ⟨vu, o1, o2⟩ := h.opt
    have h8 : Eight c := fun x hx => by
      have := l1.rng x hx
      omega
    have hset : ∀ x : Int, 0 ≤ x → (Ub (u ||| setN c) x ↔ Ub u x ∨ x ∈ c) := fun x hx => set_bit u c h8 x hx
    have hpl : Plan s (fun _ => False) (c :: (R ++ Q)) := by
      refine plan_cons.2 ⟨l1, l2, fun _ _ h => h, h.pl.line, h.pl.nd, fun x hx hh => ?_⟩
      rcases hh with hh | hh
      · exact hh
      · have a1 := h.ub x hx
        unfold Ub at a1
        rw [l4 x hh] at a1
        cases a1
    refine ⟨⟨h1, plan_perm hp hpl, fun x hx => ?_, hr, hq, v', h2, ?_⟩, fun j hj => ?_⟩
    · have hx' : x ∈ (c :: (R ++ Q)).flatten := (List.Perm.flatten hp).mem_iff.2 hx
      rw [List.flatten_cons] at hx'
      rcases List.mem_append.1 hx' with hx' | hx'
      · exact (hset x (l1.rng x hx').1).2 (.inr hx')
      · exact or_mono _ _ _ (h.ub x hx')
    · rw [← total_perm hp, total_cons]
      have := o1.uniq hg
      omega
    · rw [Nat.testBit_or, Bool.or_eq_true] at hj ⊢
      rcases hj with hj | hj
      · exact .inl hj
      · right
        have e : lowB u = j := by
          rw [Nat.testBit_two_pow] at hj
          exact of_decide_eq_true hj
        have h0 : 0 < c.length := by have := l1.two; omega
        have := (set_bit 0 c h8 (lowB u : Int) (by omega)).2 (.inr (by rw [← l3]; exact getD_mem h0))
        unfold Ub at this
        rw [Nat.zero_or, Int.toNat_natCast, e] at this
        exact this
theorem MI.fin {s : Sw} (hn : s.n ≤ 8) {v : Int} {R Q : List (List Int)} (h : MI s v (2 ^ s.n - 1) R Q) : total s (R ++ Q) = v := by
  obtain ⟨vu, o1, o2⟩ := h.opt
  have : Opt s (Ub (2 ^ s.n - 1)) 0 := opt_full fun x h0 hx => full_bits _ hn _ (by omega)
  have := o1.uniq this
  omega
theorem free_next {n u u' : Nat} (hn : n ≤ 8) (hu : u < 2 ^ n) (hne : u ≠ 2 ^ n - 1) (h : ∀ j, (u ||| 2 ^ lowB u).testBit j = true → u'.testBit j = true) : freeN n u' < freeN n u := by
  have ha := low_lt n hn u hu hne
  exact Nat.lt_of_le_of_lt (free_sub n h) (free_step ha ((low_spec u (pow_lt hn hu)).1 (by omega)))
end Go.Proofs.YtffnhflbhckhbaaDoor
