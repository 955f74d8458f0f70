import Derived.WalkKit
namespace Go.Proofs.Ytihmbfapbkddeaa
/-- Where an exchange stands: what each has got (-2: it is still there), how much room is left. -/
structure Ex where
  got : Nat → Int
  left : Nat → Int
theorem Ex.eq {S T : Ex} (h1 : ∀ i, S.got i = T.got i) (h2 : ∀ s, S.left s = T.left s) : S = T := by
  cases S; cases T
  simp only [Ex.mk.injEq]
  exact ⟨funext h1, funext h2⟩
/-- The first of a list of which p is true; -1. -/
def fst (p : Nat → Prop) [DecidablePred p] : List Int → Int
  | [] => -1
  | x :: r => if p x.toNat then x else fst p r
theorem fst_keep {p q : Nat → Prop} [DecidablePred p] [DecidablePred q] {l : List Int} (hpq : ∀ x ∈ l, q x.toNat → p x.toNat) (h : fst p l = -1 ∨ q (fst p l).toNat) (hn : ∀ x ∈ l, 0 ≤ x) : fst q l = fst p l := by
  induction l with
  | nil => rfl
  | cons x r ih =>
    have hx := hn x (by simp)
    unfold fst at h ⊢
    by_cases c : p x.toNat
    · rw [if_pos c] at h ⊢
      rcases h with h | h
      · omega
      · rw [if_pos h]
    · rw [if_neg c] at h ⊢
      rw [if_neg (fun hq => c (hpq x (by simp) hq))]
      exact ih (fun y hy => hpq y (by simp [hy])) h (fun y hy => hn y (by simp [hy]))
theorem fst_spec {p : Nat → Prop} [DecidablePred p] {l : List Int} : fst p l = -1 ∨ (fst p l ∈ l ∧ p (fst p l).toNat) := by
  induction l with
  | nil => exact .inl rfl
  | cons x r ih =>
    unfold fst
    by_cases c : p x.toNat
    · rw [if_pos c]; exact .inr ⟨by simp, c⟩
    · rw [if_neg c]
      rcases ih with h | ⟨h1, h2⟩
      · exact .inl h
      · exact .inr ⟨by simp [h1], h2⟩
theorem fst_none {p : Nat → Prop} [DecidablePred p] {l : List Int} (hn : ∀ x ∈ l, 0 ≤ x) (h : fst p l = -1) : ∀ x ∈ l, ¬ p x.toNat := by
  induction l with
  | nil => intro x hx; cases hx
  | cons y r ih =>
    unfold fst at h
    by_cases c : p y.toNat
    · rw [if_pos c] at h; have := hn y (by simp); omega
    · rw [if_neg c] at h
      intro x hx
      rcases List.mem_cons.1 hx with rfl | hx
      · exact c
      · exact ih (fun z hz => hn z (by simp [hz])) h x hx
section
variable (n : Nat) (wi fi : Nat → List Int)
/-- The best that is left; whom a thing points at; whom one comes to. -/
def Bx (S : Ex) (i : Nat) : Int := fst (fun s => 0 < S.left s) (wi i)
def Px (S : Ex) (s : Int) : Int := fst (fun k => S.got k = -2) (fi s.toNat)
def Nx (S : Ex) (i : Nat) : Nat := (Px fi S (Bx wi S i)).toNat
def Live (S : Ex) (i : Nat) : Prop := i < n ∧ S.got i = -2 ∧ 0 ≤ Bx wi S i
def itx (S : Ex) : Nat → Nat → Nat
  | 0, i => i
  | q + 1, i => itx S q (Nx wi fi S i)
/-- One comes back to oneself. -/
def Cyc (S : Ex) (i : Nat) : Prop := (∃ p, 0 < p ∧ itx wi fi S p i = i) ∧ ∀ q, Live n wi S (itx wi fi S q i)
def Nil (S : Ex) (i : Nat) : Prop := i < n ∧ S.got i = -2 ∧ Bx wi S i = -1
def Own (S : Ex) (X : Nat → Prop) : Prop := ∀ i, X i → Nil n wi S i ∨ Cyc n wi fi S i
def Ok (S : Ex) (X : Nat → Prop) : Prop := ∀ i, X i → Nil n wi S i ∨ (Cyc n wi fi S i ∧ X (Nx wi fi S i))
def Do (S : Ex) (X : Nat → Prop) (T : Ex) : Prop :=
  (∀ i, X i → T.got i = Bx wi S i) ∧ (∀ i, ¬ X i → T.got i = S.got i) ∧
  (∀ s : Nat, (∃ i, X i ∧ Bx wi S i = s) → T.left s = S.left s - 1) ∧ (∀ s : Nat, ¬ (∃ i, X i ∧ Bx wi S i = s) → T.left s = S.left s)
end
section
variable {n : Nat} {wi fi : Nat → List Int}
theorem Ok.own {S : Ex} {X : Nat → Prop} (h : Ok n wi fi S X) : Own n wi fi S X := fun i hi => (h i hi).elim .inl (fun h => .inr h.1)
theorem itx_add (S : Ex) : ∀ p q i, itx wi fi S (p + q) i = itx wi fi S p (itx wi fi S q i) := by
  intro p q
  induction q with
  | zero => intro i; rfl
  | succ q ih => intro i; show itx wi fi S (p + q) (Nx wi fi S i) = _; rw [ih]; rfl
theorem itx_back (S : Ex) {p i : Nat} (h : itx wi fi S p i = i) : ∀ k, itx wi fi S (k * p) i = i := by
  intro k
  induction k with
  | zero => rw [Nat.zero_mul]; rfl
  | succ k ih => rw [Nat.succ_mul, itx_add, h, ih]
theorem Cyc.step {S : Ex} {i : Nat} (h : Cyc n wi fi S i) : Cyc n wi fi S (Nx wi fi S i) := by
  obtain ⟨⟨p, hp, e⟩, hl⟩ := h
  refine ⟨⟨p, hp, ?_⟩, fun q => hl (q + 1)⟩
  have h1 : itx wi fi S (p + 1) i = Nx wi fi S i := by
    rw [Nat.add_comm, itx_add, e]; rfl
  exact h1
theorem Cyc.inj {S : Ex} {i j : Nat} (hi : Cyc n wi fi S i) (hj : Cyc n wi fi S j) (e : Nx wi fi S i = Nx wi fi S j) : i = j := by
  obtain ⟨⟨p, hp, ep⟩, _⟩ := hi
  obtain ⟨⟨q, hq, eq⟩, _⟩ := hj
  have h1 := itx_back S ep q
  have h2 := itx_back S eq p
  obtain ⟨m, hm⟩ : ∃ m, q * p = m + 1 := ⟨q * p - 1, by have := Nat.mul_pos hq hp; omega⟩
  rw [hm] at h1
  rw [Nat.mul_comm, hm] at h2
  rw [← h1, ← h2]
  show itx wi fi S m (Nx wi fi S i) = itx wi fi S m (Nx wi fi S j)
  rw [e]
theorem Cyc.best {S : Ex} {i j : Nat} (hi : Cyc n wi fi S i) (hj : Cyc n wi fi S j) (e : Bx wi S i = Bx wi S j) : i = j :=
  hi.inj hj (by unfold Nx; rw [e])
theorem Ok.itx {S : Ex} {X : Nat → Prop} (h : Ok n wi fi S X) : ∀ q i, X i → Cyc n wi fi S i → X (itx wi fi S q i) := by
  intro q
  induction q with
  | zero => intro i hi _; exact hi
  | succ q ih =>
    intro i hi hc
    rcases h i hi with h0 | ⟨_, h1⟩
    · have h1 : 0 ≤ Bx wi S i := (hc.2 0).2.2
      have h2 := h0.2.2
      omega
    · exact ih _ h1 hc.step
theorem left_le {S T : Ex} {X : Nat → Prop} (hd : Do wi S X T) (s : Nat) : T.left s ≤ S.left s := by
  by_cases c : ∃ i, X i ∧ Bx wi S i = s
  · rw [hd.2.2.1 s c]; omega
  · rw [hd.2.2.2 s c]; omega
theorem best_keep (hw : ∀ i, ∀ x ∈ wi i, 0 ≤ x) {S T : Ex} {X : Nat → Prop} (ho : Own n wi fi S X) (hd : Do wi S X T) {k : Nat} (hk : Cyc n wi fi S k) (hX : ¬ X k) : Bx wi T k = Bx wi S k := by
  refine fst_keep (fun x _ h => by have := left_le hd x.toNat; omega) (.inr ?_) (hw k)
  have h0 : 0 ≤ Bx wi S k := (hk.2 0).2.2
  have hl : 0 < S.left (Bx wi S k).toNat := by
    rcases fst_spec (p := fun s => 0 < S.left s) (l := wi k) with h | h
    · unfold Bx at h0; omega
    · exact h.2
  show 0 < T.left (Bx wi S k).toNat
  rw [hd.2.2.2 _ ?_]
  · exact hl
  · rintro ⟨i, hi, e⟩
    rcases ho i hi with h | h
    · have := h.2.2; omega
    · exact hX (by rw [← h.best hk (by rw [e]; omega)]; exact hi)
theorem nil_keep (hw : ∀ i, ∀ x ∈ wi i, 0 ≤ x) {S T : Ex} {X : Nat → Prop} (hd : Do wi S X T) {k : Nat} (hk : Nil n wi S k) (hX : ¬ X k) : Nil n wi T k := by
  refine ⟨hk.1, by rw [hd.2.1 k hX]; exact hk.2.1, ?_⟩
  have h1 := fst_none (p := fun s => 0 < S.left s) (hw k) hk.2.2
  rcases fst_spec (p := fun s => 0 < T.left s) (l := wi k) with h | ⟨h2, h3⟩
  · exact h
  · exact absurd (show 0 < S.left _ by have := left_le hd (fst (fun s => 0 < T.left s) (wi k)).toNat; omega) (h1 _ h2)
theorem next_keep (hw : ∀ i, ∀ x ∈ wi i, 0 ≤ x) (hf : ∀ i, ∀ x ∈ fi i, 0 ≤ x) {S T : Ex} {X : Nat → Prop} (ho : Ok n wi fi S X) (hd : Do wi S X T) {k : Nat} (hk : Cyc n wi fi S k) (hX : ¬ X k) : Nx wi fi T k = Nx wi fi S k ∧ ¬ X (Nx wi fi S k) := by
  have hN : ¬ X (Nx wi fi S k) := by
    intro h
    obtain ⟨⟨p, hp, e⟩, _⟩ := hk
    obtain ⟨m, rfl⟩ : ∃ m, p = m + 1 := ⟨p - 1, by omega⟩
    have := ho.itx m _ h (Cyc.step ⟨⟨m + 1, hp, e⟩, by assumption⟩)
    rw [show itx wi fi S m (Nx wi fi S k) = k from e] at this
    exact hX this
  refine ⟨?_, hN⟩
  have hb := best_keep hw ho.own hd hk hX
  unfold Nx
  rw [hb]
  congr 1
  refine fst_keep (fun x _ h => ?_) ?_ (hf _)
  · by_cases c : X x.toNat
    · rcases ho _ c with g | g
      · exact g.2.1
      · exact (g.1.2 0).2.1
    · rw [hd.2.1 _ c] at h; exact h
  · refine .inr ?_
    have hl := hk.step.2 0
    show T.got (Nx wi fi S k) = -2
    rw [hd.2.1 _ hN]
    exact hl.2.1
theorem cyc_keep (hw : ∀ i, ∀ x ∈ wi i, 0 ≤ x) (hf : ∀ i, ∀ x ∈ fi i, 0 ≤ x) {S T : Ex} {X : Nat → Prop} (ho : Ok n wi fi S X) (hd : Do wi S X T) {k : Nat} (hk : Cyc n wi fi S k) (hX : ¬ X k) : Cyc n wi fi T k := by
  have go : ∀ q k, Cyc n wi fi S k → ¬ X k → itx wi fi T q k = itx wi fi S q k ∧ Cyc n wi fi S (itx wi fi S q k) ∧ ¬ X (itx wi fi S q k) := by
    intro q
    induction q with
    | zero => intro k h1 h2; exact ⟨rfl, h1, h2⟩
    | succ q ih =>
      intro k h1 h2
      obtain ⟨e, hx⟩ := next_keep hw hf ho hd h1 h2
      have := ih _ h1.step hx
      refine ⟨?_, this.2⟩
      show itx wi fi T q (Nx wi fi T k) = _
      rw [e]
      exact this.1
  obtain ⟨⟨p, hp, e⟩, _⟩ := hk
  have hk : Cyc n wi fi S k := ⟨⟨p, hp, e⟩, by assumption⟩
  refine ⟨⟨p, hp, by rw [(go p k hk hX).1, e]⟩, fun q => ?_⟩
  obtain ⟨e1, h1, h2⟩ := go q k hk hX
  rw [e1]
  have hl := h1.2 0
  exact ⟨hl.1, by rw [hd.2.1 _ h2]; exact hl.2.1, by have := best_keep hw ho.own hd h1 h2; have := hl.2.2; simp only [itx] at *; omega⟩
theorem ok_rest (hw : ∀ i, ∀ x ∈ wi i, 0 ≤ x) (hf : ∀ i, ∀ x ∈ fi i, 0 ≤ x) {S T : Ex} {X Y : Nat → Prop} (ho : Ok n wi fi S X) (hd : Do wi S X T) (hy : Ok n wi fi S Y) : Ok n wi fi T (fun i => Y i ∧ ¬ X i) := by
  rintro i ⟨h1, h2⟩
  rcases hy i h1 with h | ⟨h, h3⟩
  · exact .inl (nil_keep hw hd h h2)
  · obtain ⟨e, hx⟩ := next_keep hw hf ho hd h h2
    exact .inr ⟨cyc_keep hw hf ho hd h h2, by rw [e]; exact ⟨h3, hx⟩⟩
/-- To go one after the other is to go at once. -/
theorem do_both (hw : ∀ i, ∀ x ∈ wi i, 0 ≤ x) {S T U : Ex} {X Y : Nat → Prop} (ho : Own n wi fi S X) (hy : Own n wi fi S Y) (hd : Do wi S X T) (he : Do wi T (fun i => Y i ∧ ¬ X i) U) : Do wi S (fun i => X i ∨ Y i) U := by
  have hb : ∀ i, Y i → ¬ X i → Bx wi T i = Bx wi S i := fun i h1 h2 => by
    rcases hy i h1 with h | h
    · rw [(nil_keep hw hd h h2).2.2, h.2.2]
    · exact best_keep hw ho hd h h2
  refine ⟨fun i hi => ?_, fun i hi => ?_, fun s hs => ?_, fun s hs => ?_⟩
  · by_cases c : X i
    · rw [he.2.1 i (fun h => h.2 c), hd.1 i c]
    · rcases hi with h | h
      · exact absurd h c
      · rw [he.1 i ⟨h, c⟩, hb i h c]
  · rw [he.2.1 i (fun h => hi (.inr h.1)), hd.2.1 i (fun h => hi (.inl h))]
  · by_cases c : ∃ i, X i ∧ Bx wi S i = s
    · rw [he.2.2.2 s ?_, hd.2.2.1 s c]
      rintro ⟨j, ⟨h1, h2⟩, e⟩
      rw [hb j h1 h2] at e
      obtain ⟨i, hi, e'⟩ := c
      rcases ho i hi with h | h
      · have := h.2.2; omega
      · rcases hy j h1 with g | g
        · have := g.2.2; omega
        · exact h2 (by rw [← h.best g (by rw [e, e'])]; exact hi)
    · obtain ⟨j, h1, e⟩ := hs
      have hj : Y j ∧ ¬ X j := by
        rcases h1 with h | h
        · exact absurd ⟨j, h, e⟩ c
        · exact ⟨h, fun hx => c ⟨j, hx, e⟩⟩
      rw [he.2.2.1 s ⟨j, hj, by rw [hb j hj.1 hj.2]; exact e⟩, hd.2.2.2 s c]
  · rw [he.2.2.2 s ?_, hd.2.2.2 s (fun ⟨i, h1, h2⟩ => hs ⟨i, .inl h1, h2⟩)]
    rintro ⟨j, ⟨h1, h2⟩, e⟩
    rw [hb j h1 h2] at e
    exact hs ⟨j, .inr h1, e⟩
theorem do_same {S T U : Ex} {X Y : Nat → Prop} (hd : Do wi S X T) (he : Do wi S Y U) (hXY : ∀ i, X i ↔ Y i) : T = U := by
  refine Ex.eq (fun i => ?_) (fun s => ?_)
  · by_cases c : X i
    · rw [hd.1 i c, he.1 i ((hXY i).1 c)]
    · rw [hd.2.1 i c, he.2.1 i (fun h => c ((hXY i).2 h))]
  · by_cases c : ∃ i, X i ∧ Bx wi S i = s
    · rw [hd.2.2.1 s c, he.2.2.1 s (by obtain ⟨i, h1, h2⟩ := c; exact ⟨i, (hXY i).1 h1, h2⟩)]
    · rw [hd.2.2.2 s c, he.2.2.2 s (by rintro ⟨i, h1, h2⟩; exact c ⟨i, (hXY i).2 h1, h2⟩)]
theorem do_some (S : Ex) (X : Nat → Prop) : ∃ T, Do wi S X T := by
  classical
  refine ⟨⟨fun i => if X i then Bx wi S i else S.got i, fun s => if ∃ i, X i ∧ Bx wi S i = s then S.left s - 1 else S.left s⟩, fun i h => if_pos h, fun i h => if_neg h, fun s h => if_pos h, fun s h => if_neg h⟩
end
section
variable (n : Nat) (wi fi : Nat → List Int)
/-- What can be come to, by so many moves. -/
def Reach : Nat → Ex → Ex → Prop
  | 0, S, T => S = T
  | k + 1, S, T => ∃ X S1, Ok n wi fi S X ∧ Do wi S X S1 ∧ Reach k S1 T
def Done (S : Ex) : Prop := ∀ i, i < n → S.got i ≠ -2
end
section
variable {n : Nat} {wi fi : Nat → List Int}
theorem done_stays {S T : Ex} {X : Nat → Prop} (h : Done n S) (ho : Ok n wi fi S X) (hd : Do wi S X T) : T = S := by
  have hX : ∀ i, ¬ X i := fun i hi => by
    rcases ho i hi with g | g
    · exact h i g.1 g.2.1
    · exact h i (g.1.2 0).1 (g.1.2 0).2.1
  exact Ex.eq (fun i => hd.2.1 i (hX i)) (fun s => hd.2.2.2 s (fun ⟨i, h1, _⟩ => hX i h1))
theorem reach_on (hw : ∀ i, ∀ x ∈ wi i, 0 ≤ x) (hf : ∀ i, ∀ x ∈ fi i, 0 ≤ x) : ∀ k (S T S1 : Ex) (X : Nat → Prop), Reach n wi fi k S T → Done n T → Ok n wi fi S X → Do wi S X S1 → Reach n wi fi k S1 T := by
  intro k
  induction k with
  | zero =>
    intro S T S1 X h hT ho hd
    have h' : S = T := h
    subst h'
    exact done_stays hT ho hd
  | succ k ih =>
    intro S T S1 X h hT ho hd
    obtain ⟨Y, S0, hy, he, hr⟩ := h
    obtain ⟨U, hU⟩ := do_some (wi := wi) S0 (fun i => X i ∧ ¬ Y i)
    obtain ⟨V, hV⟩ := do_some (wi := wi) S1 (fun i => Y i ∧ ¬ X i)
    have e : V = U := do_same (do_both hw ho.own hy.own hd hV) (do_both hw hy.own ho.own he hU) (fun i => or_comm)
    exact ⟨_, V, ok_rest hw hf ho hd hy, hV, by rw [e]; exact ih S0 T U _ hr hT (ok_rest hw hf hy he ho) hU⟩
theorem reach_done : ∀ k (S T : Ex), Done n S → Reach n wi fi k S T → T = S := by
  intro k
  induction k with
  | zero => intro S T _ h; exact (show S = T from h).symm
  | succ k ih =>
    intro S T hS h
    obtain ⟨X, S1, ho, hd, hr⟩ := h
    have e := done_stays hS ho hd
    subst e
    exact ih _ _ hS hr
/-- Whatever way rings go, all come to the same end. -/
theorem reach_one (hw : ∀ i, ∀ x ∈ wi i, 0 ≤ x) (hf : ∀ i, ∀ x ∈ fi i, 0 ≤ x) : ∀ l k (S T U : Ex), Reach n wi fi k S T → Done n T → Reach n wi fi l S U → Done n U → T = U := by
  intro l
  induction l with
  | zero =>
    intro k S T U h1 hT h2 hU
    have e : S = U := h2
    subst e
    exact reach_done k S T hU h1
  | succ l ih =>
    intro k S T U h1 hT h2 hU
    obtain ⟨X, S1, ho, hd, hr⟩ := h2
    exact ih k S1 T U (reach_on hw hf k S T S1 X h1 hT ho hd) hT hr hU
theorem reach_add : ∀ k l (S T U : Ex), Reach n wi fi k S T → Reach n wi fi l T U → Reach n wi fi (k + l) S U := by
  intro k
  induction k with
  | zero => intro l S T U h1 h2; have e : S = T := h1; subst e; rw [Nat.zero_add]; exact h2
  | succ k ih =>
    intro l S T U h1 h2
    obtain ⟨X, S1, ho, hd, hr⟩ := h1
    rw [Nat.succ_add]
    exact ⟨X, S1, ho, hd, ih l S1 T U hr h2⟩
end
/-- No more numbers below n than n. -/
theorem len_le : ∀ (n : Nat) (l : List Nat), l.Nodup → (∀ x ∈ l, x < n) → l.length ≤ n := by
  intro n
  induction n with
  | zero =>
    intro l _ h
    cases l with
    | nil => simp
    | cons x r => exact absurd (h x (by simp)) (by omega)
  | succ n ih =>
    intro l hn h
    have h1 := ih (l.erase n) (hn.erase n) (fun x hx => by
      have h2 : x ∈ l := List.mem_of_mem_erase hx
      have h3 : x ≠ n := fun e => by subst e; exact (List.Nodup.mem_erase_iff hn).1 hx |>.1 rfl
      have := h x h2
      omega)
    by_cases c : n ∈ l
    · rw [List.length_erase_of_mem c] at h1; omega
    · rw [List.erase_of_not_mem c] at h1; omega
end Go.Proofs.Ytihmbfapbkddeaa
