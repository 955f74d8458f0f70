import Derived.Test.YtffnhflbhckhbaaDoorProg
namespace Go.Proofs.YtffnhflbhckhbaaDoor
/-- What is given: how many there are, who gives in any case, how long rounds and rows may be, whom each one's gift fits. -/
structure Sw where
  n : Nat
  gv : Int
  rd : Int
  rw : Int
  F : Int → List Int
/-- The swaps may be. -/
structure Sw.Ok (s : Sw) : Prop where
  fits : ∀ i x, x ∈ s.F i → s.gv ≤ x ∧ x < s.n ∧ x ≠ i
  gv0 : 0 ≤ s.gv
variable {s : Sw}
def hd (c : List Int) : Int := c[0]?.getD 0
def lst (c : List Int) : Int := c[c.length - 1]?.getD 0
def isRow (s : Sw) (c : List Int) : Bool := decide (hd c < s.gv)
/-- A chain may end here. -/
def mayL (s : Sw) (c : List Int) : Bool := if isRow s c = true then decide ((c.length : Int) - 1 ≤ s.rw) else (decide ((c.length : Int) ≤ s.rd) && decide (hd c ∈ s.F (lst c)))
def gift (s : Sw) (c : List Int) : Int := if isRow s c = true then (c.length : Int) - 1 else c.length
/-- Each can give to the next one. -/
def Path (s : Sw) (c : List Int) : Prop := ∀ i, i + 1 < c.length → c[i + 1]?.getD 0 ∈ s.F (c[i]?.getD 0)
structure Line (s : Sw) (c : List Int) : Prop where
  two : 2 ≤ c.length
  rng : ∀ x ∈ c, 0 ≤ x ∧ x < s.n
  path : Path s c
  may : mayL s c = true
structure Plan (s : Sw) (U : Int → Prop) (P : List (List Int)) : Prop where
  line : ∀ c ∈ P, Line s c
  nd : P.flatten.Nodup
  free : ∀ x ∈ P.flatten, ¬ U x
def total (s : Sw) (P : List (List Int)) : Int := (P.map (gift s)).sum
/-- The most gifts there can be among those that are not used. -/
def Opt (s : Sw) (U : Int → Prop) (v : Int) : Prop := (∃ P, Plan s U P ∧ total s P = v) ∧ ∀ P, Plan s U P → total s P ≤ v
theorem Opt.uniq {U : Int → Prop} {v v' : Int} (h : Opt s U v) (h' : Opt s U v') : v = v' := by
  obtain ⟨⟨P, p1, p2⟩, h1⟩ := h
  obtain ⟨⟨P', p1', p2'⟩, h1'⟩ := h'
  have := h1 P' p1'
  have := h1' P p1
  omega
theorem Plan.sub {U V : Int → Prop} {P : List (List Int)} (h : Plan s U P) (hv : ∀ x : Int, 0 ≤ x → x < s.n → V x → U x) : Plan s V P :=
  ⟨h.line, h.nd, fun x hx hV => by
    obtain ⟨c, hc, hxc⟩ := List.mem_flatten.1 hx
    obtain ⟨r1, r2⟩ := (h.line c hc).rng x hxc
    exact h.free x hx (hv x r1 r2 hV)⟩
theorem Opt.same {U V : Int → Prop} {v : Int} (h : Opt s U v) (e : ∀ x : Int, 0 ≤ x → x < s.n → (U x ↔ V x)) : Opt s V v := by
  obtain ⟨⟨P, p1, p2⟩, h1⟩ := h
  exact ⟨⟨P, p1.sub fun x a b => (e x a b).2, p2⟩, fun P hP => h1 P (hP.sub fun x a b => (e x a b).1)⟩
theorem total_cons (c : List Int) (P : List (List Int)) : total s (c :: P) = gift s c + total s P := by simp [total]
theorem plan_perm {U : Int → Prop} {P Q : List (List Int)} (hp : P.Perm Q) (h : Plan s U P) : Plan s U Q :=
  ⟨fun c hc => h.line c (hp.mem_iff.2 hc), (List.Perm.flatten hp).nodup_iff.1 h.nd, fun x hx => h.free x ((List.Perm.flatten hp).mem_iff.2 hx)⟩
theorem total_perm {P Q : List (List Int)} (hp : P.Perm Q) : total s P = total s Q := by
  unfold total
  induction hp with
  | nil => rfl
  | cons x _ ih => simp only [List.map_cons, List.sum_cons, ih]
  | swap x y l => simp only [List.map_cons, List.sum_cons]; omega
  | trans _ _ h1 h2 => exact h1.trans h2
theorem plan_nil (U : Int → Prop) : Plan s U [] := ⟨fun c hc => (by cases hc), List.nodup_nil, fun x hx => (by cases hx)⟩
theorem plan_cons {U : Int → Prop} {c : List Int} {P : List (List Int)} : Plan s U (c :: P) ↔ Line s c ∧ c.Nodup ∧ (∀ x ∈ c, ¬ U x) ∧ Plan s (fun x => U x ∨ x ∈ c) P := by
  constructor
  · intro h
    have hn := h.nd
    rw [List.flatten_cons, List.nodup_append] at hn
    refine ⟨h.line c (by simp), hn.1, fun x hx => h.free x (by simp [hx]), fun d hd => h.line d (by simp [hd]), hn.2.1, fun x hx hu => ?_⟩
    rcases hu with hu | hu
    · exact h.free x (by rw [List.flatten_cons]; exact List.mem_append_right _ hx) hu
    · exact hn.2.2 x hu x hx rfl
  · rintro ⟨h1, h2, h3, h4⟩
    refine ⟨fun d hd => ?_, ?_, fun x hx => ?_⟩
    · rcases List.mem_cons.1 hd with rfl | hd
      · exact h1
      · exact h4.line d hd
    · rw [List.flatten_cons, List.nodup_append]
      exact ⟨h2, h4.nd, fun x hx y hy e => h4.free y hy (.inr (e ▸ hx))⟩
    · rw [List.flatten_cons] at hx
      rcases List.mem_append.1 hx with hx | hx
      · exact h3 x hx
      · exact fun hu => h4.free x hx (.inl hu)
/-- All behind the first one of a chain can be given to. -/
theorem path_gv (hs : s.Ok) {c : List Int} (hp : Path s c) {i : Nat} (hi : 0 < i) (hl : i < c.length) : s.gv ≤ c[i]?.getD 0 := by
  obtain ⟨j, rfl⟩ : ∃ j, i = j + 1 := ⟨i - 1, by omega⟩
  exact (hs.fits _ _ (hp j hl)).1
/-- A round begins wherever one likes. -/
theorem rot_line (hs : s.Ok) {c : List Int} (h : Line s c) (hr : isRow s c = false) {i : Nat} (hi : i < c.length) : Line s (c.drop i ++ c.take i) ∧ isRow s (c.drop i ++ c.take i) = false := by
  have hlen : (c.drop i ++ c.take i).length = c.length := by simp; omega
  have at1 : ∀ j, j < c.length - i → (c.drop i ++ c.take i)[j]?.getD 0 = c[i + j]?.getD 0 := fun j hj => by
    rw [List.getElem?_append_left (by simp; omega), List.getElem?_drop]
  have at2 : ∀ j, c.length - i ≤ j → j < c.length → (c.drop i ++ c.take i)[j]?.getD 0 = c[j - (c.length - i)]?.getD 0 := fun j hj hj2 => by
    rw [List.getElem?_append_right (by simp; omega), List.length_drop, List.getElem?_take, if_pos (by omega)]
  have hm := h.may
  unfold mayL at hm
  rw [hr] at hm
  simp only [Bool.false_eq_true, if_false, Bool.and_eq_true, decide_eq_true_eq] at hm
  have hwrap : c[0]?.getD 0 ∈ s.F (c[c.length - 1]?.getD 0) := hm.2
  have hgc : ∀ j, j < c.length → s.gv ≤ c[j]?.getD 0 := fun j hj => by
    by_cases e : j = 0
    · subst e
      unfold isRow hd at hr
      simp at hr
      exact hr
    · exact path_gv hs h.path (by omega) hj
  have hrow : isRow s (c.drop i ++ c.take i) = false := by
    unfold isRow hd
    rw [at1 0 (by omega)]
    have := hgc i hi
    simp only [Nat.add_zero, decide_eq_false_iff_not]
    omega
  have hpath : Path s (c.drop i ++ c.take i) := fun j hj => by
    rw [hlen] at hj
    by_cases h1 : j + 1 < c.length - i
    · rw [at1 _ h1, at1 _ (by omega)]
      exact h.path (i + j) (by omega)
    · by_cases h2 : j + 1 = c.length - i
      · rw [at2 _ (by omega) hj, at1 _ (by omega)]
        rw [show j + 1 - (c.length - i) = 0 by omega, show i + j = c.length - 1 by omega]
        exact hwrap
      · rw [at2 _ (by omega) hj, at2 _ (by omega) (by omega)]
        have := h.path (j - (c.length - i)) (by omega)
        rw [show j + 1 - (c.length - i) = j - (c.length - i) + 1 by omega]
        exact this
  refine ⟨⟨by rw [hlen]; exact h.two, fun x hx => ?_, hpath, ?_⟩, hrow⟩
  · rcases List.mem_append.1 hx with q | q
    · exact h.rng x (List.mem_of_mem_drop q)
    · exact h.rng x (List.mem_of_mem_take q)
  · unfold mayL
    rw [hrow]
    simp only [Bool.false_eq_true, if_false, Bool.and_eq_true, decide_eq_true_eq]
    refine ⟨by rw [hlen]; exact hm.1, ?_⟩
    unfold hd lst
    rw [hlen, at1 0 (by omega)]
    by_cases e : i = 0
    · subst e
      rw [at1 _ (by omega), Nat.zero_add, Nat.zero_add]
      exact hwrap
    · rw [at2 _ (by omega) (by omega)]
      have := h.path (i - 1) (by omega)
      rw [show i - 1 + 1 = i by omega] at this
      rw [show c.length - 1 - (c.length - i) = i - 1 by omega, Nat.add_zero]
      exact this
/-- THE STEP: who comes first among those that are free is left out, or begins a chain. -/
theorem opt_step (hs : s.Ok) {U : Int → Prop} {a : Int} (ha0 : 0 ≤ a) (han : a < s.n) (haU : ¬ U a) (hleast : ∀ x, 0 ≤ x → x < a → U x) {v0 best : Int} (h0 : Opt s (fun x => U x ∨ x = a) v0)
    (hge0 : v0 ≤ best) (hge : ∀ c, Line s c → hd c = a → c.Nodup → (∀ x ∈ c, ¬ U x) → ∃ v, Opt s (fun x => U x ∨ x ∈ c) v ∧ gift s c + v ≤ best)
    (hach : best = v0 ∨ ∃ c v, Line s c ∧ c.Nodup ∧ (∀ x ∈ c, ¬ U x) ∧ Opt s (fun x => U x ∨ x ∈ c) v ∧ best = gift s c + v) : Opt s U best := by
  refine ⟨?_, fun P hP => ?_⟩
  · rcases hach with rfl | ⟨c, v, c1, c2, c3, ⟨⟨P, p1, p2⟩, -⟩, rfl⟩
    · obtain ⟨⟨P, p1, p2⟩, -⟩ := h0
      exact ⟨P, p1.sub fun x _ _ hx => .inl hx, p2⟩
    · exact ⟨c :: P, plan_cons.2 ⟨c1, c2, c3, p1⟩, by rw [total_cons, p2]⟩
  · by_cases hin : a ∈ P.flatten
    · obtain ⟨c, hc, hac⟩ := List.mem_flatten.1 hin
      obtain ⟨A, B, rfl⟩ := List.append_of_mem hc
      have hperm : (A ++ c :: B).Perm (c :: (A ++ B)) := List.perm_middle
      have hP' := plan_perm hperm hP
      rw [total_perm hperm, total_cons]
      obtain ⟨c1, c2, c3, c4⟩ := plan_cons.1 hP'
      have key : ∃ c', Line s c' ∧ hd c' = a ∧ c'.Nodup ∧ (∀ x, x ∈ c' ↔ x ∈ c) ∧ gift s c' = gift s c := by
        obtain ⟨i, hi, hia⟩ := List.getElem_of_mem hac
        have hia' : c[i]?.getD 0 = a := by rw [List.getElem?_eq_getElem hi]; exact hia
        cases hr : isRow s c with
        | true =>
          refine ⟨c, c1, ?_, c2, fun x => Iff.rfl, rfl⟩
          have hh : hd c < s.gv := by unfold isRow at hr; simpa using hr
          by_cases e : i = 0
          · subst e; exact hia'
          · exfalso
            have hg := path_gv hs c1.path (i := i) (by omega) hi
            rw [hia'] at hg
            have h0m : hd c ∈ c := by
              unfold hd
              rw [List.getElem?_eq_getElem (by omega)]
              exact List.getElem_mem _
            have := c1.rng _ h0m
            exact c3 _ h0m (hleast _ this.1 (by omega))
        | false =>
          obtain ⟨r1, r2⟩ := rot_line hs c1 hr hi
          have hpm : (c.drop i ++ c.take i).Perm c := by
            have := List.perm_append_comm (l₁ := c.drop i) (l₂ := c.take i)
            rwa [List.take_append_drop] at this
          refine ⟨c.drop i ++ c.take i, r1, ?_, hpm.nodup_iff.2 c2, fun x => hpm.mem_iff, ?_⟩
          · unfold hd
            rw [List.getElem?_append_left (by simp; omega), List.getElem?_drop]
            exact hia'
          · unfold gift
            rw [r2, hr]
            simp only [Bool.false_eq_true, if_false]
            rw [hpm.length_eq]
      obtain ⟨c', k1, k2, k3, k4, k5⟩ := key
      obtain ⟨v, ⟨-, hv⟩, hle⟩ := hge c' k1 k2 k3 (fun x hx => c3 x ((k4 x).1 hx))
      have := hv _ (c4.sub fun x _ _ hx => by
        rcases hx with hx | hx
        · exact .inl hx
        · exact .inr ((k4 x).1 hx))
      omega
    · have := h0.2 P ⟨hP.line, hP.nd, fun x hx hu => by
        rcases hu with hu | hu
        · exact hP.free x hx hu
        · subst hu; exact hin hx⟩
      omega
/-- Where all are used nothing is given. -/
theorem opt_full {U : Int → Prop} (h : ∀ x : Int, 0 ≤ x → x < s.n → U x) : Opt s U 0 := by
  refine ⟨⟨[], plan_nil U, rfl⟩, fun P hP => ?_⟩
  cases P with
  | nil => exact Int.le_refl _
  | cons c P =>
    exfalso
    obtain ⟨c1, -, c3, -⟩ := plan_cons.1 hP
    have h0 : c[0]?.getD 0 ∈ c := by
      have := c1.two
      rw [List.getElem?_eq_getElem (by omega)]
      exact List.getElem_mem _
    obtain ⟨r1, r2⟩ := c1.rng _ h0
    exact c3 _ h0 (h _ r1 r2)
end Go.Proofs.YtffnhflbhckhbaaDoor
