import Derived.Test.YtaaikaeknealkaaI
namespace Go.Proofs.Ytaaikaeknealkaa
open Go.RowKit
/-- Is a list ahead of another one, in order? -/
def bef : List Int → List Int → Bool
  | x :: l, y :: m => if x = y then bef l m else decide (x < y)
  | _, _ => false
theorem bef_irr : ∀ l, bef l l = false
  | [] => rfl
  | x :: l => by rw [bef, if_pos rfl]; exact bef_irr l
theorem bef_trans : ∀ (a b c : List Int), bef a b = true → bef b c = true → bef a c = true
  | [], _, _, h, _ => by simp [bef] at h
  | _ :: _, [], _, h, _ => by simp [bef] at h
  | _ :: _, _ :: _, [], _, h => by simp [bef] at h
  | x :: a, y :: b, z :: c, h1, h2 => by
    rw [bef] at h1 h2 ⊢
    by_cases e1 : x = y
    · rw [if_pos e1] at h1
      by_cases e2 : y = z
      · rw [if_pos e2] at h2
        rw [if_pos (e1.trans e2)]
        exact bef_trans a b c h1 h2
      · rw [if_neg e2] at h2
        rw [if_neg (by omega)]
        have := of_decide_eq_true h2
        exact decide_eq_true (by omega)
    · rw [if_neg e1] at h1
      have h3 := of_decide_eq_true h1
      by_cases e2 : y = z
      · rw [if_neg (by omega)]
        exact decide_eq_true (by omega)
      · rw [if_neg e2] at h2
        have h4 := of_decide_eq_true h2
        rw [if_neg (by omega)]
        exact decide_eq_true (by omega)
theorem bef_total : ∀ (a b : List Int), a.length = b.length → bef a b = false → bef b a = false → a = b
  | [], [], _, _, _ => rfl
  | [], _ :: _, h, _, _ => by simp at h
  | _ :: _, [], h, _, _ => by simp at h
  | x :: a, y :: b, h, h1, h2 => by
    rw [bef] at h1 h2
    by_cases e : x = y
    · subst e
      rw [if_pos rfl] at h1 h2
      rw [bef_total a b (by simpa using h) h1 h2]
    · rw [if_neg e] at h1
      rw [if_neg (fun q => e q.symm)] at h2
      have := of_decide_eq_false h1
      have := of_decide_eq_false h2
      omega
/-- Is one answer better than another? -/
def btr (p q : Int × List Int) : Prop := q.1 < p.1 ∨ (p.1 = q.1 ∧ bef p.2 q.2 = true)
theorem btr_trans {p q r : Int × List Int} (h : btr p q) (g : btr q r) : btr p r := by
  rcases h with h | ⟨h, h'⟩
  · rcases g with g | ⟨g, _⟩
    · exact .inl (by omega)
    · exact .inl (by omega)
  · rcases g with g | ⟨g, g'⟩
    · exact .inl (by omega)
    · exact .inr ⟨by omega, bef_trans _ _ _ h' g'⟩
theorem btr_irr (p : Int × List Int) : ¬ btr p p := fun h => by
  rcases h with h | ⟨_, h⟩
  · omega
  · rw [bef_irr] at h; cases h
theorem btr_uniq {p q : Int × List Int} (hl : p.2.length = q.2.length) (h : ¬ btr p q) (g : ¬ btr q p) : p = q := by
  obtain ⟨a, l⟩ := p
  obtain ⟨b, m⟩ := q
  have e1 : a = b := by
    rcases Int.lt_trichotomy a b with e | e | e
    · exact absurd (.inl e) g
    · exact e
    · exact absurd (.inl e) h
  subst e1
  have h1 : bef l m = false := by
    cases e : bef l m
    · rfl
    · exact absurd (.inr ⟨rfl, e⟩) h
  have h2 : bef m l = false := by
    cases e : bef m l
    · rfl
    · exact absurd (.inr ⟨rfl, e⟩) g
  rw [bef_total l m hl h1 h2]
/-- What sets are worth together. -/
def val : List (Nat → Int) → List Int → Int
  | w :: ws, s :: l => w s.toNat + val ws l
  | _, _ => 0
/-- Ways to give sets out of what is free. -/
def Alc : List (Nat → Int) → Nat → List Int → Prop
  | [], _, l => l = []
  | _ :: ws, free, l => ∃ s l', l = ((s : Nat) : Int) :: l' ∧ anN s free = 0 ∧ Alc ws (anN free s) l'
theorem anN_sub : ∀ s : Nat, s < 16 → ∀ f : Nat, f < 16 → anN s f = 0 → s ≤ f := by decide +kernel
theorem Alc.lt {ws : List (Nat → Int)} : ∀ {free : Nat} {l : List Int}, Alc ws free l → l.length = ws.length := by
  induction ws with
  | nil => intro free l h; rw [show l = [] from h]; rfl
  | cons w ws ih =>
    intro free l h
    obtain ⟨s, l', rfl, _, h2⟩ := h
    rw [List.length_cons, List.length_cons, ih h2]
/-- The best of the first k sets: it is a way, and none of those ways is better. -/
theorem bst_spec {m : Nat} (hm : m ≤ 16) : ∀ (ws : List (Nat → Int)), Wok m ws → ∀ free, free < m → Alc ws free (bst ws free).2 ∧ val ws (bst ws free).2 = (bst ws free).1 ∧ ∀ l, Alc ws free l → ¬ btr (val ws l, l) (bst ws free) := by
  intro ws
  induction ws with
  | nil =>
    intro _ free _
    refine ⟨rfl, rfl, fun l h => ?_⟩
    rw [show l = [] from h]
    exact btr_irr _
  | cons w ws ih =>
    intro h free hf
    have hws : Wok m ws := fun v hv => h v (List.mem_cons_of_mem _ hv)
    have key : ∀ k, k ≤ free + 1 → ((bstF w (bst ws) free k).2 = [] ∧ (bstF w (bst ws) free k).1 = -1 ∨ (Alc (w :: ws) free (bstF w (bst ws) free k).2 ∧ val (w :: ws) (bstF w (bst ws) free k).2 = (bstF w (bst ws) free k).1 ∧ ∃ s l', (bstF w (bst ws) free k).2 = ((s : Nat) : Int) :: l' ∧ s < k)) ∧
        ∀ (s : Nat) (l : List Int), s < k → anN s free = 0 → Alc ws (anN free s) l → ¬ btr (val (w :: ws) ((s : Int) :: l), (s : Int) :: l) (bstF w (bst ws) free k) := by
      intro k
      induction k with
      | zero => intro _; exact ⟨.inl ⟨rfl, rfl⟩, fun s l hs' => by omega⟩
      | succ k ihk =>
        intro hk
        obtain ⟨g1, g2⟩ := ihk (by omega)
        have hfk : anN free k < m := Nat.lt_of_le_of_lt (anN_le _ _) hf
        obtain ⟨i1, i2, i3⟩ := ih hws (anN free k) hfk
        by_cases c : anN k free = 0 ∧ (bstF w (bst ws) free k).1 < (bst ws (anN free k)).1 + w k
        · rw [bstF_yes c.1 c.2]
          refine ⟨.inr ⟨⟨k, _, rfl, c.1, i1⟩, ?_, k, _, rfl, by omega⟩, fun s l hs' hz hA hb => ?_⟩
          · show w ((k : Int)).toNat + val ws (bst ws (anN free k)).2 = _
            rw [i2, Int.toNat_natCast]
            show _ = (bst ws (anN free k)).1 + w k
            omega
          · by_cases e : s = k
            · subst e
              refine i3 l hA ?_
              rcases hb with hb | ⟨hb, hb'⟩
              · refine .inl ?_
                simp only [val, Int.toNat_natCast] at hb
                show (bst ws (anN free s)).1 < val ws l
                omega
              · refine .inr ⟨?_, ?_⟩
                · simp only [val, Int.toNat_natCast] at hb
                  show val ws l = (bst ws (anN free s)).1
                  omega
                · rw [bef, if_pos rfl] at hb'
                  exact hb'
            · exact g2 s l (by omega) hz hA (btr_trans hb (.inl c.2))
        · rw [bstF_no c]
          refine ⟨?_, fun s l hs' hz hA hb => ?_⟩
          · rcases g1 with g1 | ⟨a1, a2, s, l', a3, a4⟩
            · exact .inl g1
            · exact .inr ⟨a1, a2, s, l', a3, by omega⟩
          · by_cases e : s = k
            · subst e
              have hle : (bst ws (anN free s)).1 + w s ≤ (bstF w (bst ws) free s).1 := by
                rcases Int.lt_or_le (bstF w (bst ws) free s).1 ((bst ws (anN free s)).1 + w s) with q | q
                · exact absurd ⟨hz, q⟩ c
                · exact q
              have hvl : val ws l ≤ (bst ws (anN free s)).1 := by
                rcases Int.lt_or_le (bst ws (anN free s)).1 (val ws l) with q | q
                · exact absurd (.inl q) (i3 l hA)
                · exact q
              rcases hb with hb | ⟨hb, hb'⟩
              · simp only [val, Int.toNat_natCast] at hb
                omega
              · rcases g1 with ⟨g0, g1'⟩ | ⟨_, _, s', l', a3, a4⟩
                · rw [g0] at hb'; simp [bef] at hb'
                · rw [a3, bef, if_neg (by omega)] at hb'
                  have := of_decide_eq_true hb'
                  omega
            · exact g2 s l (by omega) hz hA hb
    obtain ⟨k1, k2⟩ := key (free + 1) (Nat.le_refl _)
    have h0 := (bst_le (w :: ws) h free hf).1
    rcases k1 with ⟨_, e⟩ | ⟨a1, a2, _⟩
    · have : (bst (w :: ws) free).1 = -1 := e
      omega
    · refine ⟨a1, a2, fun l hl => ?_⟩
      obtain ⟨s, l', rfl, hz, hA⟩ := hl
      by_cases hs16 : s < 16
      · exact k2 s l' (by have := anN_sub s hs16 free (by omega) hz; omega) hz hA
      · exfalso
        unfold anN at hz
        have h1 : s &&& free ≤ free := Nat.and_le_right
        omega
end Go.Proofs.Ytaaikaeknealkaa
