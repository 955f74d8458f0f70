import Derived.Test.YtaaikaeknealkaaN
namespace Go.Proofs.Ytaaikaeknealkaa
open Go.RowKit
/-- What one gets out of a set. -/
def wat (ws : List (Nat → Int)) (i : Nat) (s : Int) : Int := (ws[i]?.getD (fun _ => 0)) s.toNat
theorem val_at : ∀ (ws : List (Nat → Int)) (l : List Int) (i : Nat), ws.length = l.length → i < ws.length → val ws l = val (ws.eraseIdx i) (l.eraseIdx i) + wat ws i (nth l i) := by
  intro ws
  induction ws with
  | nil => intro l i _ hi; simp at hi
  | cons w ws ih =>
    intro l i hl hi
    cases l with
    | nil => simp at hl
    | cons s l =>
      cases i with
      | zero =>
        show w s.toNat + val ws l = val ws l + w s.toNat
        omega
      | succ i =>
        have := ih l i (by simpa using hl) (by simpa using hi)
        show w s.toNat + val ws l = w s.toNat + val (ws.eraseIdx i) (l.eraseIdx i) + wat ws i (nth l i)
        omega
theorem sub_mono : ∀ f : Nat, f < 16 → ∀ f' : Nat, f' < 16 → ∀ s : Nat, s < 16 → (anN f f' = 0 ∧ anN s f = 0) → anN s f' = 0 ∧ anN (anN f s) (anN f' s) = 0 := by decide +kernel
theorem anN_self (s : Nat) (f : Nat) (hs' : s < 16) (hf : f < 16) : anN (anN f s) f = 0 := by
  have : ∀ s : Nat, s < 16 → ∀ f : Nat, f < 16 → anN (anN f s) f = 0 := by decide +kernel
  exact this s hs' f hf
theorem alc_small {s f : Nat} (hf : f < 16) (hz : anN s f = 0) : s < 16 := by
  unfold anN at hz
  have h1 : s &&& f ≤ f := Nat.and_le_right
  omega
theorem Alc.mono {ws : List (Nat → Int)} : ∀ {f f' : Nat} {l : List Int}, Alc ws f l → f < 16 → f' < 16 → anN f f' = 0 → Alc ws f' l := by
  induction ws with
  | nil => intro f f' l h _ _ _; exact h
  | cons w ws ih =>
    intro f f' l h hf hf' hz
    obtain ⟨s, l', rfl, h1, h2⟩ := h
    obtain ⟨g1, g2⟩ := sub_mono f hf f' hf' s (alc_small hf h1) ⟨hz, h1⟩
    exact ⟨s, l', rfl, g1, ih h2 (Nat.lt_of_le_of_lt (anN_le _ _) hf) (Nat.lt_of_le_of_lt (anN_le _ _) hf') g2⟩
theorem alc_drop : ∀ (ws : List (Nat → Int)) (free : Nat) (l : List Int) (i : Nat), Alc ws free l → free < 16 → i < ws.length → Alc (ws.eraseIdx i) free (l.eraseIdx i) := by
  intro ws
  induction ws with
  | nil => intro free l i _ _ hi; simp at hi
  | cons w ws ih =>
    intro free l i h hf hi
    obtain ⟨s, l', rfl, h1, h2⟩ := h
    have hs16 := alc_small hf h1
    cases i with
    | zero => exact Alc.mono h2 (Nat.lt_of_le_of_lt (anN_le _ _) hf) hf (anN_self s free hs16 hf)
    | succ i => exact ⟨s, l'.eraseIdx i, rfl, h1, ih _ l' i h2 (Nat.lt_of_le_of_lt (anN_le _ _) hf) (by simpa using hi)⟩
/-- Which sets may be given does not go by what they are worth. -/
theorem Alc.any : ∀ {ws ws' : List (Nat → Int)} {f : Nat} {l : List Int}, Alc ws f l → ws.length = ws'.length → Alc ws' f l
  | [], [], _, _, h, _ => h
  | [], _ :: _, _, _, _, e => by simp at e
  | _ :: _, [], _, _, _, e => by simp at e
  | _ :: ws, _ :: ws', _, _, h, e => by
    obtain ⟨s, l', rfl, h1, h2⟩ := h
    exact ⟨s, l', rfl, h1, Alc.any h2 (by simpa using e)⟩
theorem not_btr_le {p q : Int × List Int} (h : ¬ btr p q) : p.1 ≤ q.1 := by
  rcases Int.lt_or_le q.1 p.1 with e | e
  · exact absurd (.inl e) h
  · exact e
/-- Nobody pays less than nothing, or more than what it has is worth to it. -/
theorem pays_ok {ws : List (Nat → Int)} {it i : Nat} (hit : it ≤ 4) (h : Wok (2 ^ it) ws) (hi : i < ws.length) (hz : wz ws i = 0) :
    0 ≤ (bst (ws.eraseIdx i) (2 ^ it - 1)).1 - ((bst ws (2 ^ it - 1)).1 - wat ws i (nth (bst ws (2 ^ it - 1)).2 i)) ∧
    (bst (ws.eraseIdx i) (2 ^ it - 1)).1 - ((bst ws (2 ^ it - 1)).1 - wat ws i (nth (bst ws (2 ^ it - 1)).2 i)) ≤ wat ws i (nth (bst ws (2 ^ it - 1)).2 i) := by
  have hal : 2 ^ it - 1 < 2 ^ it := by have := Nat.two_pow_pos it; omega
  obtain ⟨b1, b2, b3⟩ := bst_spec (pow_le hit) ws h (2 ^ it - 1) hal
  obtain ⟨c1, c2, c3⟩ := bst_spec (pow_le hit) (ws.eraseIdx i) (h.erase i) (2 ^ it - 1) hal
  have e1 := val_at ws (bst ws (2 ^ it - 1)).2 i b1.lt.symm hi
  have e2 := not_btr_le (c3 _ (alc_drop ws _ _ i b1 (pow16 hit) hi))
  obtain ⟨l, l1, l2, l3⟩ := alc_insert ws _ _ i c1 hi
  have e3 := not_btr_le (b3 l l1)
  simp only at e2 e3
  constructor <;> omega
/-- CLARKE AND GROVES: nobody does better by a lie. -/
theorem groves {ws ws' : List (Nat → Int)} {it i : Nat} (hit : it ≤ 4) (h : Wok (2 ^ it) ws) (h' : Wok (2 ^ it) ws') (hl : ws'.length = ws.length) (hi : i < ws.length) (he : ws'.eraseIdx i = ws.eraseIdx i) :
    wat ws i (nth (bst ws' (2 ^ it - 1)).2 i) - ((bst (ws'.eraseIdx i) (2 ^ it - 1)).1 - ((bst ws' (2 ^ it - 1)).1 - wat ws' i (nth (bst ws' (2 ^ it - 1)).2 i))) ≤
    wat ws i (nth (bst ws (2 ^ it - 1)).2 i) - ((bst (ws.eraseIdx i) (2 ^ it - 1)).1 - ((bst ws (2 ^ it - 1)).1 - wat ws i (nth (bst ws (2 ^ it - 1)).2 i))) := by
  have hal : 2 ^ it - 1 < 2 ^ it := by have := Nat.two_pow_pos it; omega
  obtain ⟨b1, b2, b3⟩ := bst_spec (pow_le hit) ws h (2 ^ it - 1) hal
  obtain ⟨c1, c2, c3⟩ := bst_spec (pow_le hit) ws' h' (2 ^ it - 1) hal
  have hA : Alc ws (2 ^ it - 1) (bst ws' (2 ^ it - 1)).2 := c1.any hl
  have e1 := not_btr_le (b3 _ hA)
  have e2 := val_at ws (bst ws' (2 ^ it - 1)).2 i hA.lt.symm hi
  have e3 := val_at ws' (bst ws' (2 ^ it - 1)).2 i c1.lt.symm (by omega)
  rw [he] at e3 ⊢
  simp only at e1
  omega
end Go.Proofs.Ytaaikaeknealkaa
