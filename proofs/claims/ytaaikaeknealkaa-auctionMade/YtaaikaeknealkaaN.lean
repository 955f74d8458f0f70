import Derived.Test.YtaaikaeknealkaaM
namespace Go.Proofs.Ytaaikaeknealkaa
open Go.RowKit
theorem anN_none (f : Nat) : anN f 0 = f := by unfold anN; simp
def wz (ws : List (Nat → Int)) (i : Nat) : Int := (ws[i]?.getD (fun _ => 0)) 0
theorem alc_erase : ∀ (ws : List (Nat → Int)) (free : Nat) (l : List Int) (i : Nat), Alc ws free l → i < ws.length → nth l i = 0 → Alc (ws.eraseIdx i) free (l.eraseIdx i) ∧ val (ws.eraseIdx i) (l.eraseIdx i) + wz ws i = val ws l := by
  intro ws
  induction ws with
  | nil => intro free l i _ hi; simp at hi
  | cons w ws ih =>
    intro free l i h hi hz
    obtain ⟨s, l', rfl, h1, h2⟩ := h
    cases i with
    | zero =>
      have hs0 : s = 0 := by have : ((s : Nat) : Int) = 0 := hz; omega
      subst hs0
      rw [anN_none] at h2
      refine ⟨h2, ?_⟩
      show val ws l' + w 0 = w ((0 : Nat) : Int).toNat + val ws l'
      rw [Int.toNat_natCast]
      omega
    | succ i =>
      obtain ⟨i1, i2⟩ := ih (anN free s) l' i h2 (by simpa using hi) hz
      refine ⟨⟨s, l'.eraseIdx i, rfl, h1, i1⟩, ?_⟩
      show w ((s : Nat) : Int).toNat + val (ws.eraseIdx i) (l'.eraseIdx i) + wz ws i = w ((s : Nat) : Int).toNat + val ws l'
      omega
theorem alc_insert : ∀ (ws : List (Nat → Int)) (free : Nat) (l : List Int) (i : Nat), Alc (ws.eraseIdx i) free l → i < ws.length → ∃ l', Alc ws free l' ∧ nth l' i = 0 ∧ val (ws.eraseIdx i) l + wz ws i = val ws l' := by
  intro ws
  induction ws with
  | nil => intro free l i _ hi; simp at hi
  | cons w ws ih =>
    intro free l i h hi
    cases i with
    | zero =>
      refine ⟨((0 : Nat) : Int) :: l, ⟨0, l, rfl, anN_zero _, by rw [anN_none]; exact h⟩, rfl, ?_⟩
      show val ws l + w 0 = w ((0 : Nat) : Int).toNat + val ws l
      rw [Int.toNat_natCast]
      omega
    | succ i =>
      obtain ⟨s, l', rfl, h1, h2⟩ := h
      obtain ⟨l2, i1, i2, i3⟩ := ih (anN free s) l' i h2 (by simpa using hi)
      refine ⟨((s : Nat) : Int) :: l2, ⟨s, l2, rfl, h1, i1⟩, i2, ?_⟩
      show w ((s : Nat) : Int).toNat + val (ws.eraseIdx i) l' + wz ws i = w ((s : Nat) : Int).toNat + val ws l2
      omega
theorem bs_zero {p : Nat → Bool} : ∀ n, (∀ k, k < n → p k = false) → bs p n = 0 := by
  intro n
  induction n with
  | zero => intro _; rfl
  | succ n ih => intro h; rw [bs, ih (fun k hk => h k (by omega)), if_neg (by simp [h n (by omega)])]
theorem setsL_at {o : Nat → Int} {n it i : Nat} (h : i < n) : nth (setsL o n it) i = ((sB o (i : Int) it : Nat) : Int) := by
  unfold nth setsL
  rw [List.getElem?_map, List.getElem?_range h]
  rfl
theorem oL_mem {t : List Int} {k : Nat} (h : k < t.length) : oL t k ∈ t := by
  unfold oL
  rw [List.getElem?_eq_getElem h]
  exact List.getElem_mem h
theorem Wok.erase {m : Nat} {ws : List (Nat → Int)} (h : Wok m ws) (i : Nat) : Wok m (ws.eraseIdx i) := fun w hw => h w (List.mem_of_mem_eraseIdx hw)
theorem hs_none (k : Nat) : hs 0 k = false := by unfold hs; simp
/-- BOTH ANSWERS WITHOUT ONE BIDDER ARE ONE. -/
theorem gv_but {ws : List (Nat → Int)} {it i : Nat} (hit : it ≤ 4) (h : Wok (2 ^ it) ws) (hi : i < ws.length) (hz : wz ws i = 0) : (gv ws it (i : Int) it []).1 = (bst (ws.eraseIdx i) (2 ^ it - 1)).1 := by
  obtain ⟨⟨t, t1, t2, t3⟩, g2⟩ := gv_spec h (i : Int) it []
  have hal : 2 ^ it - 1 < 2 ^ it := by have := Nat.two_pow_pos it; omega
  obtain ⟨b1, b2, b3⟩ := bst_spec (pow_le hit) (ws.eraseIdx i) (h.erase i) (2 ^ it - 1) hal
  rw [List.nil_append] at t3
  have h1 : (gv ws it (i : Int) it []).1 ≤ (bst (ws.eraseIdx i) (2 ^ it - 1)).1 := by
    have h0 : nth (setsL (oL t) ws.length it) i = 0 := by
      rw [setsL_at hi]
      have : sB (oL t) (i : Int) it = 0 := bs_zero it (fun k hk => by
        have := t2 _ (oL_mem (t := t) (k := k) (by omega))
        refine decide_eq_false (fun e => ?_)
        rcases this.2.2 with q | q
        · exact q e
        · omega)
      rw [this]; rfl
    obtain ⟨e1, e2⟩ := alc_erase ws _ _ i (own_alc (o := oL t) hit ws) hi h0
    rcases Int.lt_or_le (bst (ws.eraseIdx i) (2 ^ it - 1)).1 (gv ws it (i : Int) it []).1 with q | q
    · refine absurd (.inl ?_) (b3 _ e1)
      rw [t3] at q
      show _ < val _ _
      have : (leaf ws it t).1 = val ws (setsL (oL t) ws.length it) := rfl
      omega
    · exact q
  have h2 : (bst (ws.eraseIdx i) (2 ^ it - 1)).1 ≤ (gv ws it (i : Int) it []).1 := by
    obtain ⟨l, l1, l2, l3⟩ := alc_insert ws _ _ i b1 hi
    obtain ⟨u, u1, u2, u3⟩ := alc_who hit l1
    have hne : ∀ x ∈ u, x ≠ (i : Int) := fun x hx e => by
      subst e
      obtain ⟨k, hk, e⟩ := List.getElem_of_mem hx
      have e2 : oL u k = (i : Int) := by unfold oL; rw [List.getElem?_eq_getElem hk, e]; rfl
      have h0 : sB (oL u) (i : Int) it = 0 := by
        rw [u3, setsL_at hi] at l2
        omega
      have hb := bs_bit (p := fun k => decide (oL u k = (i : Int))) (it := it) (k := k) hit (by omega)
      have : bs (fun k => decide (oL u k = (i : Int))) it = 0 := h0
      rw [this, hs_none, decide_eq_true (show k < it by omega), decide_eq_true e2] at hb
      cases hb
    have := g2 u u1 (fun x hx => ⟨(u2 x hx).1, (u2 x hx).2, .inl (hne x hx)⟩)
    rw [List.nil_append] at this
    rcases Int.lt_or_le (gv ws it (i : Int) it []).1 (bst (ws.eraseIdx i) (2 ^ it - 1)).1 with q | q
    · refine absurd (.inl ?_) this
      have e : (leaf ws it u).1 = val ws (setsL (oL u) ws.length it) := rfl
      rw [← u3] at e
      omega
    · exact q
  omega
end Go.Proofs.Ytaaikaeknealkaa
