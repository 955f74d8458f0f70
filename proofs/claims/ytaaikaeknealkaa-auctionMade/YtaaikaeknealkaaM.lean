import Derived.Test.YtaaikaeknealkaaL
namespace Go.Proofs.Ytaaikaeknealkaa
open Go.RowKit
def oL (who : List Int) (k : Nat) : Int := who[k]?.getD (-1)
def leaf (ws : List (Nat → Int)) (it : Nat) (who : List Int) : Int × List Int := (val ws (setsL (oL who) ws.length it), setsL (oL who) ws.length it)
open Classical in
/-- The best of the first k answers to whose the next thing is. -/
noncomputable def gvF (G : List Int → Int × List Int) (but : Int) (who : List Int) : Nat → Int × List Int
  | 0 => (-1, [])
  | k + 1 => if (1 ≤ k ∧ (k : Int) - 1 = but) ∨ ¬ btr (G (who ++ [(k : Int) - 1])) (gvF G but who k) then gvF G but who k else G (who ++ [(k : Int) - 1])
theorem gvF_skip {G : List Int → Int × List Int} {but : Int} {who : List Int} {k : Nat} (h : 1 ≤ k ∧ (k : Int) - 1 = but) : gvF G but who (k + 1) = gvF G but who k := by rw [gvF, if_pos (.inl h)]
theorem gvF_no {G : List Int → Int × List Int} {but : Int} {who : List Int} {k : Nat} (h : ¬ btr (G (who ++ [(k : Int) - 1])) (gvF G but who k)) : gvF G but who (k + 1) = gvF G but who k := by rw [gvF, if_pos (.inr h)]
theorem gvF_yes {G : List Int → Int × List Int} {but : Int} {who : List Int} {k : Nat} (h : ¬ (1 ≤ k ∧ (k : Int) - 1 = but)) (h2 : btr (G (who ++ [(k : Int) - 1])) (gvF G but who k)) : gvF G but who (k + 1) = G (who ++ [(k : Int) - 1]) := by
  rw [gvF, if_neg (fun c => c.elim h (fun c => c h2))]
noncomputable def gv (ws : List (Nat → Int)) (it : Nat) (but : Int) : Nat → List Int → Int × List Int
  | 0, who => leaf ws it who
  | d + 1, who => gvF (gv ws it but d) but who (ws.length + 1)
/-- Who may own a thing. -/
def Ow (n : Nat) (but x : Int) : Prop := -1 ≤ x ∧ x < n ∧ (x ≠ but ∨ x < 0)
theorem val_nn {m : Nat} : ∀ (ws : List (Nat → Int)) (l : List Int), Wok m ws → (∀ x ∈ l, 0 ≤ x ∧ x < m) → 0 ≤ val ws l ∧ val ws l ≤ 1000 * ws.length
  | [], l, _, _ => by cases l <;> exact ⟨Int.le_refl _, by show (0 : Int) ≤ _; simp⟩
  | w :: ws, [], _, _ => ⟨Int.le_refl _, by show (0 : Int) ≤ _; omega⟩
  | w :: ws, s :: l, h, g => by
    have i := val_nn ws l (fun v hv => h v (List.mem_cons_of_mem _ hv)) (fun x hx => g x (List.mem_cons_of_mem _ hx))
    have hs' := g s List.mem_cons_self
    have := h w List.mem_cons_self s.toNat (by omega)
    rw [val, List.length_cons]
    omega
theorem setsL_rng {o : Nat → Int} {n it : Nat} : ∀ x ∈ setsL o n it, 0 ≤ x ∧ x < ((2 ^ it : Nat) : Int) := fun x hx => by
  unfold setsL at hx
  obtain ⟨i, _, rfl⟩ := List.mem_map.1 hx
  have := bs_lt (fun k => decide (o k = (i : Int))) it
  exact ⟨by omega, by unfold sB; omega⟩
theorem leaf_nn {ws : List (Nat → Int)} {it : Nat} (h : Wok (2 ^ it) ws) (who : List Int) : 0 ≤ (leaf ws it who).1 ∧ (leaf ws it who).1 ≤ 1000 * ws.length := val_nn ws _ h (fun x hx => setsL_rng x hx)
theorem leaf_len (ws : List (Nat → Int)) (it : Nat) (who : List Int) : (leaf ws it who).2.length = ws.length := by simp [leaf, setsL]
theorem gv_spec {ws : List (Nat → Int)} {it : Nat} (h : Wok (2 ^ it) ws) (but : Int) : ∀ d who,
    (∃ t, t.length = d ∧ (∀ x ∈ t, Ow ws.length but x) ∧ gv ws it but d who = leaf ws it (who ++ t)) ∧ ∀ t, t.length = d → (∀ x ∈ t, Ow ws.length but x) → ¬ btr (leaf ws it (who ++ t)) (gv ws it but d who) := by
  intro d
  induction d with
  | zero =>
    intro who
    refine ⟨⟨[], rfl, fun x hx => (by cases hx), by rw [List.append_nil]; rfl⟩, fun t ht _ => ?_⟩
    rw [List.length_eq_zero_iff.1 ht, List.append_nil]
    exact btr_irr _
  | succ d ih =>
    intro who
    have key : ∀ k, k ≤ ws.length + 1 → ((k = 0 ∧ gvF (gv ws it but d) but who k = (-1, [])) ∨ ∃ t, t.length = d + 1 ∧ (∀ x ∈ t, Ow ws.length but x) ∧ gvF (gv ws it but d) but who k = leaf ws it (who ++ t)) ∧
        ∀ j t, j < k → Ow ws.length but ((j : Int) - 1) → t.length = d → (∀ x ∈ t, Ow ws.length but x) → ¬ btr (leaf ws it (who ++ (((j : Int) - 1) :: t))) (gvF (gv ws it but d) but who k) := by
      intro k
      induction k with
      | zero => intro _; exact ⟨.inl ⟨rfl, rfl⟩, fun j t hj => by omega⟩
      | succ k ihk =>
        intro hk
        obtain ⟨g1, g2⟩ := ihk (by omega)
        obtain ⟨⟨t0, t1, t2, t3⟩, i2⟩ := ih (who ++ [(k : Int) - 1])
        by_cases c : 1 ≤ k ∧ (k : Int) - 1 = but
        · rw [gvF_skip c]
          refine ⟨.inr ?_, fun j t hj hO hl hA => ?_⟩
          · rcases g1 with ⟨e, _⟩ | g1
            · omega
            · exact g1
          · by_cases e : j = k
            · subst e
              exfalso
              rcases hO.2.2 with q | q
              · exact q c.2
              · omega
            · exact g2 j t (by omega) hO hl hA
        · have hOk : Ow ws.length but ((k : Int) - 1) := by
            refine ⟨by omega, by omega, ?_⟩
            by_cases k0 : k = 0
            · exact .inr (by omega)
            · exact .inl (fun e => c ⟨by omega, e⟩)
          by_cases hb : btr (gv ws it but d (who ++ [(k : Int) - 1])) (gvF (gv ws it but d) but who k)
          · rw [gvF_yes c hb]
            refine ⟨.inr ⟨((k : Int) - 1) :: t0, by rw [List.length_cons, t1], fun x hx => ?_, by rw [t3, List.append_assoc]; rfl⟩, fun j t hj hO hl hA hbb => ?_⟩
            · rcases List.mem_cons.1 hx with e | e
              · subst e; exact hOk
              · exact t2 x e
            · by_cases e : j = k
              · subst e
                have := i2 t hl hA
                rw [List.append_assoc] at this
                exact this hbb
              · exact g2 j t (by omega) hO hl hA (btr_trans hbb hb)
          · rw [gvF_no hb]
            have hk0 : k ≠ 0 := fun e => by
              subst e
              refine hb (.inl ?_)
              rw [t3]
              have := (leaf_nn h (who ++ [((0 : Nat) : Int) - 1] ++ t0)).1
              show (-1 : Int) < _
              omega
            refine ⟨.inr ?_, fun j t hj hO hl hA hbb => ?_⟩
            · rcases g1 with ⟨e, _⟩ | g1
              · exact absurd e hk0
              · exact g1
            · by_cases e : j = k
              · subst e
                have i3 := i2 t hl hA
                rw [List.append_assoc] at i3
                -- the answer of this one is no better than the best so far
                rcases g1 with ⟨e, _⟩ | ⟨tq, _, _, tq3⟩
                · exact hk0 e
                · by_cases hq : btr (gvF (gv ws it but d) but who j) (gv ws it but d (who ++ [(j : Int) - 1]))
                  · exact i3 (btr_trans hbb hq)
                  · have := btr_uniq (by rw [tq3, t3, leaf_len, leaf_len]) hq hb
                    rw [this] at hbb
                    exact i3 hbb
              · exact g2 j t (by omega) hO hl hA hbb
    obtain ⟨k1, k2⟩ := key (ws.length + 1) (Nat.le_refl _)
    refine ⟨?_, fun t ht hA => ?_⟩
    · rcases k1 with ⟨e, _⟩ | k1
      · omega
      · exact k1
    · cases t with
      | nil => simp at ht
      | cons x t =>
        have hx := hA x List.mem_cons_self
        have := k2 (x + 1).toNat t (by have := hx.2.1; omega) (by rw [show (((x + 1).toNat : Int) - 1) = x by have := hx.1; omega]; exact hx) (by simpa using ht) (fun y hy => hA y (List.mem_cons_of_mem _ hy))
        rw [show (((x + 1).toNat : Int) - 1) = x by have := hx.1; omega] at this
        exact this
theorem hs_al : ∀ it : Nat, it < 5 → ∀ k : Nat, k < 4 → hs (2 ^ it - 1) k = true → k < it := by decide +kernel
theorem oL_map {f : Nat → Int} {it k : Nat} (h : k < it) : oL ((List.range it).map f) k = f k := by
  unfold oL
  rw [List.getElem?_map, List.getElem?_range h]
  rfl
theorem setsL_congr {o o' : Nat → Int} {n it : Nat} (h : ∀ k, k < it → o k = o' k) : setsL o n it = setsL o' n it := by
  unfold setsL
  apply List.map_congr_left
  intro i _
  have : sB o (i : Int) it = sB o' (i : Int) it := bs_congr it (fun k hk => by rw [h k hk])
  rw [this]
theorem pow16 {it : Nat} (h : it ≤ 4) : 2 ^ it - 1 < 16 := by have := pow_le h; have := Nat.two_pow_pos it; omega
/-- Every way to give sets, as owners of things. -/
theorem alc_who {it : Nat} (hit : it ≤ 4) {ws : List (Nat → Int)} {l : List Int} (h : Alc ws (2 ^ it - 1) l) : ∃ t : List Int, t.length = it ∧ (∀ x ∈ t, -1 ≤ x ∧ x < ws.length) ∧ l = setsL (oL t) ws.length it := by
  refine ⟨(List.range it).map (owc l 0), by simp, fun x hx => ?_, ?_⟩
  · obtain ⟨k, _, rfl⟩ := List.mem_map.1 hx
    have := ow_rng l k
    rw [h.lt] at this
    by_cases e : ow l k < 0
    · rw [owc_neg e]; omega
    · rw [owc_pos e]; omega
  · have := alc_own hit 0 h (pow16 hit) (fun k hk => hs_al it (by omega) k hk)
    rw [← setsL_eq] at this
    rw [setsL_congr (o' := owc l 0) (fun k hk => oL_map hk)]
    exact this
/-- BOTH ANSWERS ARE ONE. -/
theorem gv_bst {ws : List (Nat → Int)} {it : Nat} (hit : it ≤ 4) (h : Wok (2 ^ it) ws) : gv ws it (-1) it [] = bst ws (2 ^ it - 1) := by
  obtain ⟨⟨t, t1, t2, t3⟩, g2⟩ := gv_spec h (-1) it []
  have hal : 2 ^ it - 1 < 2 ^ it := by have := Nat.two_pow_pos it; omega
  obtain ⟨b1, b2, b3⟩ := bst_spec (pow_le hit) ws h (2 ^ it - 1) hal
  refine btr_uniq ?_ ?_ ?_
  · rw [t3, leaf_len, b1.lt]
  · rw [t3]
    exact b3 _ (own_alc hit ws)
  · obtain ⟨u, u1, u2, u3⟩ := alc_who hit b1
    have e : bst ws (2 ^ it - 1) = leaf ws it ([] ++ u) := by
      rw [List.nil_append]
      unfold leaf
      rw [← u3, b2]
    rw [e]
    exact g2 u u1 (fun x hx => ⟨(u2 x hx).1, (u2 x hx).2, by omega⟩)
end Go.Proofs.Ytaaikaeknealkaa
