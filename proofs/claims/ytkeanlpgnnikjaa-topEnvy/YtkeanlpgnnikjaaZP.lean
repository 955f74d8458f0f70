import Derived.Test.YtkeanlpgnnikjaaZO
namespace Go.Proofs.Ytkeanlpgnnikjaa
open Go.RowKit
/-- A good that goes to another one. -/
theorem hv_del {v f : Nat → Int} {k : Nat} {x who : Int} (hk : f k = who) (hx : x ≠ who) : ∀ g, hv v (upd f k x) who g = hv v f who g - if k < g then v k else 0 := by
  intro g
  induction g with
  | zero => rw [if_neg (by omega)]; rfl
  | succ g ih =>
    by_cases e : g = k
    · subst e
      rw [if_neg (by omega)] at ih
      rw [hv_no (by rw [upd_at]; exact hx), hv_yes hk, ih, if_pos (by omega)]; omega
    · have hu : upd f k x g = f g := upd_ne e
      have hc : (k < g + 1) ↔ (k < g) := ⟨fun q => by omega, fun q => by omega⟩
      simp only [hc]
      by_cases c : f g = who
      · rw [hv_yes (by rw [hu]; exact c), hv_yes c, ih]; omega
      · rw [hv_no (by rw [hu]; exact c), hv_no c, ih]
theorem hv_one {v f : Nat → Int} {who : Int} {G : Nat} (h : OkF v G) : ∀ g, g ≤ G → ∀ k, k < g → f k = who → v k ≤ hv v f who g ∧ v k ≤ mv v f who g := by
  intro g
  induction g with
  | zero => intro _ k hk; omega
  | succ g ih =>
    intro hg k hk hfk
    have h1 := hv_le (give := f) (who := who) h g (by omega)
    have h2 := h g (by omega)
    have h3 := mv_le (give := f) (who := who) h g (by omega)
    by_cases e : k = g
    · subst e; rw [hv_yes hfk, mv_yes hfk]; omega
    · obtain ⟨a, b⟩ := ih (by omega) k (by omega) hfk
      by_cases c : f g = who
      · rw [hv_yes c, mv_yes c]; omega
      · rw [hv_no c, mv_no c]; exact ⟨a, b⟩
theorem hv_two {v f : Nat → Int} {who : Int} {G : Nat} (h : OkF v G) : ∀ g, g ≤ G → ∀ k l, k < l → l < g → f k = who → f l = who → v k + v l ≤ hv v f who g := by
  intro g
  induction g with
  | zero => intro _ k l _ hl; omega
  | succ g ih =>
    intro hg k l hkl hl hfk hfl
    have h2 := h g (by omega)
    by_cases e : l = g
    · subst e
      have := (hv_one h l (by omega) k hkl hfk).1
      rw [hv_yes hfl]; omega
    · have := ih (by omega) k l hkl (by omega) hfk hfl
      by_cases c : f g = who
      · rw [hv_yes c]; omega
      · rw [hv_no c]; exact this
/-- Two goods of worth, if all is worth more than the dearest. -/
theorem hv_more {v f : Nat → Int} {who : Int} {G : Nat} (h : OkF v G) : ∀ g, g ≤ G → (0 < hv v f who g → ∃ k, k < g ∧ f k = who ∧ 0 < v k) ∧ (mv v f who g < hv v f who g → ∃ k l, k < l ∧ l < g ∧ f k = who ∧ f l = who ∧ 0 < v k ∧ 0 < v l) := by
  intro g
  induction g with
  | zero => intro _; exact ⟨fun q => by simp [hv] at q, fun q => by simp [hv, mv] at q⟩
  | succ g ih =>
    intro hg
    obtain ⟨a, b⟩ := ih (by omega)
    have h2 := h g (by omega)
    have h1 := hv_le (give := f) (who := who) h g (by omega)
    have h3 := mv_le (give := f) (who := who) h g (by omega)
    by_cases c : f g = who
    · rw [hv_yes c, mv_yes c]
      refine ⟨fun q => ?_, fun q => ?_⟩
      · by_cases d : 0 < v g
        · exact ⟨g, by omega, c, d⟩
        · obtain ⟨k, k1, k2⟩ := a (by omega)
          exact ⟨k, by omega, k2⟩
      · by_cases d : 0 < v g
        · by_cases e : 0 < hv v f who g
          · obtain ⟨k, k1, k2, k3⟩ := a e
            exact ⟨k, g, k1, by omega, k2, c, k3, d⟩
          · omega
        · obtain ⟨k, l, k1, k2, k3⟩ := b (by omega)
          exact ⟨k, l, k1, by omega, k3⟩
    · rw [hv_no c, mv_no c]
      refine ⟨fun q => ?_, fun q => ?_⟩
      · obtain ⟨k, k1, k2⟩ := a q
        exact ⟨k, by omega, k2⟩
      · obtain ⟨k, l, k1, k2, k3⟩ := b q
        exact ⟨k, l, k1, by omega, k3⟩
/-- Sums of what is no more. -/
theorem hv_ratio {v w f : Nat → Int} {who X Y : Int} : ∀ g, (∀ k, k < g → f k = who → v k * Y ≤ w k * X) → hv v f who g * Y ≤ hv w f who g * X ∧ ((∃ k, k < g ∧ f k = who ∧ v k * Y < w k * X) → hv v f who g * Y < hv w f who g * X) := by
  intro g
  induction g with
  | zero => intro _; exact ⟨by simp [hv], fun ⟨k, hk, _⟩ => by omega⟩
  | succ g ih =>
    intro h
    obtain ⟨a, b⟩ := ih (fun k hk => h k (by omega))
    by_cases c : f g = who
    · rw [hv_yes c, hv_yes c, Int.add_mul, Int.add_mul]
      have := h g (by omega) c
      refine ⟨by omega, fun ⟨k, k1, k2, k3⟩ => ?_⟩
      by_cases e : k = g
      · subst e; omega
      · have := b ⟨k, by omega, k2, k3⟩; omega
    · rw [hv_no c, hv_no c]
      refine ⟨a, fun ⟨k, k1, k2, k3⟩ => b ⟨k, ?_, k2, k3⟩⟩
      by_cases e : k = g
      · subst e; exact absurd k2 c
      · omega
section
variable {v : Nat → Nat → Int} {n G : Nat} {q : List Int}
/-- The best way. -/
structure Best (v : Nat → Nat → Int) (n G : Nat) (q : List Int) : Prop where
  wy : Wy n G q
  best : ∀ o, Wy n G o → ¬ bt (qN v (nth o) G n) (qP v (nth o) G n) (qN v (nth q) G n) (qP v (nth q) G n)
theorem best_of (h : bestG (fun o => qN v (nth o) G n) (fun o => qP v (nth o) G n) (wL n G []) = some q) (hw : Wy n G q) : Best v n G q :=
  ⟨hw, fun o ho => (bestG_spec h).2 o (wL_mem ho G [] (by simp) (by simp))⟩
theorem Wy.nth {o : List Int} (h : Wy n G o) {g : Nat} (hg : g < G) : ∃ x : Nat, x < n ∧ nth o g = (x : Int) := by
  have hlt : g < o.length := by rw [h.1]; exact hg
  have := h.2 (o[g]) (List.getElem_mem hlt)
  refine ⟨(o[g]).toNat, by omega, ?_⟩
  unfold Ytkeanlpgnnikjaa.nth
  rw [List.getElem?_eq_getElem hlt]
  simp only [Option.getD_some]
  omega
theorem wy_lF {f : Nat → Int} (h : ∀ g, g < G → ∃ x : Nat, x < n ∧ f g = (x : Int)) : Wy n G (lF G f) := by
  refine ⟨lF_len _ _, fun x hx => ?_⟩
  unfold lF at hx
  rw [List.mem_map] at hx
  obtain ⟨g, hg, rfl⟩ := hx
  obtain ⟨y, hy, e⟩ := h g (List.mem_range.1 hg)
  rw [e]
  omega
/-- ONE GOOD FROM j TO i IS NO BETTER. -/
theorem Best.move (h : Best v n G q) {i j g : Nat} (hi : i < n) (hj : j < n) (hij : i ≠ j) (hg : g < G) (hf : nth q g = (j : Nat)) :
    ¬ bt (cN (upd (upd (fun k => hv (v k) (nth q) (k : Nat) G) i (hv (v i) (nth q) (i : Nat) G + v i g)) j (hv (v j) (nth q) (j : Nat) G - v j g)) n) (cP (upd (upd (fun k => hv (v k) (nth q) (k : Nat) G) i (hv (v i) (nth q) (i : Nat) G + v i g)) j (hv (v j) (nth q) (j : Nat) G - v j g)) n) (cN (fun k => hv (v k) (nth q) (k : Nat) G) n) (cP (fun k => hv (v k) (nth q) (k : Nat) G) n) := by
  have hb := h.best (lF G (upd (nth q) g (i : Nat))) (wy_lF (fun k hk => by
    by_cases e : k = g
    · subst e; rw [upd_at]; exact ⟨i, hi, rfl⟩
    · rw [upd_ne e]; exact h.wy.nth hk))
  rw [(q_c v _ G n).1, (q_c v _ G n).2, (q_c v (nth q) G n).1, (q_c v (nth q) G n).2] at hb
  have hat : ∀ k, k < G → nth (lF G (upd (nth q) g (i : Nat))) k = upd (nth q) g (i : Nat) k := fun k hk => lF_at hk
  have hu : ∀ k, k < n → hv (v k) (nth (lF G (upd (nth q) g (i : Nat)))) (k : Nat) G = upd (upd (fun k => hv (v k) (nth q) (k : Nat) G) i (hv (v i) (nth q) (i : Nat) G + v i g)) j (hv (v j) (nth q) (j : Nat) G - v j g) k := fun k hk => by
    rw [hv_congr G hat]
    by_cases e1 : k = j
    · subst e1
      rw [upd_at, hv_del hf (by omega), if_pos hg]
    · rw [upd_ne e1]
      by_cases e2 : k = i
      · subst e2
        rw [upd_at, hv_upd (by rw [hf]; omega), if_pos ⟨hg, rfl⟩]
      · rw [upd_ne e2, hv_upd (by rw [hf]; omega), if_neg (fun r => by omega)]
        omega
  obtain ⟨e1, e2⟩ := c_congr n hu
  rw [e1, e2] at hb
  exact hb
/-- IF THE BEST WAY IS TAKEN, THERE IS NO ENVY BUT FOR ONE GOOD. -/
theorem Best.ef (h : Best v n G q) (hv0 : ∀ i, i < n → OkF (v i) G) : EF v (nth q) n G := fun i hi j hj => by
  rcases Int.lt_or_le (hv (v i) (nth q) (i : Nat) G) (hv (v i) (nth q) (j : Nat) G - mv (v i) (nth q) (j : Nat) G) with hbad | hok
  · exfalso
    have hij : i ≠ j := fun e => by
      subst e
      have := (mv_le (give := nth q) (who := (i : Nat)) (hv0 i hi) G (Nat.le_refl _)).1
      omega
    have hm := fun (g : Nat) (hg : g < G) (hf : nth q g = (j : Nat)) => h.move hi hj hij hg hf
    have p1 := (hv_le (give := nth q) (who := (i : Nat)) (hv0 i hi) G (Nat.le_refl _)).1
    have p2 := (hv_le (give := nth q) (who := (j : Nat)) (hv0 j hj) G (Nat.le_refl _)).1
    have p3 := (mv_le (give := nth q) (who := (j : Nat)) (hv0 i hi) G (Nat.le_refl _)).1
    have hone : ∀ g, g < G → nth q g = (j : Nat) → v j g ≤ hv (v j) (nth q) (j : Nat) G ∧ v i g ≤ mv (v i) (nth q) (j : Nat) G := fun g hg hf => ⟨(hv_one (hv0 j hj) G (Nat.le_refl _) g hg hf).1, (hv_one (hv0 i hi) G (Nat.le_refl _) g hg hf).2⟩
    -- what a move makes of the gains
    have key : ∀ g, g < G → nth q g = (j : Nat) → ¬ bt (cN (fun k => hv (v k) (nth q) (k : Nat) G) n + (oz (hv (v i) (nth q) (i : Nat) G + v i g) - oz (hv (v i) (nth q) (i : Nat) G)) + (oz (hv (v j) (nth q) (j : Nat) G - v j g) - oz (hv (v j) (nth q) (j : Nat) G))) (cP (upd (upd (fun k => hv (v k) (nth q) (k : Nat) G) i (hv (v i) (nth q) (i : Nat) G + v i g)) j (hv (v j) (nth q) (j : Nat) G - v j g)) n) (cN (fun k => hv (v k) (nth q) (k : Nat) G) n) (cP (fun k => hv (v k) (nth q) (k : Nat) G) n) ∧
        cP (upd (upd (fun k => hv (v k) (nth q) (k : Nat) G) i (hv (v i) (nth q) (i : Nat) G + v i g)) j (hv (v j) (nth q) (j : Nat) G - v j g)) n * (pz (hv (v i) (nth q) (i : Nat) G) * pz (hv (v j) (nth q) (j : Nat) G)) = cP (fun k => hv (v k) (nth q) (k : Nat) G) n * (pz (hv (v i) (nth q) (i : Nat) G + v i g) * pz (hv (v j) (nth q) (j : Nat) G - v j g)) := fun g hg hf => by
      have hb := hm g hg hf
      obtain ⟨a1, a2⟩ := c_upd (u := upd (fun k => hv (v k) (nth q) (k : Nat) G) i (hv (v i) (nth q) (i : Nat) G + v i g)) (i := j) (a := hv (v j) (nth q) (j : Nat) G - v j g) n
      obtain ⟨b1, b2⟩ := c_upd (u := fun k => hv (v k) (nth q) (k : Nat) G) (i := i) (a := hv (v i) (nth q) (i : Nat) G + v i g) n
      rw [if_pos hj, upd_ne (Ne.symm hij)] at a1
      rw [if_pos hj, if_pos hj, upd_ne (Ne.symm hij)] at a2
      rw [if_pos hi] at b1
      rw [if_pos hi, if_pos hi] at b2
      refine ⟨?_, ?_⟩
      · rw [a1, b1] at hb
        exact hb
      · rw [Int.mul_comm (pz (hv (v i) (nth q) (i : Nat) G)), ← Int.mul_assoc, a2, Int.mul_right_comm, b2, Int.mul_right_comm, Int.mul_assoc]
        rw [Int.mul_comm (pz (hv (v j) (nth q) (j : Nat) G - v j g))]
    obtain ⟨g1, g2, g12, g2G, f1, f2, w1, w2⟩ := (hv_more (f := nth q) (who := (j : Nat)) (hv0 i hi) G (Nat.le_refl _)).2 (by omega)
    generalize hU : hv (v i) (nth q) (i : Nat) G = U at *
    generalize hY : hv (v j) (nth q) (j : Nat) G = Y at *
    generalize hX : hv (v i) (nth q) (j : Nat) G = X at *
    generalize hZ : mv (v i) (nth q) (j : Nat) G = Z at *
    have cp1 := cP_pos (fun k => hv (v k) (nth q) (k : Nat) G) n
    generalize cN (fun k => hv (v k) (nth q) (k : Nat) G) n = N0 at *
    generalize cP (fun k => hv (v k) (nth q) (k : Nat) G) n = P0 at *
    have nn1 := (hv0 j hj g1 (by omega)).1
    have nn2 := (hv0 j hj g2 g2G).1
    by_cases hU0 : 0 < U
    · by_cases hY0 : 0 < Y
      · -- the good that is worth the least to j, beside what it is worth to i
        have : ∃ g, g < G ∧ nth q g = (j : Nat) ∧ 0 < v i g ∧ v j g * X ≤ v i g * Y := Decidable.byContradiction fun hno => by
          have hall : ∀ k, k < G → nth q k = (j : Nat) → v i k * Y ≤ v j k * X := fun k hk hfk => by
            rcases Int.lt_or_le 0 (v i k) with c | c
            · rcases Int.lt_or_le (v i k * Y) (v j k * X) with d | d
              · omega
              · exact absurd ⟨k, hk, hfk, c, d⟩ hno
            · have z : v i k = 0 := by have := (hv0 i hi k hk).1; omega
              rw [z, Int.zero_mul]
              exact Int.mul_nonneg (hv0 j hj k hk).1 (by omega)
          obtain ⟨-, r2⟩ := hv_ratio (v := v i) (w := v j) (f := nth q) (who := (j : Nat)) (X := X) (Y := Y) G hall
          have := r2 ⟨g1, by omega, f1, by
            rcases Int.lt_or_le (v i g1 * Y) (v j g1 * X) with d | d
            · exact d
            · exact absurd ⟨g1, by omega, f1, w1, d⟩ hno⟩
          rw [hX, hY, Int.mul_comm] at this
          omega
        obtain ⟨g, hg, hf, hpos, hr⟩ := this
        obtain ⟨kb, ke⟩ := key g hg hf
        obtain ⟨o1, o2⟩ := hone g hg hf
        have hb0 := (hv0 j hj g hg).1
        generalize v i g = a at *
        generalize v j g = b at *
        generalize cP (upd (upd (fun k => hv (v k) (nth q) (k : Nat) G) i (U + a)) j (Y - b)) n = P1 at *
        have hlt : b * (U + a) < a * Y := by
          rcases Int.lt_or_le 0 b with c | c
          · have s1 : b * (U + a) < b * X := Int.mul_lt_mul_of_pos_left (by omega) c
            omega
          · have z : b = 0 := by omega
            rw [z, Int.zero_mul]
            exact Int.mul_pos hpos hY0
        have hprod : U * Y < (U + a) * (Y - b) := by
          have e : (U + a) * (Y - b) = U * Y + a * Y - b * (U + a) := by
            rw [Int.mul_sub, Int.add_mul, Int.mul_comm b]
          omega
        have hYb : 0 < Y - b := by
          rcases Int.lt_or_le 0 (Y - b) with c | c
          · exact c
          · have z : Y - b = 0 := by omega
            rw [z, Int.mul_zero] at hprod
            have := Int.mul_pos hU0 hY0
            omega
        have hpz : ∀ x : Int, 0 < x → pz x = x ∧ oz x = 1 := fun x hx => by unfold pz oz; rw [if_pos hx, if_pos hx]; exact ⟨rfl, rfl⟩
        rw [(hpz U hU0).1, (hpz Y hY0).1, (hpz (U + a) (by omega)).1, (hpz (Y - b) hYb).1] at ke
        rw [(hpz U hU0).2, (hpz Y hY0).2, (hpz (U + a) (by omega)).2, (hpz (Y - b) hYb).2] at kb
        have s1 : P0 * (U * Y) < P0 * ((U + a) * (Y - b)) := Int.mul_lt_mul_of_pos_left hprod (by omega)
        rw [← ke] at s1
        have s2 : P0 < P1 := by
          rcases Int.lt_or_le P0 P1 with c | c
          · exact c
          · have := Int.mul_le_mul_of_nonneg_right c (Int.le_of_lt (Int.mul_pos hU0 hY0))
            omega
        exact kb (by unfold bt; omega)
      · -- j thinks nothing of its own
        have z : Y = 0 := by omega
        obtain ⟨kb, ke⟩ := key g1 (by omega) f1
        obtain ⟨o1, o2⟩ := hone g1 (by omega) f1
        have zb : v j g1 = 0 := by omega
        rw [zb, z] at ke kb
        generalize v i g1 = a at *
        generalize cP (upd (upd (fun k => hv (v k) (nth q) (k : Nat) G) i (U + a)) j (0 - 0)) n = P1 at *
        have hpz : ∀ x : Int, 0 < x → pz x = x ∧ oz x = 1 := fun x hx => by unfold pz oz; rw [if_pos hx, if_pos hx]; exact ⟨rfl, rfl⟩
        have hz : pz (0 - 0) = 1 ∧ oz (0 - 0) = 0 ∧ pz 0 = 1 ∧ oz 0 = 0 := by decide
        rw [(hpz U hU0).1, (hpz (U + a) (by omega)).1, hz.1, hz.2.2.1, Int.mul_one, Int.mul_one] at ke
        rw [(hpz U hU0).2, (hpz (U + a) (by omega)).2, hz.2.1, hz.2.2.2] at kb
        have s1 : P0 * U < P0 * (U + a) := Int.mul_lt_mul_of_pos_left (by omega) (by omega)
        rw [← ke] at s1
        have s2 : P0 < P1 := by
          rcases Int.lt_or_le P0 P1 with c | c
          · exact c
          · have := Int.mul_le_mul_of_nonneg_right c (Int.le_of_lt hU0)
            omega
        exact kb (by unfold bt; omega)
    · -- i has nothing
      have zU : U = 0 := by omega
      have hoz : ∀ x : Int, 0 < x → oz x = 1 := fun x hx => by unfold oz; rw [if_pos hx]
      have hoz0 : ∀ x : Int, ¬ 0 < x → oz x = 0 := fun x hx => by unfold oz; rw [if_neg hx]
      have up : ∀ g, g < G → nth q g = (j : Nat) → 0 < v i g → (¬ 0 < Y ∨ 0 < Y - v j g) → False := fun g hg hf hp hc => by
        obtain ⟨kb, -⟩ := key g hg hf
        have := (hv0 j hj g hg).1
        rw [zU, hoz (0 + v i g) (by omega), hoz0 0 (by omega)] at kb
        rcases hc with c | c
        · rw [hoz0 Y c, hoz0 (Y - v j g) (by omega)] at kb
          exact kb (by unfold bt; omega)
        · rw [hoz Y (by omega), hoz (Y - v j g) c] at kb
          exact kb (by unfold bt; omega)
      have t2 := hv_two (f := nth q) (who := (j : Nat)) (hv0 j hj) G (Nat.le_refl _) g1 g2 g12 g2G f1 f2
      rw [hY] at t2
      by_cases c : ¬ 0 < Y ∨ 0 < Y - v j g1
      · exact up g1 (by omega) f1 w1 c
      · exact up g2 g2G f2 w2 (.inr (by omega))
  · exact hok
/-- AND NO WAY IS BETTER FOR ONE AND WORSE FOR NONE. -/
theorem Best.pareto (h : Best v n G q) (hv0 : ∀ i, i < n → OkF (v i) G) {d : List Int} (hd : Wy n G d) (hle : ∀ i, i < n → hv (v i) (nth q) (i : Nat) G ≤ hv (v i) (nth d) (i : Nat) G) : ¬ ∃ i, i < n ∧ hv (v i) (nth q) (i : Nat) G < hv (v i) (nth d) (i : Nat) G := fun hex => by
  have hb := h.best d hd
  rw [(q_c v _ G n).1, (q_c v _ G n).2, (q_c v (nth q) G n).1, (q_c v (nth q) G n).2] at hb
  obtain ⟨h1, h2⟩ := c_more (u := fun k => hv (v k) (nth q) (k : Nat) G) (u' := fun k => hv (v k) (nth d) (k : Nat) G) n (fun k hk => ⟨(hv_le (hv0 k hk) G (Nat.le_refl _)).1, hle k hk⟩)
  unfold bt at hb
  have h3 : cN (fun k => hv (v k) (nth q) (k : Nat) G) n = cN (fun k => hv (v k) (nth d) (k : Nat) G) n := by omega
  have := (h2 h3).2 hex
  omega
end
end Go.Proofs.Ytkeanlpgnnikjaa
