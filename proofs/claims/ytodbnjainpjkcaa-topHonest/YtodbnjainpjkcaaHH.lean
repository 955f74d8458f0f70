import Derived.Test.YtodbnjainpjkcaaGG
namespace Go.Proofs.Ytodbnjainpjkcaa
open Go.RowKit
theorem list_same {a b : List Int} (hl : a.length = b.length) (h : ∀ l, l < a.length → atL a l = atL b l) : a = b := by
  refine List.ext_getElem hl fun j h1 h2 => ?_
  have := h j h1
  unfold atL at this
  rwa [List.getElem?_eq_getElem h1, List.getElem?_eq_getElem h2] at this
theorem jm_pick {lL lR : List Ag} {a b : List Int} (ha : Stab lL lR a) (hb : Stab lL lR b) : JM lL a b (pickTo (secJ lL a b) a b lL.length) (pickTo (secM lL a b) a b lL.length) := by
  have hJ : ∀ l, l < lL.length → atL (pickTo (secJ lL a b) a b lL.length) l = if gr lL l (atL b l) < gr lL l (atL a l) then atL b l else atL a l := fun l hl => by
    have := pick_at (secJ lL a b) a b lL.length l hl
    unfold atL
    rw [this]
    unfold pickAt secJ ratherB
    by_cases c : griefI (agAt lL l).likes (b[l]?.getD 0) < griefI (agAt lL l).likes (a[l]?.getD 0)
    · rw [decide_eq_true c, if_pos rfl]; exact (if_pos c).symm
    · rw [decide_eq_false c, if_neg (by decide)]; exact (if_neg c).symm
  have hM : ∀ l, l < lL.length → atL (pickTo (secM lL a b) a b lL.length) l = if gr lL l (atL b l) < gr lL l (atL a l) then atL a l else atL b l := fun l hl => by
    have := pick_at (secM lL a b) a b lL.length l hl
    unfold atL
    rw [this]
    unfold pickAt secM ratherB
    by_cases c : griefI (agAt lL l).likes (b[l]?.getD 0) < griefI (agAt lL l).likes (a[l]?.getD 0)
    · rw [decide_eq_true c, Bool.not_true, if_neg (by decide)]; exact (if_pos c).symm
    · rw [decide_eq_false c, Bool.not_false, if_pos rfl]; exact (if_neg c).symm
  refine ⟨pick_len _ _ _ _, pick_len _ _ _ _, fun l hl c => ?_, fun l hl c => ?_⟩
  · rw [hJ l hl, hM l hl, if_neg (by omega), if_neg (by omega)]; exact ⟨rfl, rfl⟩
  · rw [hJ l hl, hM l hl]
    by_cases e : gr lL l (atL b l) < gr lL l (atL a l)
    · rw [if_pos e, if_pos e]; exact ⟨rfl, rfl⟩
    · rw [if_neg e, if_neg e]
      have := gr_same ha hb hl (by omega)
      rw [this]; exact ⟨rfl, rfl⟩
theorem blend_ok {lL lR : List Ag} (hm : matchE lL lR = 0) {a b : List Int} (ha : Stab lL lR a) (hb : Stab lL lR b) : blendE lL lR a b = 0 := by
  have h1 : withE lL lR a = 0 := by
    have := (stab_iff hm).2 ha
    unfold stabB at this
    rw [Bool.and_eq_true, decide_eq_true_eq] at this
    exact this.1
  have h2 : withE lL lR b = 0 := by
    have := (stab_iff hm).2 hb
    unfold stabB at this
    rw [Bool.and_eq_true, decide_eq_true_eq] at this
    exact this.1
  unfold blendE
  rw [if_pos h1]
  exact h2
/-- The fold of Blend. -/
def bestT (lL lR : List Ag) (o : List Int) (l : List (List Int)) : List Int := l.foldl (fun o x => blendL lL lR (secDT lL o x) o x) o
def bestF (lL lR : List Ag) (o : List Int) (l : List (List Int)) : List Int := l.foldl (fun o x => blendL lL lR (secDF lL o x) o x) o
theorem bestT_spec {lL lR : List Ag} (hm : matchE lL lR = 0) : ∀ l o, Stab lL lR o → (∀ x, x ∈ l → Stab lL lR x) → Stab lL lR (bestT lL lR o l) ∧ ∀ x, x = o ∨ x ∈ l → ∀ k, k < lL.length → gr lL k (atL (bestT lL lR o l) k) ≤ gr lL k (atL x k) := by
  intro l
  induction l with
  | nil =>
    intro o ho _
    refine ⟨ho, fun x hx k _ => ?_⟩
    rcases hx with rfl | h
    · exact Int.le_refl _
    · cases h
  | cons y l ih =>
    intro o ho hl
    have hy := hl y (by simp)
    have e : blendL lL lR (secDT lL o y) o y = pickTo (secJ lL o y) o y lL.length := by rw [blend_J]; unfold blendL; rw [if_pos (blend_ok hm ho hy), ho.len]
    have hj := jm_pick ho hy
    have hs := hj.join ho hy
    obtain ⟨h1, h2⟩ := ih (pickTo (secJ lL o y) o y lL.length) hs (fun x hx => hl x (by simp [hx]))
    have hb : bestT lL lR o (y :: l) = bestT lL lR (pickTo (secJ lL o y) o y lL.length) l := by unfold bestT; rw [List.foldl_cons, e]
    rw [hb]
    refine ⟨h1, fun x hx k hk => ?_⟩
    have h0 := h2 _ (Or.inl rfl) k hk
    have hmin : gr lL k (atL (pickTo (secJ lL o y) o y lL.length) k) ≤ gr lL k (atL o k) ∧ gr lL k (atL (pickTo (secJ lL o y) o y lL.length) k) ≤ gr lL k (atL y k) := by
      rcases Int.le_total (gr lL k (atL o k)) (gr lL k (atL y k)) with c | c
      · rw [(hj.lo k hk c).1]; omega
      · rw [(hj.hi k hk c).1]; omega
    rcases hx with rfl | hx
    · omega
    · rcases List.mem_cons.1 hx with rfl | hx
      · omega
      · exact h2 x (Or.inr hx) k hk
theorem bestF_spec {lL lR : List Ag} (hm : matchE lL lR = 0) : ∀ l o, Stab lL lR o → (∀ x, x ∈ l → Stab lL lR x) → Stab lL lR (bestF lL lR o l) ∧ ∀ x, x = o ∨ x ∈ l → ∀ k, k < lL.length → gr lL k (atL x k) ≤ gr lL k (atL (bestF lL lR o l) k) := by
  intro l
  induction l with
  | nil =>
    intro o ho _
    refine ⟨ho, fun x hx k _ => ?_⟩
    rcases hx with rfl | h
    · exact Int.le_refl _
    · cases h
  | cons y l ih =>
    intro o ho hl
    have hy := hl y (by simp)
    have e : blendL lL lR (secDF lL o y) o y = pickTo (secM lL o y) o y lL.length := by rw [blend_M]; unfold blendL; rw [if_pos (blend_ok hm ho hy), ho.len]
    have hj := jm_pick ho hy
    have hs := hj.meet ho hy
    obtain ⟨h1, h2⟩ := ih (pickTo (secM lL o y) o y lL.length) hs (fun x hx => hl x (by simp [hx]))
    have hb : bestF lL lR o (y :: l) = bestF lL lR (pickTo (secM lL o y) o y lL.length) l := by unfold bestF; rw [List.foldl_cons, e]
    rw [hb]
    refine ⟨h1, fun x hx k hk => ?_⟩
    have h0 := h2 _ (Or.inl rfl) k hk
    have hmax : gr lL k (atL o k) ≤ gr lL k (atL (pickTo (secM lL o y) o y lL.length) k) ∧ gr lL k (atL y k) ≤ gr lL k (atL (pickTo (secM lL o y) o y lL.length) k) := by
      rcases Int.le_total (gr lL k (atL o k)) (gr lL k (atL y k)) with c | c
      · rw [(hj.lo k hk c).2]; omega
      · rw [(hj.hi k hk c).2]; omega
    rcases hx with rfl | hx
    · omega
    · rcases List.mem_cons.1 hx with rfl | hx
      · omega
      · exact h2 x (Or.inr hx) k hk
/-- The best of all that is stable is what the left gets by asking; the worst, what the right gives. -/
theorem best_left {lL lR : List Ag} (hm : matchE lL lR = 0) {ws asked : List Int} (hA : Asks lL lR ws asked) (hF : Asked lL ws asked) {o : List Int} {l : List (List Int)} (h : docF lL lR lL.length [] = o :: l) : bestT lL lR o l = ws := by
  have hI := hA.inv (match_may hm)
  have hs := hI.stab hF
  have hall : ∀ x, x ∈ o :: l → Stab lL lR x := fun x hx => (stab_iff hm).1 (doc_mem _ _ _ (by rw [h]; exact hx))
  obtain ⟨h1, h2⟩ := bestT_spec hm l o (hall o (by simp)) (fun x hx => hall x (by simp [hx]))
  have hin : ws ∈ o :: l := by rw [← h]; have := doc_all hm hs lL.length 0 (by omega); rwa [List.take_zero] at this
  refine list_same (by rw [h1.len, hs.len]) fun k hk => ?_
  rw [h1.len] at hk
  exact gr_same h1 hs hk (Int.le_antisymm (h2 ws (List.mem_cons.1 hin) k hk) (hI.best hF h1 hk))
theorem worst_right {lL lR : List Ag} (hm : matchE lL lR = 0) {ws asked : List Int} (hA : RAsks lL lR ws asked) (hF : ∀ r, r < lR.length → ¬ Eager lR ws asked r) {o : List Int} {l : List (List Int)} (h : docF lL lR lL.length [] = o :: l) : bestF lL lR o l = ws := by
  have hI := hA.inv (match_may hm)
  have hs := hI.stab hF
  have hall : ∀ x, x ∈ o :: l → Stab lL lR x := fun x hx => (stab_iff hm).1 (doc_mem _ _ _ (by rw [h]; exact hx))
  obtain ⟨h1, h2⟩ := bestF_spec hm l o (hall o (by simp)) (fun x hx => hall x (by simp [hx]))
  have hin : ws ∈ o :: l := by rw [← h]; have := doc_all hm hs lL.length 0 (by omega); rwa [List.take_zero] at this
  refine list_same (by rw [h1.len, hs.len]) fun k hk => ?_
  rw [h1.len] at hk
  exact gr_same h1 hs hk (Int.le_antisymm (hI.worst h1 hk) (h2 ws (List.mem_cons.1 hin) k hk))
theorem doc_some {lL lR : List Ag} (hm : matchE lL lR = 0) {ws asked : List Int} (hA : Asks lL lR ws asked) (hF : Asked lL ws asked) : ∃ o l, docF lL lR lL.length [] = o :: l := by
  have hs := (hA.inv (match_may hm)).stab hF
  have := doc_all hm hs lL.length 0 (by omega)
  rw [List.take_zero] at this
  cases hq : docF lL lR lL.length [] with
  | nil => rw [hq] at this; cases this
  | cons o l => exact ⟨o, l, rfl⟩
theorem doc_len {lL lR : List Ag} : ∀ f ws, (docF lL lR f ws).length ≤ (lR.length + 1) ^ f := by
  intro f
  induction f with
  | zero => intro ws; rw [docF]; split <;> simp
  | succ f ih =>
    intro ws
    rw [docF, List.length_append, Nat.pow_succ]
    have h1 := ih (ws ++ [-1])
    have h2 : ∀ n, ((List.range n).flatMap fun r => if likeB lL lR ws.length r = true then docF lL lR f (ws ++ [(r : Int)]) else []).length ≤ n * (lR.length + 1) ^ f := by
      intro n
      induction n with
      | zero => simp
      | succ n ihn =>
        rw [List.range_succ, List.flatMap_append, List.length_append, Nat.succ_mul]
        refine Nat.add_le_add ihn ?_
        rw [List.flatMap_cons, List.flatMap_nil, List.append_nil]
        split
        · exact ih _
        · exact Nat.zero_le _
    have := h2 lR.length
    rw [Nat.mul_comm ((lR.length + 1) ^ f), Nat.add_mul, Nat.one_mul]
    omega
end Go.Proofs.Ytodbnjainpjkcaa
