import Derived.Test.YtodbnjainpjkcaaMD
namespace Go.Proofs.Ytodbnjainpjkcaa
open Go.RowKit
theorem nameOf_toList (c : UInt8) (i : Nat) : (nameOf c i).toList = [c, 48 + UInt8.ofNat i] := by
  simp [nameOf, ByteArray.toList_eq]
theorem digit_inj : ∀ i, i < 6 → ∀ j, j < 6 → (48 + UInt8.ofNat i : UInt8) = 48 + UInt8.ofNat j → i = j := by decide
theorem nameL : ∀ i, i < 6 → nameB (nameOf 108 i) = true := by decide +kernel
theorem nameR : ∀ i, i < 6 → nameB (nameOf 114 i) = true := by decide +kernel
/-- What Sides makes may be. -/
theorem made_fit {lL lR : List Ag} {nL nR : Nat} {one : Bool} (hL : nL = lL.length) (hR : nR = lR.length) (h1 : nL ≤ 6) (h2 : nR ≤ 6) (m1 : ∀ j, j < nL → Made 108 j nR true (agAt lL j)) (m2 : ∀ j, j < nR → Made 114 j nL one (agAt lR j)) : Fit lL lR := by
  have hat : ∀ k, k < (lL ++ lR).length → (k < nL ∧ agAt (lL ++ lR) k = agAt lL k) ∨ (∃ r, r < nR ∧ k = nL + r ∧ agAt (lL ++ lR) k = agAt lR r) := fun k hk => by
    rw [List.length_append] at hk
    by_cases c : k < nL
    · exact .inl ⟨c, agAt_left (by omega)⟩
    · refine .inr ⟨k - nL, by omega, by omega, ?_⟩
      rw [show k = lL.length + (k - nL) by omega, agAt_right]
      congr 1
      omega
  refine ⟨by omega, by omega, fun k hk => ?_, fun i j hij hj => ?_, fun k hk => ?_, fun k hk => ?_⟩
  · rcases hat k hk with ⟨c, e⟩ | ⟨r, c, _, e⟩
    · rw [e, (m1 k c).name]; exact nameL k (by omega)
    · rw [e, (m2 r c).name]; exact nameR r (by omega)
  · rcases hat i (by omega) with ⟨ci, ei⟩ | ⟨ri, ci, di, ei⟩ <;> rcases hat j hj with ⟨cj, ej⟩ | ⟨rj, cj, dj, ej⟩
    · rw [ei, ej, (m1 i ci).name, (m1 j cj).name, nameOf_toList, nameOf_toList]
      intro e
      simp only [List.cons.injEq, and_true, true_and] at e
      have := digit_inj i (by omega) j (by omega) e
      omega
    · rw [ei, ej, (m1 i ci).name, (m2 rj cj).name, nameOf_toList, nameOf_toList]
      intro e
      injection e with e1 e2
      exact absurd e1 (by decide)
    · omega
    · rw [ei, ej, (m2 ri ci).name, (m2 rj cj).name, nameOf_toList, nameOf_toList]
      intro e
      simp only [List.cons.injEq, and_true, true_and] at e
      have := digit_inj ri (by omega) rj (by omega) e
      omega
  · rcases hat k hk with ⟨c, e⟩ | ⟨r, c, _, e⟩
    · rw [e]; have := (m1 k c).room; omega
    · rw [e]; have := (m2 r c).room; omega
  · rcases hat k hk with ⟨c, e⟩ | ⟨r, c, d, e⟩
    · rw [e, if_pos (by omega), ← hR]; exact (m1 k c).likes
    · rw [e, if_neg (by omega), ← hL]; exact (m2 r c).likes
theorem made_match {lL lR : List Ag} (hF : Fit lL lR) (h : ∀ j, j < lL.length → (agAt lL j).room = 1) : matchE lL lR = 0 := by
  unfold matchE
  rw [if_pos hF.may, none_first fun i hi => by unfold wideP; rw [h i hi]; rfl]
  rfl
theorem stab_val {lL lR : List Ag} {ws : List Int} (hm : matchE lL lR = 0) (h : Stab lL lR ws) : ∃ x y, stabV lL lR ws (badB lL lR ws) = four true x y 0 := by
  rw [stab_same]
  exact stabV_true.2 ((stab_iff hm).2 h)
theorem val_stab {lL lR : List Ag} {ws : List Int} (hm : matchE lL lR = 0) {x y : Int} (h : stabV lL lR ws (badB lL lR ws) = four true x y 0) : Stab lL lR ws := by
  rw [stab_same] at h
  exact (stab_iff hm).1 (stabV_true.1 ⟨x, y, h⟩)
theorem made_ln {c : UInt8} {l : List Ag} {n o : Nat} {one : Bool} (hn : n = l.length) (h : ∀ j, j < n → Made c j o one (agAt l j)) : ∀ g ∈ l, g.ln ≤ 500 := fun g hg => by
  obtain ⟨j, hj, rfl⟩ := mem_agAt hg
  have := (h j (by omega)).ln
  omega
/-- What All finds is all that is stable. -/
theorem prog_stab {lL lR : List Ag} (hm : matchE lL lR = 0) {ws : List Int} (h : ws ∈ progF lL lR lL.length []) : Stab lL lR ws := by
  rw [prog_doc hm _ _ (good_nil (match_may hm)) (by simp)] at h
  exact (stab_iff hm).1 (doc_mem _ _ _ h)
theorem prog_some {lL lR : List Ag} (hm : matchE lL lR = 0) : 0 < (progF lL lR lL.length []).length := by
  rw [prog_doc hm _ _ (good_nil (match_may hm)) (by simp)]
  obtain ⟨o, l, h⟩ := doc_ex hm
  rw [h]
  simp
end Go.Proofs.Ytodbnjainpjkcaa
