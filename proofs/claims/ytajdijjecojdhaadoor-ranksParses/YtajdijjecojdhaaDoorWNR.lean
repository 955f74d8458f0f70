import Derived.Test.YtajdijjecojdhaaDoorWNQ
import Derived.Test.YtajdijjecojdhaaDoorWG8
import Derived.BigQuiet
namespace Go.Proofs.YtajdijjecojdhaaDoor
open Go.RowKit
attribute [local go_sem] Oper.semAt_some
theorem set3 {wr : World} {g : Nat} {x0 x1 x2 x3 x4 y1 y2 y3 : Value} {t : TypeId} (h : wr.heap[g]? = some (.cells #[x0, x1, x2, x3, x4] t (0, 0))) :
    (((wr.setCell ⟨g, 1, none⟩ y1).setCell ⟨g, 2, none⟩ y2).setCell ⟨g, 3, none⟩ y3).heap[g]? = some (.cells #[x0, y1, y2, y3, x4] t (0, 0)) := by
  rw [heap_setCell_same _ _ _ _ _ _ (heap_setCell_same _ _ _ _ _ _ (heap_setCell_same _ _ _ _ _ _ h))]; rfl
theorem off3 {wr : World} {g q : Nat} {y1 y2 y3 : Value} (h : q ≠ g) : (((wr.setCell ⟨g, 1, none⟩ y1).setCell ⟨g, 2, none⟩ y2).setCell ⟨g, 3, none⟩ y3).heap[q]? = wr.heap[q]? := by
  rw [Below.heap_setCell _ _ _ _ h, Below.heap_setCell _ _ _ _ h, Below.heap_setCell _ _ _ _ h]
theorem below3 {w w' : World} {G g : Nat} {y1 y2 y3 : Value} (h : Below G w w') (hg : G ≤ g) : Below G w (((w'.setCell ⟨g, 1, none⟩ y1).setCell ⟨g, 2, none⟩ y2).setCell ⟨g, 3, none⟩ y3) :=
  ((h.setCell (p := ⟨g, 1, none⟩) hg _).setCell (p := ⟨g, 2, none⟩) hg _).setCell (p := ⟨g, 3, none⟩) hg _
theorem in9_of_own {w : World} {B : Nat} {v : Value} {j : Nat} {l : List ByteArray} (h : w.ownsRow B 9 1 v j (l.map Value.string)) (hj : j = l.length) (hs : ∀ s ∈ l, s.size ≤ maxLen) : ∃ la lc, v = .slice la j lc ∧ In9 w la j lc l := by
  rcases Nat.eq_zero_or_pos j with h0 | h0
  · subst h0
    have hl : l = [] := List.eq_nil_of_length_eq_zero hj.symm
    subst hl
    rcases h.2 with ⟨e, _⟩ | ⟨g, cap, cur, e, hb, hg, hn, hc, hz, ht⟩
    · exact ⟨none, 0, e, ⟨rfl, Nat.le_refl _, Nat.zero_le _, hs, .inl rfl⟩, .inl rfl⟩
    · subst e
      exact ⟨some ⟨g, 0, none⟩, cap, rfl, strz_of_row h hs, .inl rfl⟩
  · obtain ⟨g, cap, rfl⟩ := own64_slice h h0
    exact ⟨some ⟨g, 0, none⟩, cap, rfl, strz_of_row h hs, .inr ⟨g, 0, rfl, own_tb h rfl⟩⟩
theorem own5 {w : World} {B e sz k : Nat} {v : Value} {xs : List Value} {g : Nat} {y0 y1 y2 y3 y4 : Value} (h : w.ownsRow B e sz v k xs) (hg : g < B) : (((((w.setCell ⟨g, 0, none⟩ y0).setCell ⟨g, 1, none⟩ y1).setCell ⟨g, 2, none⟩ y2).setCell ⟨g, 3, none⟩ y3).setCell ⟨g, 4, none⟩ y4).ownsRow B e sz v k xs := own_set (own_set (own_set (own_set (own_set h hg) hg) hg) hg) hg
theorem below5 {w w' : World} {g : Nat} {y0 y1 y2 y3 y4 : Value} (h : Below g w w') : Below g w (((((w'.setCell ⟨g, 0, none⟩ y0).setCell ⟨g, 1, none⟩ y1).setCell ⟨g, 2, none⟩ y2).setCell ⟨g, 3, none⟩ y3).setCell ⟨g, 4, none⟩ y4) :=
  ((((h.setCell (p := ⟨g, 0, none⟩) (Nat.le_refl _) _).setCell (p := ⟨g, 1, none⟩) (Nat.le_refl _) _).setCell (p := ⟨g, 2, none⟩) (Nat.le_refl _) _).setCell (p := ⟨g, 3, none⟩) (Nat.le_refl _) _).setCell (p := ⟨g, 4, none⟩) (Nat.le_refl _) _
theorem room_err {y : ByteArray} {t' : List ByteArray} {ke : Int} (hcol : (y.toList == [58]) = false) (hy0 : 0 < y.size) (h : roomP (y :: t') = .error ke) :
    (digFrom y 0 = false → ke = 3) ∧ (digFrom y 0 = true → (1 < y.size → y[0].toNat = 48 → ke = 3) ∧ (1 < y.size → y[0].toNat ≠ 48 → ke = 9) ∧ (y.size = 1 → ¬ (49 ≤ y[0].toNat ∧ y[0].toNat ≤ 52) ∧ ke = 9)) := by
  simp only [roomP, hcol, Bool.false_eq_true, if_false] at h
  unfold numB roomV at h
  rw [dif_pos hy0, dif_pos hy0] at h
  constructor
  · intro hd
    rw [hd] at h
    simp at h
    omega
  · intro hd
    rw [hd] at h
    refine ⟨fun h1 h2 => ?_, fun h1 h2 => ?_, fun h1 => ?_⟩
    · simp [show ¬ y.size = 1 by omega, h2] at h
      omega
    · simp [show ¬ y.size = 1 by omega, h2] at h
      omega
    · simp only [h1, decide_true, Bool.true_or, Bool.and_true, if_true, true_and] at h
      split at h
      · cases h
      · rename_i h3
        split at h3
        · cases h3
        · rename_i h4
          injection h with h
          exact ⟨h4, by omega⟩
theorem room_okk {y : ByteArray} {t' t2 : List ByteArray} {r : Int} (hcol : (y.toList == [58]) = false) (hy0 : 0 < y.size) (h : roomP (y :: t') = .ok (r, t2)) :
    t2 = t' ∧ y.size = 1 ∧ 49 ≤ y[0].toNat ∧ y[0].toNat ≤ 52 ∧ r = (y[0].toNat : Int) - 48 := by
  simp only [roomP, hcol, Bool.false_eq_true, if_false] at h
  split at h
  · split at h
    · rename_i r' hr
      injection h with h
      injection h with h1 h2
      unfold roomV at hr
      rw [dif_pos hy0] at hr
      split at hr
      · rename_i h3
        injection hr with hr
        exact ⟨h2.symm, h3.1, h3.2.1, h3.2.2, by omega⟩
      · cases hr
    · cases h
  · cases h
end Go.Proofs.YtajdijjecojdhaaDoor
