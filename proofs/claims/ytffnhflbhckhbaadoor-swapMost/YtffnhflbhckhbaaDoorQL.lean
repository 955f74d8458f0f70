import Derived.Test.YtffnhflbhckhbaaDoorQK
import Derived.Test.YtffnhflbhckhbaaDoorE
namespace Go.Proofs.YtffnhflbhckhbaaDoor
open Go.RowKit Go.Shelf
theorem idx_memL (l : List Int) (x : Int) : decide (0 ≤ idxFrom l x 0) = decide (x ∈ l) := by
  rcases idxFrom_spec l x _ 0 rfl with ⟨h1, h2⟩ | ⟨m, _, h2, h3, h4, _⟩
  · rw [decide_eq_false (by omega), decide_eq_false]
    intro h
    obtain ⟨i, hi, e⟩ := List.getElem_of_mem h
    exact h2 i (Nat.zero_le _) hi (by rw [List.getElem?_eq_getElem hi]; exact e)
  · rw [decide_eq_true (by omega), decide_eq_true]
    rw [List.getElem?_eq_getElem h2] at h3
    rw [← h3]
    exact List.getElem_mem h2
theorem may_row {gv rd rw : Int} {F : List Sl} {l : List Int} (h : hd l < gv) : rowB gv rw l.length l = mayL (sOf gv rd rw F) l := by
  unfold rowB mayL
  have h1 : isRow (sOf gv rd rw F) l = true := by unfold isRow; exact decide_eq_true h
  rw [h1, if_pos rfl]
  have h2 : decide (l[0]?.getD 0 < gv) = true := decide_eq_true h
  rw [h2, Bool.and_true]
  rfl
theorem may_round {gv rd rw : Int} {F : List Sl} {l : List Int} (h : ¬ hd l < gv) : roundB gv rd F l.length l = mayL (sOf gv rd rw F) l := by
  unfold roundB mayL fitsB
  have h1 : isRow (sOf gv rd rw F) l = false := by unfold isRow; exact decide_eq_false h
  rw [h1, if_neg (by simp)]
  have h2 : decide (l[0]?.getD 0 < gv) = false := decide_eq_false h
  rw [h2, Bool.not_false, Bool.true_and, idx_memL]
  rfl
/-- The function by which a chain is told to be one. -/
def fmOf (gv a0 : Int) : Nat := if a0 < gv then 23 else 22
theorem fm_run (gv a0 : Int) : ∀ args X, (callFunc (fmOf gv a0) args).run Tryd.prog X = .ok (.enter (fmOf gv a0) args) X := by
  intro args X
  unfold fmOf
  split
  · kernel_rfl
  · kernel_rfl
theorem may_call {gv rd rw a0 : Int} {fa : Option Addr} {fn fc : Nat} {F : List Sl} : ∀ (X : World) (a' : Option Addr) (cp : Nat) (l : List Int), Lsts X fa fn fc F → Ints X a' l.length cp l → 2 ≤ l.length → l.length ≤ 9 → (∀ x ∈ l, 0 ≤ x ∧ x < (F.length : Int)) → hd l = a0 → Calls Tryd.prog (fmOf gv a0) #[swV gv rd rw fa fn fc, .slice a' l.length cp] X fun e X' => e = .returned (.bool (mayL (sOf gv rd rw F) l)) ∧ Below X.heap.size X X' := by
  intro X a' cp l hF hI h2 h9 hr hh
  unfold fmOf
  by_cases h : a0 < gv
  · rw [if_pos h]
    refine (mayRow_any gv rd rw fa fn fc a' l.length cp l X hI h2 (by omega)).mono ?_
    rintro e X' ⟨rfl, hb'⟩
    exact ⟨by rw [may_row (rd := rd) (F := F) (by rw [hh]; exact h)], hb'⟩
  · rw [if_neg h]
    have hl : 0 ≤ l[l.length - 1]?.getD 0 ∧ l[l.length - 1]?.getD 0 < (fn : Int) := by
      have := hr (l[l.length - 1]?.getD 0) (by rw [List.getElem?_eq_getElem (by omega)]; exact List.getElem_mem _)
      rw [hF.1]
      exact this
    refine (mayRound_any gv rd rw fa fn fc F a' l.length cp l X hF hI h2 (by omega) hl).mono ?_
    rintro e X' ⟨rfl, hb'⟩
    exact ⟨by rw [may_round (rw := rw) (by rw [hh]; exact h)], hb'⟩
end Go.Proofs.YtffnhflbhckhbaaDoor
