import Derived.Test.YtfagkgehljoppaaK
namespace Go.Proofs.Ytfagkgehljoppaa
open Go.RowKit
/-- The document's walk: all chains in one row, the rounds first. -/
def okC (gv rd rw : Int) (F : List Sl) (row : Bool) (l : List Int) : Bool := if row = true then rowB gv rw l.length l else roundB gv rd F l.length l
def giC (row : Bool) (l : List Int) : Int := if row = true then (l.length : Int) - 1 else l.length
def runR (gv rd rw : Int) (F : List Sl) : List (Bool × List Int) → List Int → Int → Int × Int
  | [], _, g => (g, 0)
  | c :: rest, u, g => if chE F F.length c.2 u ≠ 0 then (0, chE F F.length c.2 u) else if okC gv rd rw F c.1 c.2 = false then (0, 11) else runR gv rd rw F rest (u ++ c.2) (g + giC c.1 c.2)
def allC (rounds rows : List (List Int)) : List (Bool × List Int) := rounds.map (fun l => (false, l)) ++ rows.map (fun l => (true, l))
theorem run_rows (gv rd rw : Int) (F : List Sl) : ∀ (rows : List (List Int)) (u : List Int) (g : Int), runR gv rd rw F (rows.map fun l => (true, l)) u g = if (planR F F.length (fun l => rowB gv rw l.length l) (fun l => (l.length : Int) - 1) rows u g).1 = 0 then ((planR F F.length (fun l => rowB gv rw l.length l) (fun l => (l.length : Int) - 1) rows u g).2.2, 0) else (0, (planR F F.length (fun l => rowB gv rw l.length l) (fun l => (l.length : Int) - 1) rows u g).1) := by
  intro rows
  induction rows with
  | nil => intro u g; rfl
  | cons l rest ih =>
    intro u g
    rw [List.map_cons, runR]
    by_cases h1 : chE F F.length l u = 0
    · rw [if_neg (by show ¬ chE F F.length l u ≠ 0; rw [h1]; omega)]
      cases h2 : rowB gv rw l.length l with
      | false => rw [if_pos (by unfold okC; rw [if_pos rfl]; exact h2), planR_no (mayB := fun l => rowB gv rw l.length l) h1 h2]; rfl
      | true =>
        rw [if_neg (by unfold okC; rw [if_pos rfl]; show ¬ rowB gv rw l.length l = false; rw [h2]; simp), planR_on (mayB := fun l => rowB gv rw l.length l) h1 h2]
        exact ih (u ++ l) (g + ((l.length : Int) - 1))
    · rw [if_pos h1, planR_bad h1, if_neg h1]
theorem run_all (gv rd rw : Int) (F : List Sl) (rows : List (List Int)) : ∀ (rounds : List (List Int)) (u : List Int) (g : Int), runR gv rd rw F (allC rounds rows) u g = chk2 gv rw F rows (planR F F.length (fun l => roundB gv rd F l.length l) (fun l => (l.length : Int)) rounds u g) := by
  intro rounds
  induction rounds with
  | nil =>
    intro u g
    show runR gv rd rw F (rows.map fun l => (true, l)) u g = chk2 gv rw F rows (0, u, g)
    rw [run_rows]
    unfold chk2
    rw [if_pos rfl]
  | cons l rest ih =>
    intro u g
    show runR gv rd rw F ((false, l) :: allC rest rows) u g = _
    rw [runR]
    by_cases h1 : chE F F.length l u = 0
    · rw [if_neg (by show ¬ chE F F.length l u ≠ 0; rw [h1]; omega)]
      cases h2 : roundB gv rd F l.length l with
      | false =>
        rw [if_pos (by unfold okC; rw [if_neg (by simp)]; exact h2), planR_no (mayB := fun l => roundB gv rd F l.length l) h1 h2]
        unfold chk2
        rw [if_neg (by omega)]
      | true =>
        rw [if_neg (by unfold okC; rw [if_neg (by simp)]; show ¬ roundB gv rd F l.length l = false; rw [h2]; simp), planR_on (mayB := fun l => roundB gv rd F l.length l) h1 h2]
        exact ih (u ++ l) (g + (l.length : Int))
    · rw [if_pos h1, planR_bad h1]
      unfold chk2
      rw [if_neg h1]
theorem chk_run (gv rd rw : Int) (F : List Sl) (rounds rows : List (List Int)) (h : maySw gv rd rw F = 0) : chkR gv rd rw F rounds rows = runR gv rd rw F (allC rounds rows) [] 0 := by
  unfold chkR
  rw [if_pos h, run_all]
end Go.Proofs.Ytfagkgehljoppaa
