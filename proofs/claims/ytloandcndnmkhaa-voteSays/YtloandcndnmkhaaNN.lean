import Derived.Test.YtloandcndnmkhaaMM
namespace Go.Proofs.Ytloandcndnmkhaa
open Go.RowKit
/-- What the row o of who beats whom adds to x, up to the t-th thing. -/
def cRow (p : Nat → Nat → Int) (o : Nat) : Nat → Nat → Int
  | 0, _ => 0
  | t + 1, x => cRow p o t x + if p t o < p o t then (if x = o then 1 else 0) - (if x = t then 1 else 0) else 0
def cAll (p : Nat → Nat → Int) (n : Nat) : Nat → Nat → Int
  | 0, _ => 0
  | k + 1, x => cAll p n k x + cRow p k n x
def winsN (p : Nat → Nat → Int) (o : Nat) : Nat → Int
  | 0 => 0
  | t + 1 => winsN p o t + if p t o < p o t then 1 else 0
def lossN (p : Nat → Nat → Int) (x : Nat) : Nat → Int
  | 0 => 0
  | t + 1 => lossN p x t + if p x t < p t x then 1 else 0
theorem cRow_eq (p : Nat → Nat → Int) (o x : Nat) : ∀ t, cRow p o t x = (if x = o then winsN p o t else 0) - (if x < t ∧ p x o < p o x then 1 else 0) := by
  intro t
  induction t with
  | zero => simp [cRow, winsN]
  | succ t ih =>
    show cRow p o t x + (if p t o < p o t then (if x = o then 1 else 0) - (if x = t then 1 else 0) else 0) = (if x = o then winsN p o t + (if p t o < p o t then 1 else 0) else 0) - _
    rw [ih]
    by_cases e : x = t
    · subst e
      (repeat' split) <;> omega
    · (repeat' split) <;> omega
theorem cAll_eq (p : Nat → Nat → Int) (n x : Nat) (hx : x < n) : ∀ k, cAll p n k x = (if x < k then winsN p x n else 0) - lossN p x k := by
  intro k
  induction k with
  | zero => simp [cAll, lossN]
  | succ k ih =>
    show cAll p n k x + cRow p k n x = _ - (lossN p x k + if p x k < p k x then 1 else 0)
    rw [ih, cRow_eq]
    by_cases e : x = k
    · subst e
      (repeat' split) <;> omega
    · (repeat' split) <;> omega
theorem cpT_eq (p : Nat → Nat → Int) (x : Nat) : ∀ k, cpT p x k = winsN p x k - lossN p x k := by
  intro k
  induction k with
  | zero => rfl
  | succ k ih =>
    show cpT p x k + (if p k x < p x k then 1 else 0) - (if p x k < p k x then 1 else 0) = winsN p x k + (if p k x < p x k then 1 else 0) - (lossN p x k + if p x k < p k x then 1 else 0)
    rw [ih]
    omega
theorem copeland_same (p : Nat → Nat → Int) (n x : Nat) (hx : x < n) : cAll p n n x = cpT p x n := by
  rw [cAll_eq p n x hx, if_pos hx, cpT_eq]
end Go.Proofs.Ytloandcndnmkhaa
