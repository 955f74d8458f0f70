import Derived.Test.YtkeanlpgnnikjaaA
namespace Go.Proofs.Ytkeanlpgnnikjaa
open Go.RowKit
/-- Where a way of k steps ends. -/
def itr (f : Nat → Nat) : Nat → Nat → Nat
  | 0, x => x
  | k + 1, x => f (itr f k x)
theorem itr_congr {f g : Nat → Nat} {n : Nat} (h : ∀ x, x < n → f x = g x) (hg : ∀ x, x < n → g x < n) : ∀ k x, x < n → itr f k x = itr g k x ∧ itr g k x < n := by
  intro k
  induction k with
  | zero => intro x hx; exact ⟨rfl, hx⟩
  | succ k ih =>
    intro x hx
    obtain ⟨h1, h2⟩ := ih x hx
    rw [itr, itr, h1, h _ h2]
    exact ⟨rfl, hg _ h2⟩
/-- Whether one is on the way, from the n-th step on, of r steps. -/
def onC (f : Nat → Nat) (n r x : Nat) : Bool := (List.range r).any fun t => itr f (n + t) 0 == x
theorem onC_congr {f g : Nat → Nat} {n : Nat} (h : ∀ x, x < n → f x = g x) (hg : ∀ x, x < n → g x < n) (hn : 0 < n) (r x : Nat) : onC f n r x = onC g n r x := by
  unfold onC
  congr 1
  funext t
  rw [(itr_congr h hg (n + t) 0 hn).1]
theorem onC_succ (f : Nat → Nat) (n r x : Nat) : onC f n (r + 1) x = (onC f n r x || (itr f (n + r) 0 == x)) := by
  unfold onC
  rw [List.range_succ, List.any_append]
  simp
def sg (f : Nat → Nat) (n r x : Nat) : Nat := if onC f n r x then f x else x
def f4 (a b c d : Nat) (k : Nat) : Nat := if k = 0 then a else if k = 1 then b else if k = 2 then c else d
def allB (n : Nat) (p : Nat → Bool) : Bool := (List.range n).all p
theorem allB_at {n : Nat} {p : Nat → Bool} (h : allB n p = true) {k : Nat} (hk : k < n) : p k = true := by
  unfold allB at h
  rw [List.all_eq_true] at h
  exact h k (List.mem_range.2 hk)
/-- What is to be said of all ways. -/
def good (f : Nat → Nat) (n : Nat) : Bool :=
  onC f n n (itr f (n + n) 0) && allB (n + 1) fun r => !(onC f n r (itr f (n + r) 0)) || (allB n (fun x => sg f n r x < n && allB n fun y => !(sg f n r x == sg f n r y) || x == y) && (List.range n).any (fun x => onC f n r x) && allB n (fun y => (List.range n).any fun x => sg f n r x == y))
theorem good_all : (allB 5 fun n => allB 4 fun a => allB 4 fun b => allB 4 fun c => allB 4 fun d => n == 0 || !(allB n fun k => f4 a b c d k < n) || good (f4 a b c d) n) = true := by decide +kernel
end Go.Proofs.Ytkeanlpgnnikjaa
