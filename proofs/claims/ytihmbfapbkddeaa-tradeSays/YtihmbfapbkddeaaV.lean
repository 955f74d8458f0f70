import Derived.Test.YtihmbfapbkddeaaU
namespace Go.Proofs.Ytihmbfapbkddeaa
open Go.RowKit
theorem and_bit : ∀ s : Nat, s < 64 → ∀ x : Nat, x < 6 → bits .and .i64 ((s : Int) / 2 ^ x) 1 = if s.testBit x = true then 1 else 0 := by decide +kernel
theorem andNot_bit : ∀ s : Nat, s < 64 → ∀ x : Nat, x < 6 → s.testBit x = true → bits .andNot .i64 (s : Int) (wrap64 (2 ^ x)) = ((s ^^^ 2 ^ x : Nat) : Int) := by decide +kernel
theorem xor_lt : ∀ s : Nat, s < 64 → ∀ x : Nat, x < 6 → s ^^^ 2 ^ x < 64 := by decide +kernel
theorem quiet_skip {Pr : Program} {ops : Array Oper} {C : World → Prop} {Q : Act → Prop} {a : Act} {o : Oper} {rest : List Oper} (hw : Region.wanted o (yielded ops a.tmps) = false) (h : wpQuiet Pr ops C Q rest (a.put o.dst undef)) : wpQuiet Pr ops C Q (o :: rest) a := by
  unfold wpQuiet
  rw [if_neg (by rw [hw]; exact Bool.false_ne_true)]
  exact h
theorem index_below (a : Option Addr) (n c : Nat) (l : List Int) (x : Int) (w : World) (h : Ints w a n c l) :
    Calls Try.prog 45 #[.slice a n c, .int .i64 x] w fun e w' => e = .returned (.int .i64 (idxFrom l x 0)) ∧ Below w.heap.size w w' :=
  (index_any a n c l x w h).mono fun _ _ ⟨he, hw⟩ => ⟨he, by rw [hw]; exact Below.refl _ _⟩
/-- How the closure's boxes lie. -/
structure DB (W : World) (b : Nat) (wa : Option Addr) (n wc : Nat) (set : Nat) (ga : Option Addr) (gn gc : Nat) : Prop where
  c0 : W.cell? ⟨b, 0, none⟩ = some (.slice wa n wc)
  c1 : W.cell? ⟨b + 1, 0, none⟩ = some (.slice ga gn gc)
  c2 : W.cell? ⟨b + 2, 0, none⟩ = some (.int .i64 set)
  c3 : W.cell? ⟨b + 3, 0, none⟩ = some (.func (.func 44) #[] #[.pointer (some ⟨b, 0, none⟩), .pointer (some ⟨b + 2, 0, none⟩), .pointer (some ⟨b + 3, 0, none⟩), .pointer (some ⟨b + 1, 0, none⟩)])
theorem DB.later {W W' : World} {b : Nat} {wa : Option Addr} {n wc : Nat} {set : Nat} {ga : Option Addr} {gn gc : Nat} (h : DB W b wa n wc set ga gn gc) (hb : Below W.heap.size W W') : DB W' b wa n wc set ga gn gc :=
  ⟨(hb.cell (p := ⟨b, 0, none⟩) (World.block_lt_of_cell? W _ h.c0)).trans h.c0, (hb.cell (p := ⟨b + 1, 0, none⟩) (World.block_lt_of_cell? W _ h.c1)).trans h.c1, (hb.cell (p := ⟨b + 2, 0, none⟩) (World.block_lt_of_cell? W _ h.c2)).trans h.c2, (hb.cell (p := ⟨b + 3, 0, none⟩) (World.block_lt_of_cell? W _ h.c3)).trans h.c3⟩
/-- Those of a set, from k on. -/
def whoF (set n k : Nat) : List Nat := (List.range' k (n - k)).filter fun j => set.testBit j
theorem who_end (set n : Nat) : whoF set n n = [] := by unfold whoF; rw [Nat.sub_self]; rfl
theorem who_yes {set n k : Nat} (h : k < n) (hb : set.testBit k = true) : whoF set n k = k :: whoF set n (k + 1) := by
  unfold whoF
  rw [show n - k = (n - (k + 1)) + 1 by omega, List.range'_succ, List.filter_cons, if_pos hb]
theorem who_no {set n k : Nat} (h : k < n) (hb : set.testBit k = false) : whoF set n k = whoF set n (k + 1) := by
  unfold whoF
  rw [show n - k = (n - (k + 1)) + 1 by omega, List.range'_succ, List.filter_cons, if_neg (by rw [hb]; simp)]
theorem who_zero (set n : Nat) : whoF set n 0 = whoL set n := by
  unfold whoF whoL
  rw [Nat.sub_zero, List.range_eq_range']
/-- Any from i on. -/
def anyFrom (f : Nat → Bool) (N i : Nat) : Bool := (List.range' i (N - i)).any f
theorem any_yes {f : Nat → Bool} {N i : Nat} (h : i < N) (hf : f i = true) : anyFrom f N i = true := by
  unfold anyFrom
  rw [show N - i = (N - (i + 1)) + 1 by omega, List.range'_succ, List.any_cons, hf]; rfl
theorem any_no {f : Nat → Bool} {N i : Nat} (h : i < N) (hf : f i = false) : anyFrom f N i = anyFrom f N (i + 1) := by
  unfold anyFrom
  rw [show N - i = (N - (i + 1)) + 1 by omega, List.range'_succ, List.any_cons, hf]; rfl
theorem any_end {f : Nat → Bool} {N i : Nat} (h : ¬ i < N) : anyFrom f N i = false := by
  unfold anyFrom
  rw [show N - i = 0 by omega]; rfl
theorem any_zero (f : Nat → Bool) (N : Nat) : anyFrom f N 0 = (List.range N).any f := by
  unfold anyFrom
  rw [Nat.sub_zero, List.range_eq_range']
end Go.Proofs.Ytihmbfapbkddeaa
