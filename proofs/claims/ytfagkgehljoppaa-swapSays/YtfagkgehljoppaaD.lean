import Derived.Test.YtfagkgehljoppaaC
namespace Go.Proofs.Ytfagkgehljoppaa
open Go.RowKit
/-- What one's gift fits is not as it should be, at k. -/
def badP (gv : Int) (n i : Nat) (l : List Int) (k : Nat) : Bool :=
  decide (l[k]?.getD 0 < gv) || (decide ((n : Int) ≤ l[k]?.getD 0) || (decide (l[k]?.getD 0 = (i : Int)) || (decide (0 < k) && decide (l[k]?.getD 0 ≤ l[k - 1]?.getD 0))))
def okRow (gv : Int) (n i : Nat) (l : List Int) : Nat → Bool
  | 0 => true
  | k + 1 => okRow gv n i l k && !badP gv n i l k
def okAll (gv : Int) (n : Nat) (F : List Sl) : Nat → Bool
  | 0 => true
  | i + 1 => okAll gv n F i && okRow gv n i (slAt F i).ints (slAt F i).ints.length
theorem okRow_false {gv : Int} {n i : Nat} {l : List Int} {k : Nat} (h : badP gv n i l k = true) : ∀ m, k < m → okRow gv n i l m = false := by
  intro m
  induction m with
  | zero => intro h0; omega
  | succ m ih =>
    intro hk
    by_cases e : k = m
    · subst e; rw [okRow, h]; simp
    · rw [okRow, ih (by omega)]; rfl
theorem okRow_yes {gv : Int} {n i : Nat} {l : List Int} : ∀ {m}, okRow gv n i l m = true → ∀ k, k < m → badP gv n i l k = false := by
  intro m h k hk
  cases hb : badP gv n i l k with
  | false => rfl
  | true => rw [okRow_false hb m hk] at h; cases h
theorem okAll_false {gv : Int} {n : Nat} {F : List Sl} {i : Nat} (h : okRow gv n i (slAt F i).ints (slAt F i).ints.length = false) : ∀ m, i < m → okAll gv n F m = false := by
  intro m
  induction m with
  | zero => intro h0; omega
  | succ m ih =>
    intro hk
    by_cases e : i = m
    · subst e; rw [okAll, h]; simp
    · rw [okAll, ih (by omega)]; rfl
theorem okAll_yes {gv : Int} {n : Nat} {F : List Sl} : ∀ {m}, okAll gv n F m = true → ∀ i, i < m → okRow gv n i (slAt F i).ints (slAt F i).ints.length = true := by
  intro m h i hi
  cases hb : okRow gv n i (slAt F i).ints (slAt F i).ints.length with
  | true => rfl
  | false => rw [okAll_false hb m hi] at h; cases h
/-- What May says. -/
def fitE (b : Bool) : Int := if b = true then 0 else 8
def maySw (gv rd rw : Int) (F : List Sl) : Int :=
  if 8 < F.length then 2 else if gv < 0 ∨ (F.length : Int) < gv then 7 else if rd < 0 ∨ (F.length : Int) < rd ∨ rw < 0 ∨ (F.length : Int) < rw then 9 else fitE (okAll gv F.length F F.length)
theorem swm1 {gv rd rw : Int} {F : List Sl} (h : 8 < F.length) : maySw gv rd rw F = 2 := by unfold maySw; rw [if_pos h]
theorem swm2 {gv rd rw : Int} {F : List Sl} (h : ¬ 8 < F.length) (h2 : gv < 0 ∨ (F.length : Int) < gv) : maySw gv rd rw F = 7 := by unfold maySw; rw [if_neg h, if_pos h2]
theorem swm3 {gv rd rw : Int} {F : List Sl} (h : ¬ 8 < F.length) (h2 : ¬ (gv < 0 ∨ (F.length : Int) < gv)) (h3 : rd < 0 ∨ (F.length : Int) < rd ∨ rw < 0 ∨ (F.length : Int) < rw) : maySw gv rd rw F = 9 := by unfold maySw; rw [if_neg h, if_neg h2, if_pos h3]
theorem swm4 {gv rd rw : Int} {F : List Sl} (h : ¬ 8 < F.length) (h2 : ¬ (gv < 0 ∨ (F.length : Int) < gv)) (h3 : ¬ (rd < 0 ∨ (F.length : Int) < rd ∨ rw < 0 ∨ (F.length : Int) < rw)) : maySw gv rd rw F = fitE (okAll gv F.length F F.length) := by unfold maySw; rw [if_neg h, if_neg h2, if_neg h3]
/-- The last one ahead. -/
def lastI (gv : Int) (l : List Int) (k : Nat) : Int := if k = 0 then gv - 1 else l[k - 1]?.getD 0
theorem last_bad {gv : Int} {n i : Nat} {l : List Int} {k : Nat} (hok : okRow gv n i l k = true) : badP gv n i l k = (decide (l[k]?.getD 0 ≤ lastI gv l k) || (decide (l[k]?.getD 0 = (i : Int)) || decide ((n : Int) ≤ l[k]?.getD 0))) := by
  unfold badP lastI
  by_cases hk : k = 0
  · subst hk
    rw [if_pos rfl]
    by_cases a : l[0]?.getD 0 < gv <;> by_cases b : (n : Int) ≤ l[0]?.getD 0 <;> by_cases c : l[0]?.getD 0 = (i : Int) <;> simp [a, b, c] <;> omega
  · rw [if_neg hk]
    have h1 := okRow_yes hok (k - 1) (by omega)
    have h2 : gv ≤ l[k - 1]?.getD 0 := by
      unfold badP at h1
      simp only [Bool.or_eq_false_iff, decide_eq_false_iff_not] at h1
      omega
    have h3 : decide (0 < k) = true := decide_eq_true (by omega)
    rw [h3]
    by_cases a : l[k]?.getD 0 < gv <;> by_cases b : (n : Int) ≤ l[k]?.getD 0 <;> by_cases c : l[k]?.getD 0 = (i : Int) <;> by_cases d : l[k]?.getD 0 ≤ l[k - 1]?.getD 0 <;> simp [a, b, c, d] <;> omega
end Go.Proofs.Ytfagkgehljoppaa
