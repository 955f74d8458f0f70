import Derived.Test.YtbcchbhchfdbiaaL
namespace Go.Proofs.Ytbcchbhchfdbiaa
open Go.RowKit Go.Shelf
/-- The kid of node i at place j. -/
def kd (L : List Nd) (i j : Nat) : Nat := max (i + 1) (nth (ndAt L i).k.ints j).toNat
theorem nodeE_zero {P n a : Int} {d : Nd} (h : nodeE P n a d = 0) : ¬ (endB P d.pl d.k.ln d.p.ln = false ∧ movB P d.pl d.k.ln d.p.ln = false) ∧ d.p.ints.any badP = false ∧ ∀ j, j < d.k.ints.length → ¬ BadKid n a d.k.ints j := by
  by_cases h1 : endB P d.pl d.k.ln d.p.ln = false ∧ movB P d.pl d.k.ln d.p.ln = false
  · rw [nodeE_1 h1.1 h1.2] at h; omega
  refine ⟨h1, ?_⟩
  by_cases h2 : d.p.ints.any badP = true
  · rw [nodeE_9 h1 h2] at h; omega
  have h2' : d.p.ints.any badP = false := by simpa using h2
  refine ⟨h2', fun j hj hb => ?_⟩
  rw [nodeE_8 h1 h2' hj hb] at h; omega
theorem tmE_zero {P : Int} {n : Nat} {L : List Nd} (h : tmE P n L = 0) : (1 ≤ P ∧ P ≤ 5) ∧ (1 ≤ n ∧ n ≤ 40) ∧ (∀ i, i < n → nodeE P n i (ndAt L i) = 0) ∧ ∀ v : Nat, 1 ≤ v → v < n → par L v n = 1 := by
  by_cases h1 : P < 1 ∨ 5 < P
  · rw [tmE_7 h1] at h; omega
  by_cases h2 : n < 1 ∨ 40 < n
  · rw [tmE_2 h1 h2] at h; omega
  by_cases h3 : neE P n L n 0 = 0
  · rw [tmE_m h1 h2 h3] at h
    refine ⟨by omega, by omega, fun i hi => neE_all n 0 h3 i (Nat.zero_le _) (by omega), ?_⟩
    intro v v1 v2
    by_cases e : par L v n = 1
    · exact e
    · rw [mkE_no v1 v2 e] at h; omega
  · rw [tmE_n h1 h2 h3] at h; exact absurd h h3
/-- A tree that may be is one. -/
theorem gt_of {w : World} {P : Int} {a : Option Addr} {n c : Nat} {L : List Nd} (hN : Nodes w a n c L) (h : tmE P n L = 0) : ∃ p : Nat, P = p ∧ GT p n L (kd L) := by
  obtain ⟨hP, hn, hnd, -⟩ := tmE_zero h
  refine ⟨P.toNat, by omega, hN.1.symm, by omega, by omega, hn.1, hn.2, ?_, ?_, ?_, ?_, ?_, ?_⟩
  · intro i hi j; unfold kd; omega
  · intro i hi j hj
    have := (nodeE_in ((hN.mem hi).1.1) (hnd i hi)).2 j hj
    unfold kd; omega
  · intro i hi j hj
    have := (nodeE_in ((hN.mem hi).1.1) (hnd i hi)).2 j hj
    unfold kd; omega
  · intro i hi
    exact (nodeE_in ((hN.mem hi).1.1) (hnd i hi)).1
  · intro i hi h0
    obtain ⟨g1, g2, g3⟩ := nodeE_zero (hnd i hi)
    by_cases e : endB P (ndAt L i).pl (ndAt L i).k.ln (ndAt L i).p.ln = false
    · have : movB P (ndAt L i).pl (ndAt L i).k.ln (ndAt L i).p.ln = false := by unfold movB; simp [h0]
      exact absurd ⟨e, this⟩ g1
    · have e' : endB P (ndAt L i).pl (ndAt L i).k.ln (ndAt L i).p.ln = true := by simpa using e
      unfold endB at e'
      simp at e'
      omega
  · intro i hi h0
    obtain ⟨g1, g2, g3⟩ := nodeE_zero (hnd i hi)
    by_cases e : movB P (ndAt L i).pl (ndAt L i).k.ln (ndAt L i).p.ln = false
    · have : endB P (ndAt L i).pl (ndAt L i).k.ln (ndAt L i).p.ln = false := by unfold endB; simp; omega
      exact absurd ⟨this, e⟩ g1
    · have e' : movB P (ndAt L i).pl (ndAt L i).k.ln (ndAt L i).p.ln = true := by simpa using e
      unfold movB at e'
      simp at e'
      omega
end Go.Proofs.Ytbcchbhchfdbiaa
