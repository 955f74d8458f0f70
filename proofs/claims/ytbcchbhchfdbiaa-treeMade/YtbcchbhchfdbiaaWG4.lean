import Derived.Test.YtbcchbhchfdbiaaWK
import Derived.Test.YtbcchbhchfdbiaaWG2
namespace Go.Proofs.Ytbcchbhchfdbiaa
open Go.RowKit Go.Shelf
/-- byChoices$1: the choice that was handed in. -/
theorem by49 (bx : Nat) (qa : Option Addr) (n qc : Nat) (q : List Int) (j : Nat) (kv : Value) (W : World) (hbx : W.cell? ⟨bx, 0, none⟩ = some (.slice qa n qc)) (hq : Ints W qa n qc q) (hj : j < n) :
    Calls Try.prog 49 #[.int .i64 (j : Int), kv, .pointer (some ⟨bx, 0, none⟩)] W fun e w' => e = .returned (.int .i64 (nth q j)) ∧ w' = W := by
  obtain ⟨b, off, rfl, hb, hcell⟩ := hq.nth (by omega)
  have hc := hcell j hj
  have h1 := hq.2.1
  have h2 := hq.2.2.1
  unfold maxLen at h2
  clear hq hcell
  go_enter Try.func49, Try.ntmps49
  go_wp2
  go_ret
  exact ⟨rfl, rfl⟩
/-- Backward$1: the place from which the node's player gets the most. -/
theorem back26 (bx : Nat) (a : Option Addr) (n c : Nat) (L : List Nd) (j : Nat) (ka : Option Addr) (kn kc : Nat) (KL : List Sl) (W : World) (h0 : W.cell? ⟨bx, 1, none⟩ = some (.slice a n c)) (hN : Nodes W a n c L) (hj : j < n) (who : Nat) (hw : (ndAt L j).pl = who) (hK : Lsts W ka kn kc KL) (k1 : 1 ≤ kn) (hl : ∀ i, i < kn → who < (slAt KL i).ln) :
    Calls Try.prog 26 #[.int .i64 (j : Int), .slice ka kn kc, .pointer (some ⟨bx, 0, none⟩)] W fun e w' => e = .returned (.int .i64 (mst (fun i => nth (slAt KL i).ints who) kn)) ∧ Below W.heap.size W w' := by
  have CM := hide (most_any ka kn kc KL who W hK k1 hl)
  obtain ⟨b, off, rfl, hb, hcell⟩ := hN.cellAt (by omega)
  have hc := (hcell W (Below.refl _ _) j hj).1
  rw [hw] at hc
  have h1 := hN.2.1
  have h2 := hN.2.2.1
  unfold maxLen at h2
  clear hN hcell hK hl hw
  go_enter Try.func26, Try.ntmps26
  go_wp2_with fail
  refine (unhide CM).mono ?_
  rintro e w' ⟨rfl, hb'⟩
  have HB := hide hb'
  clear hb'
  go_wp2
  go_ret
  exact ⟨rfl, unhide HB⟩
end Go.Proofs.Ytbcchbhchfdbiaa
namespace Go.Proofs.Ytbcchbhchfdbiaa
open Go.RowKit Go.Shelf
/-- The kid of node i at place j. -/
def kd (L : List Nd) (i j : Nat) : Nat := max (i + 1) (nth (ndAt L i).k.ints j).toNat
theorem nodeE_zero {P n a : Int} {d : Nd} (h : nodeE P n a d = 0) : ¬ (endB P d.pl d.k.ln d.p.ln = false ∧ movB P d.pl d.k.ln d.p.ln = false) ∧ d.p.ints.any badP = false ∧ ∀ j, j < d.k.ints.length → ¬ BadKid n a d.k.ints j := by
  by_cases h1 : endB P d.pl d.k.ln d.p.ln = false ∧ movB P d.pl d.k.ln d.p.ln = false
  · rw [nodeE_1 h1.1 h1.2] at h; omega
  refine ⟨h1, ?_⟩
  by_cases h2 : d.p.ints.any badP = true
  · rw [nodeE_9 h1 h2] at h; omega
  have h2' : d.p.ints.any badP = false := by simpa using h2
  refine ⟨h2', fun j hj hb => ?_⟩
  rw [nodeE_8 h1 h2' hj hb] at h; omega
theorem tmE_zero {P : Int} {n : Nat} {L : List Nd} (h : tmE P n L = 0) : (1 ≤ P ∧ P ≤ 5) ∧ (1 ≤ n ∧ n ≤ 40) ∧ (∀ i, i < n → nodeE P n i (ndAt L i) = 0) ∧ ∀ v : Nat, 1 ≤ v → v < n → par L v n = 1 := by
  by_cases h1 : P < 1 ∨ 5 < P
  · rw [tmE_7 h1] at h; omega
  by_cases h2 : n < 1 ∨ 40 < n
  · rw [tmE_2 h1 h2] at h; omega
  by_cases h3 : neE P n L n 0 = 0
  · rw [tmE_m h1 h2 h3] at h
    refine ⟨by omega, by omega, fun i hi => neE_all n 0 h3 i (Nat.zero_le _) (by omega), ?_⟩
    intro v v1 v2
    by_cases e : par L v n = 1
    · exact e
    · rw [mkE_no v1 v2 e] at h; omega
  · rw [tmE_n h1 h2 h3] at h; exact absurd h h3
/-- A tree that may be is one. -/
theorem gt_of {w : World} {P : Int} {a : Option Addr} {n c : Nat} {L : List Nd} (hN : Nodes w a n c L) (h : tmE P n L = 0) : ∃ p : Nat, P = p ∧ GT p n L (kd L) := by
  obtain ⟨hP, hn, hnd, -⟩ := tmE_zero h
  refine ⟨P.toNat, by omega, hN.1.symm, by omega, by omega, hn.1, hn.2, ?_, ?_, ?_, ?_, ?_, ?_⟩
  · intro i hi j; unfold kd; omega
  · intro i hi j hj
    have := (nodeE_in ((hN.mem hi).1.1) (hnd i hi)).2 j hj
    unfold kd; omega
  · intro i hi j hj
    have := (nodeE_in ((hN.mem hi).1.1) (hnd i hi)).2 j hj
    unfold kd; omega
  · intro i hi
    exact (nodeE_in ((hN.mem hi).1.1) (hnd i hi)).1
  · intro i hi h0
    obtain ⟨g1, g2, g3⟩ := nodeE_zero (hnd i hi)
    by_cases e : endB P (ndAt L i).pl (ndAt L i).k.ln (ndAt L i).p.ln = false
    · have : movB P (ndAt L i).pl (ndAt L i).k.ln (ndAt L i).p.ln = false := by unfold movB; simp [h0]
      exact absurd ⟨e, this⟩ g1
    · have e' : endB P (ndAt L i).pl (ndAt L i).k.ln (ndAt L i).p.ln = true := by simpa using e
      unfold endB at e'
      simp at e'
      omega
  · intro i hi h0
    obtain ⟨g1, g2, g3⟩ := nodeE_zero (hnd i hi)
    by_cases e : movB P (ndAt L i).pl (ndAt L i).k.ln (ndAt L i).p.ln = false
    · have : endB P (ndAt L i).pl (ndAt L i).k.ln (ndAt L i).p.ln = false := by unfold endB; simp; omega
      exact absurd ⟨this, e⟩ g1
    · have e' : movB P (ndAt L i).pl (ndAt L i).k.ln (ndAt L i).p.ln = true := by simpa using e
      unfold movB at e'
      simp at e'
      omega
end Go.Proofs.Ytbcchbhchfdbiaa
namespace Go.Proofs.Ytbcchbhchfdbiaa
open Go.RowKit Go.Shelf
theorem mst_congr {u u' : Nat → Int} : ∀ k, (∀ i, i < k → u i = u' i) → mst u k = mst u' k
  | 0, _ => rfl
  | k + 1, h => by
    have ih := mst_congr k (fun i hi => h i (by omega))
    have hm : mst u k < k + 1 := by
      by_cases e : k = 0
      · subst e; show 0 < 1; omega
      · have := mst_lt (u := u) k (by omega); omega
    rw [mst, mst, ← ih, h k (by omega), h (mst u k) hm]
/-- How places are chosen: by Backward, by choices, by one for itself. -/
def CHB (L : List Nd) (j : Nat) (u : Nat → List Int) (v : Nat) : Prop := v = mst (fun i => nth (u i) (ndAt L j).pl.toNat) (ndAt L j).k.ln
def CHC (q : List Int) (j : Nat) (_ : Nat → List Int) (v : Nat) : Prop := nth q j = v
def CHW (L : List Nd) (q : List Int) (who : Nat) (j : Nat) (u : Nat → List Int) (v : Nat) : Prop := ((ndAt L j).pl = who → v = mst (fun i => nth (u i) who) (ndAt L j).k.ln) ∧ ((ndAt L j).pl ≠ who → nth q j = v)
/-- What all get anywhere are lists of the tree's own. -/
theorem done_own {P n : Nat} {L : List Nd} {s : Nat → Nat → Nat} {CH : Nat → (Nat → List Int) → Nat → Prop} {ch : Nat → Int} {ge : Nat → Sl} (hT : GT P n L s) (h : Done L n 0 CH s ch ge) : ∀ j, j < n → ∃ i, i < n ∧ (ndAt L i).k.ln = 0 ∧ ge j = (ndAt L i).p := by
  refine from_end fun j hj ih => ?_
  by_cases e : (ndAt L j).k.ln = 0
  · exact ⟨j, hj, e, ((h j (Nat.zero_le _) hj).1 e).2⟩
  · obtain ⟨v, -, v2, -, v4⟩ := (h j (Nat.zero_le _) hj).2 (by omega)
    obtain ⟨i, i1, i2, i3⟩ := ih (s j v) (hT.pos j hj v) (hT.klt j hj v v2)
    exact ⟨i, i1, i2, v4.trans i3⟩
/-- What settle answers, the first alone. -/
def BackP (w : World) (P : Int) (n : Nat) (L : List Nd) (e : Ending) (w' : World) : Prop :=
  Below w.heap.size w w' ∧ (tmE P n L ≠ 0 → e = .returned (two (.slice none 0 0) (tmE P n L))) ∧
  (tmE P n L = 0 → ∃ gc ch ge, e = .returned (two (.slice (some ⟨gc, 0, none⟩) n n) 0) ∧ w.heap.size ≤ gc ∧ RowI w' gc n ch ∧ Done L n 0 (CHB L) (kd L) ch ge)
set_option maxRecDepth 100000 in
set_option maxHeartbeats 4000000 in
theorem backward_any (P : Int) (a : Option Addr) (n c : Nat) (L : List Nd) (w : World) (h : Nodes w a n c L) :
    Calls Try.prog 10 #[tV P a n c] w (BackP w P n L) := by
  obtain ⟨W, hW, hbW, hlt0, hbox⟩ := tbox (w := w) P a n c
  have HW := hide hW
  have HBW := hide hbW
  have HBX0 := hide hbox
  have w0 := (hbox W (Below.refl _ _)).1
  have w1 := (hbox W (Below.refl _ _)).2
  have hN := h.later hbW
  have CM := hide (may_any P a n c L W hN)
  by_cases hm : tmE P n L = 0
  · obtain ⟨p, rfl, hT⟩ := gt_of h hm
    have HM := hide hm
    rw [hm] at CM
    have HCS : Hid (∀ wr, Below W.heap.size W wr → Calls Try.prog 25 #[tV p a n c, .func (.func 26) #[] #[.pointer (some ⟨w.heap.size, 0, none⟩)]] wr (SetP wr p n L (CHB L) (kd L))) := fun wr hb => by
      refine settle_any p a n c L (kd L) 26 _ (CHB L) wr (hN.later hb) hT (enters_of Try.func26 (by kernel_rfl) rfl) ?_ ?_
      · intro j u u' v hu hv
        unfold CHB at hv ⊢
        rw [hv]
        exact mst_congr _ (fun i hi => by rw [hu i hi])
      · intro j hj hk KL hKl hKn
        have hmv := hT.mover j hj hk
        refine ⟨mst (fun i => nth (slAt KL i).ints (ndAt L j).pl.toNat) (ndAt L j).k.ln, mst_lt _ hk, rfl, fun W2 ka kc hb2 hK => ?_⟩
        have hb3 := hb.trans (hb2.mono hb.size)
        exact back26 w.heap.size a n c L j ka _ kc KL W2 (hbox W2 hb3).2 (hN.later hb3) hj (ndAt L j).pl.toNat (by omega) hK hk (fun i hi => by rw [hKn i hi]; omega)
    unfold tV at CM HCS ⊢
    clear h hW hbW hbox hN hT hm
    go_enter Try.func10, Try.ntmps10
    go_wp2_with fail
    rw [unhide HW]
    go_wp2_with fail
    refine (unhide CM).mono ?_
    rintro e w2 ⟨rfl, hb2⟩
    have HB2 := hide hb2
    obtain ⟨v0, v1⟩ := unhide HBX0 w2 hb2
    have HS := hide (unhide HCS w2 hb2)
    clear hb2 w0 w1
    go_wp2_with fail
    refine (unhide HS).mono ?_
    rintro e w3 ⟨gc, gg, ch, ge, rfl, g1, g2, rI, rG, hD, hP, hb3⟩
    have HF : Hid (BackP w p n L (.returned (two (.slice (some ⟨gc, 0, none⟩) n n) 0)) w3) := by
      have hb1 := unhide HBW
      have hb2 := unhide HB2
      have hbb : Below w.heap.size w w2 := hb1.trans (hb2.mono hb1.size)
      refine ⟨hbb.trans (hb3.mono hbb.size), fun q => absurd (unhide HM) q, fun _ => ⟨gc, ch, ge, rfl, by have := hbb.size; omega, rI, hD⟩⟩
    clear rI rG hD hP hb3
    go_wp2
    go_ret2
    exact unhide HF
  · have HM := hide hm
    have hmd : (tmE P n L == 0) = false := by simpa using hm
    unfold tV at CM ⊢
    clear h hW hbW hbox hN hm
    generalize hT : tmE P n L = T at *
    have HT := hide hT
    clear hT
    go_enter Try.func10, Try.ntmps10
    go_wp2_with fail
    rw [unhide HW]
    go_wp2_with fail
    refine (unhide CM).mono ?_
    rintro e w2 ⟨rfl, hb2⟩
    have HB2 := hide hb2
    clear hb2 w0 w1
    go_wp2
    go_ret2
    refine ⟨(unhide HBW).trans ((unhide HB2).mono (unhide HBW).size), fun _ => by rw [unhide HT]; rfl, fun q => absurd ((unhide HT).symm.trans q) (unhide HM)⟩
end Go.Proofs.Ytbcchbhchfdbiaa
