import Derived.Test.YtbcchbhchfdbiaaM
import Derived.Test.YtbcchbhchfdbiaaPU
namespace Go.Proofs.Ytbcchbhchfdbiaa
open Go.RowKit Go.Shelf
theorem mst_congr {u u' : Nat → Int} : ∀ k, (∀ i, i < k → u i = u' i) → mst u k = mst u' k
  | 0, _ => rfl
  | k + 1, h => by
    have ih := mst_congr k (fun i hi => h i (by omega))
    have hm : mst u k < k + 1 := by
      by_cases e : k = 0
      · subst e; show 0 < 1; omega
      · have := mst_lt (u := u) k (by omega); omega
    rw [mst, mst, ← ih, h k (by omega), h (mst u k) hm]
/-- How places are chosen: by Backward, by choices, by one for itself. -/
def CHB (L : List Nd) (j : Nat) (u : Nat → List Int) (v : Nat) : Prop := v = mst (fun i => nth (u i) (ndAt L j).pl.toNat) (ndAt L j).k.ln
def CHC (q : List Int) (j : Nat) (_ : Nat → List Int) (v : Nat) : Prop := nth q j = v
def CHW (L : List Nd) (q : List Int) (who : Nat) (j : Nat) (u : Nat → List Int) (v : Nat) : Prop := ((ndAt L j).pl = who → v = mst (fun i => nth (u i) who) (ndAt L j).k.ln) ∧ ((ndAt L j).pl ≠ who → nth q j = v)
/-- What all get anywhere are lists of the tree's own. -/
theorem done_own {P n : Nat} {L : List Nd} {s : Nat → Nat → Nat} {CH : Nat → (Nat → List Int) → Nat → Prop} {ch : Nat → Int} {ge : Nat → Sl} (hT : GT P n L s) (h : Done L n 0 CH s ch ge) : ∀ j, j < n → ∃ i, i < n ∧ (ndAt L i).k.ln = 0 ∧ ge j = (ndAt L i).p := by
  refine from_end fun j hj ih => ?_
  by_cases e : (ndAt L j).k.ln = 0
  · exact ⟨j, hj, e, ((h j (Nat.zero_le _) hj).1 e).2⟩
  · obtain ⟨v, -, v2, -, v4⟩ := (h j (Nat.zero_le _) hj).2 (by omega)
    obtain ⟨i, i1, i2, i3⟩ := ih (s j v) (hT.pos j hj v) (hT.klt j hj v v2)
    exact ⟨i, i1, i2, v4.trans i3⟩
/-- What settle answers, the first alone. -/
def BackP (w : World) (P : Int) (n : Nat) (L : List Nd) (e : Ending) (w' : World) : Prop :=
  Below w.heap.size w w' ∧ (tmE P n L ≠ 0 → e = .returned (two (.slice none 0 0) (tmE P n L))) ∧
  (tmE P n L = 0 → ∃ gc ch ge, e = .returned (two (.slice (some ⟨gc, 0, none⟩) n n) 0) ∧ w.heap.size ≤ gc ∧ RowI w' gc n ch ∧ Done L n 0 (CHB L) (kd L) ch ge)
set_option maxRecDepth 100000 in
set_option maxHeartbeats 4000000 in
theorem backward_any (P : Int) (a : Option Addr) (n c : Nat) (L : List Nd) (w : World) (h : Nodes w a n c L) :
    Calls Try.prog 10 #[tV P a n c] w (BackP w P n L) := by
  obtain ⟨W, hW, hbW, hlt0, hbox⟩ := tbox (w := w) P a n c
  have HW := hide hW
  have HBW := hide hbW
  have HBX0 := hide hbox
  have w0 := (hbox W (Below.refl _ _)).1
  have w1 := (hbox W (Below.refl _ _)).2
  have hN := h.later hbW
  have CM := hide (may_any P a n c L W hN)
  by_cases hm : tmE P n L = 0
  · obtain ⟨p, rfl, hT⟩ := gt_of h hm
    have HM := hide hm
    rw [hm] at CM
    have HCS : Hid (∀ wr, Below W.heap.size W wr → Calls Try.prog 25 #[tV p a n c, .func (.func 26) #[] #[.pointer (some ⟨w.heap.size, 0, none⟩)]] wr (SetP wr p n L (CHB L) (kd L))) := fun wr hb => by
      refine settle_any p a n c L (kd L) 26 _ (CHB L) wr (hN.later hb) hT (enters_of Try.func26 (by kernel_rfl) rfl) ?_ ?_
      · intro j u u' v hu hv
        unfold CHB at hv ⊢
        rw [hv]
        exact mst_congr _ (fun i hi => by rw [hu i hi])
      · intro j hj hk KL hKl hKn
        have hmv := hT.mover j hj hk
        refine ⟨mst (fun i => nth (slAt KL i).ints (ndAt L j).pl.toNat) (ndAt L j).k.ln, mst_lt _ hk, rfl, fun W2 ka kc hb2 hK => ?_⟩
        have hb3 := hb.trans (hb2.mono hb.size)
        exact back26 w.heap.size a n c L j ka _ kc KL W2 (hbox W2 hb3).2 (hN.later hb3) hj (ndAt L j).pl.toNat (by omega) hK hk (fun i hi => by rw [hKn i hi]; omega)
    unfold tV at CM HCS ⊢
    clear h hW hbW hbox hN hT hm
    go_enter Try.func10, Try.ntmps10
    go_wp2_with fail
    rw [unhide HW]
    go_wp2_with fail
    refine (unhide CM).mono ?_
    rintro e w2 ⟨rfl, hb2⟩
    have HB2 := hide hb2
    obtain ⟨v0, v1⟩ := unhide HBX0 w2 hb2
    have HS := hide (unhide HCS w2 hb2)
    clear hb2 w0 w1
    go_wp2_with fail
    refine (unhide HS).mono ?_
    rintro e w3 ⟨gc, gg, ch, ge, rfl, g1, g2, rI, rG, hD, hP, hb3⟩
    have HF : Hid (BackP w p n L (.returned (two (.slice (some ⟨gc, 0, none⟩) n n) 0)) w3) := by
      have hb1 := unhide HBW
      have hb2 := unhide HB2
      have hbb : Below w.heap.size w w2 := hb1.trans (hb2.mono hb1.size)
      refine ⟨hbb.trans (hb3.mono hbb.size), fun q => absurd (unhide HM) q, fun _ => ⟨gc, ch, ge, rfl, by have := hbb.size; omega, rI, hD⟩⟩
    clear rI rG hD hP hb3
    go_wp2
    go_ret2
    exact unhide HF
  · have HM := hide hm
    have hmd : (tmE P n L == 0) = false := by simpa using hm
    unfold tV at CM ⊢
    clear h hW hbW hbox hN hm
    generalize hT : tmE P n L = T at *
    have HT := hide hT
    clear hT
    go_enter Try.func10, Try.ntmps10
    go_wp2_with fail
    rw [unhide HW]
    go_wp2_with fail
    refine (unhide CM).mono ?_
    rintro e w2 ⟨rfl, hb2⟩
    have HB2 := hide hb2
    clear hb2 w0 w1
    go_wp2
    go_ret2
    refine ⟨(unhide HBW).trans ((unhide HB2).mono (unhide HBW).size), fun _ => by rw [unhide HT]; rfl, fun q => absurd ((unhide HT).symm.trans q) (unhide HM)⟩
end Go.Proofs.Ytbcchbhchfdbiaa
