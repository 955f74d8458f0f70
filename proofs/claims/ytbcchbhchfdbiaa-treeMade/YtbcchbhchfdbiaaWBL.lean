import Derived.Test.YtbcchbhchfdbiaaWG7
import Derived.Lib.SmallJoins
namespace Go.Proofs.Ytbcchbhchfdbiaa
open Go.RowKit Go.Shelf
attribute [local go_sem] Oper.semAt_some
set_option maxRecDepth 100000 in
set_option maxHeartbeats 1000000 in
theorem clone_any (a : Option Addr) (n c : Nat) (l : List Int) (w : World) (h : Ints w a n c l) (hs : n ≤ 1000) :
    Calls Try.prog 34 #[.slice a n c] w fun e w' => ∃ v, e = .returned v ∧ w'.ownsRow w.heap.size 3 1 v n (intVals l) ∧ Below w.heap.size w w' := by
  cases a with
  | none =>
    have hz : n = 0 := by
      rcases h.2.2.2 with h0 | ⟨b, off, hh, _⟩
      · exact h0
      · cases hh
    have hl : l = [] := List.length_eq_zero_iff.1 (by have := h.1; omega)
    subst hz hl
    have hq : ∀ w, (binOp .eql 25 (.slice none 0 c) (.slice none 0 0)).run Try.prog w = .ok (.bool true) w := fun w => Lib.run_eql_slice_nil w 25 3 none 0 c 0 0 Try.underlying25
    go_enter Try.func34, Try.ntmps34
    go_wp2
    go_ret
    exact ⟨_, rfl, World.ownsRow_nil _ _ _ _, Below.refl _ _⟩
  | some ad =>
    have hb0 : Below w.heap.size w (w.alloc (.cells #[] 3)) := by go_grown
    have h1 := h.later hb0
    have hown0 : (w.alloc (.cells #[] 3)).ownsRow w.heap.size 3 1 (.slice (some ⟨w.heap.size, 0, none⟩) 0 0) 0 (intVals []) :=
      World.ownsRow_made (base := w.heap.size) (e := 3) (size := 1) w #[] 0 (Nat.le_refl _) (by unfold maxLen; omega) rfl
    have HO := hide hown0
    clear hown0
    have hq : ∀ w, (binOp .eql 25 (.slice (some ad) n c) (.slice none 0 0)).run Try.prog w = .ok (.bool false) w := fun w => Lib.run_eql_slice_nil w 25 3 (some ad) n c 0 0 Try.underlying25
    go_enter Try.func34, Try.ntmps34
    go_wp2_with (at_builtin; refine wpList_append_ints _ rfl _ _ rfl w.heap.size _ 0 [] rfl (unhide HO) (some ad) n c l rfl h1 (by omega) (by simp) ?_; intro v2 w2 ho2 hg2)
    go_ret
    have hb2 := ((Below.refl w.heap.size _).grown hg2 (by simp) (fun k hk => ((unhide HO).lt k hk).1))
    refine ⟨_, rfl, ?_, hb0.trans hb2⟩
    simpa using ho2
theorem T3.set {w : World} {g n i : Nat} {v : Value} (h : T3 w (some ⟨g, 0, none⟩) n) : T3 (w.setCell ⟨g, i, none⟩ v) (some ⟨g, 0, none⟩) n := by
  rcases h with h | ⟨b, off, arr, fz, e, hb⟩
  · exact .inl h
  · cases e
    exact .inr ⟨g, 0, _, fz, rfl, Joins.block_setCell hb v⟩
/-- A copy: where it lies. -/
theorem owns_row {w' : World} {base n : Nat} {v : Value} {l : List Int} (h : w'.ownsRow base 3 1 v n (intVals l)) (hn : 1 ≤ n) : ∃ g cap, v = .slice (some ⟨g, 0, none⟩) n cap ∧ n ≤ cap ∧ cap ≤ maxLen ∧ base ≤ g ∧ g < w'.heap.size ∧ Row base w' (some ⟨g, 0, none⟩) n (nth l) ∧ T3 w' (some ⟨g, 0, none⟩) n := by
  obtain ⟨va, cap, hv, h1, h2, hr⟩ := Row.of_owns h
  have hr0 := hr
  rcases hr with h0 | ⟨g, e, q1, q2, q3⟩
  · omega
  · subst e
    subst hv
    exact ⟨g, cap, rfl, h1, h2, q1, q2, hr0, T3.of_owns h⟩
/-- Play$1: the choice that was handed in. -/
theorem play33 (bx : Nat) (qa : Option Addr) (n qc : Nat) (q : List Int) (j : Nat) (W : World) (hbx : W.cell? ⟨bx, 0, none⟩ = some (.slice qa n qc)) (hq : Ints W qa n qc q) (hj : j < n) :
    Calls Try.prog 33 #[.int .i64 (j : Int), .pointer (some ⟨bx, 0, none⟩)] W fun e w' => e = .returned (.int .i64 (nth q j)) ∧ w' = W := by
  obtain ⟨b, off, rfl, hb, hcell⟩ := hq.nth (by omega)
  have hc := hcell j hj
  have h1 := hq.2.1
  have h2 := hq.2.2.1
  unfold maxLen at h2
  clear hq hcell
  go_enter Try.func33, Try.ntmps33
  go_wp2
  go_ret
  exact ⟨rfl, rfl⟩
/-- What Play answers. -/
def PlayP (w : World) (P : Int) (n : Nat) (L : List Nd) (q : List Int) (at' : Int) (e : Ending) (w' : World) : Prop :=
  Below w.heap.size w w' ∧ (mcE P n L q ≠ 0 → e = .returned (two (.slice none 0 0) (mcE P n L q))) ∧
  (mcE P n L q = 0 → (at' < 0 ∨ (n : Int) ≤ at' → e = .returned (two (.slice none 0 0) 8)) ∧
    (∀ j : Nat, at' = j → j < n → ∃ ch ge a c, Done L n 0 (CHC q) (kd L) ch ge ∧ e = .returned (two (.slice a (ge j).ln c) 0) ∧ Ints w' a (ge j).ln c (ge j).ints))
set_option maxRecDepth 100000 in
set_option maxHeartbeats 8000000 in
theorem play_any (P : Int) (a : Option Addr) (n c : Nat) (L : List Nd) (qa : Option Addr) (qn qc : Nat) (q : List Int) (at' : Int) (w : World) (h : Nodes w a n c L) (hq : Ints w qa qn qc q) :
    Calls Try.prog 14 #[tV P a n c, .slice qa qn qc, .int .i64 at'] w (PlayP w P n L q at') := by
  obtain ⟨W, hW, hbW, hlt0, hbox⟩ := tbox2 (w := w) P a n c qa qn qc
  have HW := hide hW
  have HBW := hide hbW
  have HBX0 := hide hbox
  obtain ⟨w0, w1, w2⟩ := hbox W (Below.refl _ _)
  have hN := h.later hbW
  have hQ := hq.later hbW
  have CM := hide (mayChoose_any P a n c L qa qn qc q W hN hQ)
  have hc1 := h.2.1
  have hc2 := h.2.2.1
  unfold maxLen at hc2
  by_cases hm : mcE P n L q = 0
  · obtain ⟨hm1, hm2, hm3⟩ := mcE_ok hm
    obtain ⟨p, rfl, hT⟩ := gt_of h hm1
    have HM := hide hm
    rw [hm] at CM
    obtain rfl : qn = n := hq.1.trans hm2
    have n40 := hT.n40
    have n1 := hT.n1
    by_cases hin : at' < 0 ∨ (qn : Int) ≤ at'
    · have HE : Hid (∀ w', Below w.heap.size w w' → PlayP w p qn L q at' (.returned (two (.slice none 0 0) 8)) w') := fun w' hb => ⟨hb, fun z => absurd (unhide HM) z, fun _ => ⟨fun _ => rfl, fun j h1 h2 => by omega⟩⟩
      unfold two at HE
      unfold tV at CM ⊢
      by_cases e1 : at' < 0
      · have d1 : decide (at' < 0) = true := by simpa using e1
        clear h hW hbW hbox hN hT hm hQ hq hm1 hm2 hm3 hin e1
        go_enter Try.func14, Try.ntmps14
        go_wp2_with fail
        rw [unhide HW]
        go_wp2_with fail
        refine (unhide CM).mono ?_
        rintro e w3 ⟨rfl, hb2⟩
        have HB2 := hide hb2
        obtain ⟨v0, v1, v2⟩ := unhide HBX0 w3 hb2
        clear hb2 w0 w1 w2
        go_wp2
        go_ret2
        exact unhide HE _ ((unhide HBW).trans ((unhide HB2).mono (unhide HBW).size))
      · have d1 : decide (at' < 0) = false := by simpa using e1
        have d2 : decide ((qn : Int) ≤ at') = true := by simp; omega
        clear h hW hbW hbox hN hT hm hQ hq hm1 hm2 hm3 hin e1
        go_enter Try.func14, Try.ntmps14
        go_wp2_with fail
        rw [unhide HW]
        go_wp2_with fail
        refine (unhide CM).mono ?_
        rintro e w3 ⟨rfl, hb2⟩
        have HB2 := hide hb2
        obtain ⟨v0, v1, v2⟩ := unhide HBX0 w3 hb2
        clear hb2 w0 w1 w2
        go_wp2
        go_ret2
        exact unhide HE _ ((unhide HBW).trans ((unhide HB2).mono (unhide HBW).size))
    · obtain ⟨j, rfl⟩ : ∃ j : Nat, at' = j := ⟨at'.toNat, by omega⟩
      have hj : j < qn := by omega
      have d1 : decide ((j : Int) < 0) = false := by simp
      have d2 : decide ((qn : Int) ≤ (j : Int)) = false := by simp; omega
      obtain ⟨ch, ge, hD⟩ := done_q hT hm3
      have CF : Hid (∀ wr, Below W.heap.size W wr → Calls Try.prog 32 #[tV p a qn c, .int .i64 (j : Int), .func (.func 33) #[] #[.pointer (some ⟨w.heap.size + 1, 0, none⟩)]] wr fun e w' => ∃ i, i < qn ∧ (ndAt L i).k.ln = 0 ∧ (ndAt L i).p = ge j ∧ e = .returned (.agg (ndC (ndAt L i))) ∧ Below wr.heap.size wr w') := fun wr hb => follow_any p a qn c L q ch ge hT hD 33 _ j hj wr (hN.later hb) (enters_of Try.func33 (by kernel_rfl) rfl) (fun i hi W2 hb2 => by
        have hb3 := hb.trans (hb2.mono hb.size)
        exact play33 (w.heap.size + 1) qa qn qc q i W2 (hbox W2 hb3).2.2 (hQ.later hb3) hi)
      have HN := hide hN
      have HD := hide hD
      have HLN : Hid ((ge j).ln ≤ 1000) := by
        obtain ⟨i, i1, i2, i3⟩ := done_own hT hD j hj
        have := (hT.ender i i1 i2).2
        have := hT.P5
        show _ ≤ _
        rw [i3]; omega
      unfold tV at CM CF ⊢
      clear h hW hbW hbox hN hT hm hQ hq hm1 hm2 hm3 hin hD
      go_enter Try.func14, Try.ntmps14
      go_wp2_with fail
      rw [unhide HW]
      go_wp2_with fail
      refine (unhide CM).mono ?_
      rintro e w3 ⟨rfl, hb2⟩
      have HB2 := hide hb2
      obtain ⟨v0, v1, v2⟩ := unhide HBX0 w3 hb2
      have CF3 := hide (unhide CF w3 hb2)
      clear hb2 w0 w1 w2
      go_wp2_with fail
      refine (unhide CF3).mono ?_
      rintro e w4 ⟨i, hi, hki, hpi, rfl, hb4⟩
      have hbW4 := (unhide HB2).trans (hb4.mono (unhide HB2).size)
      unfold ndC
      have hbA : Below w4.heap.size w4 (w4.alloc (.cells #[.int .i64 (ndAt L i).pl, .slice (ndAt L i).k.la (ndAt L i).k.ln (ndAt L i).k.lc, .slice (ge j).la (ge j).ln (ge j).lc] 51)) := by go_grown
      have hbWA := hbW4.trans (hbA.mono hbW4.size)
      have hI2 := (((unhide HN).later hbWA).mem hi).2
      unfold SlIn at hI2
      rw [hpi] at hI2 ⊢
      have CC := hide (clone_any _ _ _ _ _ hI2 (unhide HLN))
      have HF : Hid (∀ v w', w'.ownsRow (w4.alloc (.cells #[.int .i64 (ndAt L i).pl, .slice (ndAt L i).k.la (ndAt L i).k.ln (ndAt L i).k.lc, .slice (ge j).la (ge j).ln (ge j).lc] 51)).heap.size 3 1 v (ge j).ln (intVals (ge j).ints) → Below (w4.alloc (.cells #[.int .i64 (ndAt L i).pl, .slice (ndAt L i).k.la (ndAt L i).k.ln (ndAt L i).k.lc, .slice (ge j).la (ge j).ln (ge j).lc] 51)).heap.size (w4.alloc (.cells #[.int .i64 (ndAt L i).pl, .slice (ndAt L i).k.la (ndAt L i).k.ln (ndAt L i).k.lc, .slice (ge j).la (ge j).ln (ge j).lc] 51)) w' → PlayP w p qn L q j (.returned (two v 0)) w') := fun v w' ho hb' => by
        have hb1 := (unhide HBW).trans (hbWA.mono (unhide HBW).size)
        refine ⟨hb1.trans (hb'.mono hb1.size), fun z => absurd (unhide HM) z, fun _ => ⟨fun z => by omega, fun j' e1 e2 => ?_⟩⟩
        obtain rfl : j' = j := by omega
        obtain ⟨a', c', rfl, hI', -⟩ := Ints.of_owns ho (unhide HLN)
        exact ⟨ch, ge, a', c', unhide HD, rfl, hI'⟩
      unfold two at HF
      clear hb4 hbW4 hbA hbWA hI2 hpi hki CF CF3 v0 v1 v2
      generalize ndAt L i = d at *
      obtain ⟨pl, ⟨ka, kn, kc, kids⟩, pp⟩ := d
      generalize hG : ge j = G at *
      clear hG
      obtain ⟨ga, gn, gc, gi⟩ := G
      simp only at CC HF
      go_wp2_with fail
      refine (unhide CC).mono ?_
      rintro e w5 ⟨v, rfl, ho5, hb5⟩
      have HF5 := hide (unhide HF v w5 ho5 hb5)
      clear ho5 hb5
      go_wp2
      go_ret2
      exact unhide HF5
  · have HM := hide hm
    have hmd : (mcE P n L q == 0) = false := by simpa using hm
    unfold tV at CM ⊢
    clear h hW hbW hbox hN hm hQ hq
    generalize hT : mcE P n L q = T at *
    have HT := hide hT
    clear hT
    go_enter Try.func14, Try.ntmps14
    go_wp2_with fail
    rw [unhide HW]
    go_wp2_with fail
    refine (unhide CM).mono ?_
    rintro e w2 ⟨rfl, hb2⟩
    have HB2 := hide hb2
    clear hb2 w0 w1
    go_wp2
    go_ret2
    exact ⟨(unhide HBW).trans ((unhide HB2).mono (unhide HBW).size), fun _ => by rw [unhide HT]; rfl, fun z => absurd ((unhide HT).symm.trans z) (unhide HM)⟩
end Go.Proofs.Ytbcchbhchfdbiaa
