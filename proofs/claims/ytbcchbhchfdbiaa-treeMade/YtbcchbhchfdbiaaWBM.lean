import Derived.Test.YtbcchbhchfdbiaaWBL
namespace Go.Proofs.Ytbcchbhchfdbiaa
open Go.RowKit Go.Shelf
attribute [local go_sem] Oper.semAt_some
set_option maxRecDepth 100000 in
set_option maxHeartbeats 4000000 in
theorem least_any (a : Option Addr) (n c : Nat) (L : List Sl) (who : Nat) (w : World) (h : Lsts w a n c L) (hn1 : 1 ≤ n) (hw : ∀ j, j < n → who < (slAt L j).ln) :
    Calls Try.prog 52 #[.slice a n c, .int .i64 who] w fun e w' => e = .returned (.int .i64 (mst (fun j => - nth (slAt L j).ints who) n : Nat)) ∧ Below w.heap.size w w' := by
  have h1 := h.2.1
  have h2 := h.2.2.1
  unfold maxLen at h2
  obtain ⟨b, off, rfl, hb, hcell⟩ := h.cellAt hn1
  have HC : Hid (∀ W, Below w.heap.size w W → ∀ j, j < n → W.cell? ⟨b, off + j, none⟩ = some (.slice (slAt L j).la (slAt L j).ln (slAt L j).lc)) := fun W hW j hj => by rw [hW.cell (p := ⟨b, off + j, none⟩) hb, hcell j hj]
  have HI : Hid (∀ W, Below w.heap.size w W → ∀ j, j < n → ∃ bb oo, (slAt L j).la = some ⟨bb, oo, none⟩ ∧ W.cell? ⟨bb, oo + who, none⟩ = some (.int .i64 (nth (slAt L j).ints who)) ∧ who < (slAt L j).ln ∧ (slAt L j).ln ≤ (slAt L j).lc ∧ (slAt L j).lc ≤ 9223372036854775807) := fun W hW j hj => by
    have q := (h.mem (k := j) hj).later hW
    have hwj := hw j hj
    obtain ⟨bb, oo, e1, -, e3⟩ := q.nth (by omega)
    have r := q.2.2.1
    unfold maxLen at r
    exact ⟨bb, oo, e1, e3 who hwj, hwj, q.2.1, by omega⟩
  clear h hcell hw
  generalize hu : (fun j => - nth (slAt L j).ints who) = u
  have HU : Hid (∀ j, nth (slAt L j).ints who = - u j) := fun j => by rw [← hu]; show _ = - - _; omega
  clear hu
  go_enter Try.func52, Try.ntmps52
  go_wp2
  go_loopw [10, 5, 6, 7] (fun i x _ _ wr => Hid (Below w.heap.size w wr) ∧ ∃ k : Nat, k ≤ n ∧ i = .int .i64 k ∧ x = .int .i64 (mst u k : Nat)) (fun i _ _ _ _ => n - (intOf i).toNat)
  case atStart => exact ⟨Below.refl _ _, 0, Nat.zero_le _, rfl, rfl⟩
  case round =>
    obtain ⟨HB, k, hk, rfl, rfl⟩ := hrel
    by_cases hlt : k < n
    · have hml : mst u k < n := by
        by_cases e : k = 0
        · subst e; show 0 < n; omega
        · have := mst_lt (u := u) k (by omega); omega
      have c1 := unhide HC _ (unhide HB) k hlt
      have c2 := unhide HC _ (unhide HB) _ hml
      obtain ⟨b1, o1, e1, y1, z1, z2, z3⟩ := unhide HI _ (unhide HB) k hlt
      obtain ⟨b2, o2, e2, y2, z4, z5, z6⟩ := unhide HI _ (unhide HB) _ hml
      rw [e1] at c1
      rw [e2] at c2
      rw [unhide HU] at y1 y2
      have HY := hide (fun q => mst_yes (u := u) (k := k) q)
      have HN := hide (fun q => mst_no (u := u) (k := k) q)
      generalize mst u k = m at *
      generalize (slAt L k).ln = l1 at *
      generalize (slAt L k).lc = l2 at *
      generalize (slAt L m).ln = l3 at *
      generalize (slAt L m).lc = l4 at *
      clear e1 e2
      by_cases hc : u m < u k
      · have HR := hide (unhide HY hc)
        clear HY HN
        have hc' : - u k < - u m := by omega
        clear hc
        generalize u m = p at *
        generalize u k = r at *
        go_wp2_with fail
        go_quiet (fail)
        go_wp2
        go_roundw
        case rel => exact ⟨(unhide HB).trans ((below_drewN _ _ _).mono (unhide HB).size), k + 1, by omega, by go_num, by rw [unhide HR]⟩
        case measure => simp [intOf]; omega
      · have HR := hide (unhide HN hc)
        clear HY HN
        have hc' : ¬ (- u k < - u m) := by omega
        clear hc
        generalize u m = p at *
        generalize u k = r at *
        go_wp2_with fail
        go_quiet (fail)
        go_wp2
        go_roundw
        case rel => exact ⟨(unhide HB).trans ((below_drewN _ _ _).mono (unhide HB).size), k + 1, by omega, by go_num, by rw [unhide HR]⟩
        case measure => simp [intOf]; omega
    · obtain rfl : n = k := by omega
      go_wp2
      go_ret
      exact ⟨rfl, HB⟩
/-- How a place is chosen, if one is to be sure of the most. -/
def uF (L : List Nd) (who j : Nat) (u : Nat → List Int) (i : Nat) : Int := if (ndAt L j).pl = who then nth (u i) who else - nth (u i) who
def CHF (L : List Nd) (who : Nat) (j : Nat) (u : Nat → List Int) (v : Nat) : Prop := v = mst (uF L who j u) (ndAt L j).k.ln
theorem uF_yes {L : List Nd} {who j : Nat} {u : Nat → List Int} (h : (ndAt L j).pl = who) : uF L who j u = fun i => nth (u i) who := by funext i; unfold uF; rw [if_pos h]
theorem uF_no {L : List Nd} {who j : Nat} {u : Nat → List Int} (h : ¬ (ndAt L j).pl = who) : uF L who j u = fun i => - nth (u i) who := by funext i; unfold uF; rw [if_neg h]
/-- Force$1. -/
theorem for51 (bx bw : Nat) (a : Option Addr) (n c : Nat) (L : List Nd) (who : Nat) (j : Nat) (ka : Option Addr) (kn kc : Nat) (KL : List Sl) (W : World) (h0 : W.cell? ⟨bx, 1, none⟩ = some (.slice a n c)) (h1 : W.cell? ⟨bw, 0, none⟩ = some (.int .i64 (who : Int)))
    (hN : Nodes W a n c L) (hj : j < n) (hK : Lsts W ka kn kc KL) (k1 : 1 ≤ kn) (hl : ∀ i, i < kn → who < (slAt KL i).ln) :
    Calls Try.prog 51 #[.int .i64 (j : Int), .slice ka kn kc, .pointer (some ⟨bx, 0, none⟩), .pointer (some ⟨bw, 0, none⟩)] W fun e w' => e = .returned (.int .i64 (mst (uF L who j (fun i => (slAt KL i).ints)) kn : Nat)) ∧ Below W.heap.size W w' := by
  have CM := hide (fun d => most_any ka kn kc KL who (W.drewN d) (hK.later (below_drewN _ W d)) k1 hl)
  have CL := hide (fun d => least_any ka kn kc KL who (W.drewN d) (hK.later (below_drewN _ W d)) k1 hl)
  obtain ⟨b, off, rfl, hb, hcell⟩ := hN.cellAt (by omega)
  have hc := (hcell W (Below.refl _ _) j hj).1
  have g1 := hN.2.1
  have g2 := hN.2.2.1
  unfold maxLen at g2
  by_cases e : (ndAt L j).pl = who
  · rw [uF_yes e]
    rw [e] at hc
    have hbe : ((who : Int) == (who : Int)) = true := by simp
    clear hN hcell hK hl e
    go_enter Try.func51, Try.ntmps51
    go_wp2_with fail
    go_quiet (fail)
    go_wp2_with fail
    refine (unhide CM nq).mono ?_
    rintro e w' ⟨rfl, hb'⟩
    have HF : Hid (Below W.heap.size W w') := (below_drewN _ W nq).trans hb'
    clear hb'
    go_wp2
    go_ret
    exact ⟨rfl, unhide HF⟩
  · rw [uF_no e]
    have hbe : ((ndAt L j).pl == (who : Int)) = false := by simpa using e
    clear hN hcell hK hl e
    go_enter Try.func51, Try.ntmps51
    go_wp2_with fail
    go_quiet (fail)
    go_wp2_with fail
    refine (unhide CL nq).mono ?_
    rintro e w' ⟨rfl, hb'⟩
    have HF : Hid (Below W.heap.size W w') := (below_drewN _ W nq).trans hb'
    clear hb'
    go_wp2
    go_ret
    exact ⟨rfl, unhide HF⟩
theorem tboxi {w : World} (P : Int) (a : Option Addr) (n c : Nat) (x : Int) : ∃ W, (w.alloc (.cells #[.int .i64 P, .slice a n c] 24)).alloc (.cells #[.int .i64 x] 3) = W ∧ Below w.heap.size w W ∧ w.heap.size + 1 < W.heap.size ∧ (∀ wr, Below W.heap.size W wr → wr.cell? ⟨w.heap.size, 0, none⟩ = some (.int .i64 P) ∧ wr.cell? ⟨w.heap.size, 1, none⟩ = some (.slice a n c) ∧ wr.cell? ⟨w.heap.size + 1, 0, none⟩ = some (.int .i64 x)) := by
  obtain ⟨W, hW, hb0, hs, hc⟩ := tbox (w := w) P a n c
  rw [hW]
  have e : W.heap.size = w.heap.size + 1 := by rw [← hW]; simp
  refine ⟨_, rfl, hb0.trans ((by go_grown : Below W.heap.size W _).mono hb0.size), by simp; omega, fun wr hb => ?_⟩
  have hw : Below W.heap.size W (W.alloc (.cells #[.int .i64 x] 3)) := by go_grown
  obtain ⟨c0, c1⟩ := hc wr (hw.trans (hb.mono hw.size))
  refine ⟨c0, c1, ?_⟩
  refine (hb.cell (p := ⟨w.heap.size + 1, 0, none⟩) (by simp; omega)).trans ?_
  rw [← e]; simp [World.cell?_alloc_at]
/-- What Force answers. -/
def ForceP (w : World) (P : Int) (n : Nat) (L : List Nd) (who : Int) (e : Ending) (w' : World) : Prop :=
  Below w.heap.size w w' ∧ (tmE P n L ≠ 0 → e = .returned (.tuple #[.int .i64 0, .int .i64 (tmE P n L)])) ∧
  (tmE P n L = 0 → (who < 0 ∨ P ≤ who → e = .returned (.tuple #[.int .i64 0, .int .i64 8])) ∧
    (∀ k : Nat, who = k → (k : Int) < P → ∃ ch ge, Done L n 0 (CHF L k) (kd L) ch ge ∧ e = .returned (.tuple #[.int .i64 (nth (ge 0).ints k), .int .i64 0])))
set_option maxRecDepth 100000 in
set_option maxHeartbeats 8000000 in
theorem force_any (P : Int) (a : Option Addr) (n c : Nat) (L : List Nd) (who : Int) (w : World) (h : Nodes w a n c L) :
    Calls Try.prog 39 #[tV P a n c, .int .i64 who] w (ForceP w P n L who) := by
  obtain ⟨W, hW, hbW, hlt0, hbox⟩ := tboxi (w := w) P a n c who
  have HW := hide hW
  have HBW := hide hbW
  have HBX0 := hide hbox
  obtain ⟨w0, w1, w2⟩ := hbox W (Below.refl _ _)
  have hN := h.later hbW
  have CM := hide (may_any P a n c L W hN)
  by_cases hm : tmE P n L = 0
  · obtain ⟨p, rfl, hT⟩ := gt_of h hm
    have HM := hide hm
    rw [hm] at CM
    have n40 := hT.n40
    have n1 := hT.n1
    by_cases hin : who < 0 ∨ (p : Int) ≤ who
    · have HE : Hid (∀ w', Below w.heap.size w w' → ForceP w p n L who (.returned (.tuple #[.int .i64 0, .int .i64 8])) w') := fun w' hb => ⟨hb, fun z => absurd (unhide HM) z, fun _ => ⟨fun _ => rfl, fun k h1 h2 => by omega⟩⟩
      unfold tV at CM ⊢
      by_cases e1 : who < 0
      · have d1 : decide (who < 0) = true := by simpa using e1
        clear h hW hbW hbox hN hT hm hin e1
        go_enter Try.func39, Try.ntmps39
        go_wp2_with fail
        rw [unhide HW]
        go_wp2_with fail
        refine (unhide CM).mono ?_
        rintro e w3 ⟨rfl, hb2⟩
        have HB2 := hide hb2
        obtain ⟨v0, v1, v2⟩ := unhide HBX0 w3 hb2
        clear hb2 w0 w1 w2
        go_wp2
        go_ret2
        exact unhide HE _ ((unhide HBW).trans ((unhide HB2).mono (unhide HBW).size))
      · have d1 : decide (who < 0) = false := by simpa using e1
        have d2 : decide ((p : Int) ≤ who) = true := by simp; omega
        clear h hW hbW hbox hN hT hm hin e1
        go_enter Try.func39, Try.ntmps39
        go_wp2_with fail
        rw [unhide HW]
        go_wp2_with fail
        refine (unhide CM).mono ?_
        rintro e w3 ⟨rfl, hb2⟩
        have HB2 := hide hb2
        obtain ⟨v0, v1, v2⟩ := unhide HBX0 w3 hb2
        clear hb2 w0 w1 w2
        go_wp2
        go_ret2
        exact unhide HE _ ((unhide HBW).trans ((unhide HB2).mono (unhide HBW).size))
    · obtain ⟨k, rfl⟩ : ∃ k : Nat, who = k := ⟨who.toNat, by omega⟩
      have hk : k < p := by omega
      have d1 : decide ((k : Int) < 0) = false := by simp
      have d2 : decide ((p : Int) ≤ (k : Int)) = false := by simp; omega
      have HCS : Hid (∀ wr, Below W.heap.size W wr → Calls Try.prog 25 #[tV p a n c, .func (.func 51) #[] #[.pointer (some ⟨w.heap.size, 0, none⟩), .pointer (some ⟨w.heap.size + 1, 0, none⟩)]] wr (SetP wr p n L (CHF L k) (kd L))) := fun wr hb => by
        refine settle_any p a n c L (kd L) 51 _ (CHF L k) wr (hN.later hb) hT (enters_of Try.func51 (by kernel_rfl) rfl) ?_ ?_
        · intro j u u' v hu hv
          unfold CHF at hv ⊢
          rw [hv]
          exact mst_congr _ (fun i hi => by unfold uF; rw [hu i hi])
        · intro j hj hkl KL hKl hKn
          refine ⟨mst (uF L k j (fun i => (slAt KL i).ints)) (ndAt L j).k.ln, mst_lt _ hkl, rfl, fun W2 ka kc hb2 hK => ?_⟩
          have hb3 := hb.trans (hb2.mono hb.size)
          exact for51 w.heap.size (w.heap.size + 1) a n c L k j ka _ kc KL W2 (hbox W2 hb3).2.1 (hbox W2 hb3).2.2 (hN.later hb3) hj hK hkl (fun i hi => by rw [hKn i hi]; omega)
      have HN := hide hN
      have HT := hide hT
      unfold tV at CM HCS ⊢
      clear h hW hbW hbox hN hT hm hin
      go_enter Try.func39, Try.ntmps39
      go_wp2_with fail
      rw [unhide HW]
      go_wp2_with fail
      refine (unhide CM).mono ?_
      rintro e w3 ⟨rfl, hb2⟩
      have HB2 := hide hb2
      obtain ⟨v0, v1, v2⟩ := unhide HBX0 w3 hb2
      have HS := hide (unhide HCS w3 hb2)
      clear hb2 w0 w1 w2
      go_wp2_with fail
      refine (unhide HS).mono ?_
      rintro e w4 ⟨gc, gg, ch, ge, rfl, g1, g2, rI, rG, hD, hP, hb3⟩
      have hb4 := (unhide HB2).trans (hb3.mono (unhide HB2).size)
      obtain ⟨u0, u1, u2⟩ := unhide HBX0 w4 hb4
      obtain ⟨x4, -⟩ := rG.2 0 (by omega)
      obtain ⟨b2, o2, e5, x5, e6, e7, e8⟩ := get_cell ((unhide HN).later hb4) (unhide HT) hD (j := 0) (by omega) hk
      rw [e5, e6] at x4
      have HF : Hid (∀ w', Below w4.heap.size w4 w' → ForceP w p n L k (.returned (.tuple #[.int .i64 (nth (ge 0).ints k), .int .i64 0])) w') := fun w' hb' => by
        have hb1 := unhide HBW
        have hbb := hb1.trans ((hb4.trans (hb'.mono hb4.size)).mono hb1.size)
        refine ⟨hbb, fun z => absurd (unhide HM) z, fun _ => ⟨fun z => by omega, fun k' e1 e2 => ?_⟩⟩
        obtain rfl : k' = k := by omega
        exact ⟨ch, ge, hD, rfl⟩
      clear rI rG hD hP hb3 hb4 e5 e6 v0 v1 v2
      generalize nth (ge 0).ints k = m1 at *
      generalize (ge 0).lc = lc1 at *
      go_wp2_with fail
      go_quiet (fail)
      go_wp2_with fail
      go_ret2
      exact unhide HF _ (below_drewN _ w4 nq)
  · have HM := hide hm
    have hmd : (tmE P n L == 0) = false := by simpa using hm
    unfold tV at CM ⊢
    clear h hW hbW hbox hN hm
    generalize hT : tmE P n L = T at *
    have HT := hide hT
    clear hT
    go_enter Try.func39, Try.ntmps39
    go_wp2_with fail
    rw [unhide HW]
    go_wp2_with fail
    refine (unhide CM).mono ?_
    rintro e w2 ⟨rfl, hb2⟩
    have HB2 := hide hb2
    clear hb2 w0 w1
    go_wp2
    go_ret2
    exact ⟨(unhide HBW).trans ((unhide HB2).mono (unhide HBW).size), fun _ => by rw [unhide HT]; rfl, fun z => absurd ((unhide HT).symm.trans z) (unhide HM)⟩
end Go.Proofs.Ytbcchbhchfdbiaa
