import Derived.Test.YtbcchbhchfdbiaaWBG
namespace Go.Proofs.Ytbcchbhchfdbiaa
open Go.RowKit Go.Shelf
attribute [local go_sem] Oper.semAt_some
/-- A node but the first one is a kid. -/
theorem occ_pos {l : List Int} {v : Int} : ∀ m, 0 < occ l v m → ∃ t, t < m ∧ nth l t = v
  | 0, h => by exact absurd (show 0 < 0 from h) (by omega)
  | m + 1, h => by
    rw [occ] at h
    by_cases e : nth l m = v
    · exact ⟨m, by omega, e⟩
    · rw [if_neg e] at h
      obtain ⟨t, h1, h2⟩ := occ_pos m (by omega)
      exact ⟨t, by omega, h2⟩
theorem par_pos {L : List Nd} {v : Int} : ∀ i, 0 < par L v i → ∃ k, k < i ∧ ∃ t, t < (ndAt L k).k.ln ∧ nth (ndAt L k).k.ints t = v
  | 0, h => by exact absurd (show 0 < 0 from h) (by omega)
  | i + 1, h => by
    rw [par] at h
    by_cases e : 0 < occ (ndAt L i).k.ints v (ndAt L i).k.ln
    · exact ⟨i, by omega, occ_pos _ e⟩
    · have h0 : 0 < par L v i := by omega
      obtain ⟨k, h1, h2⟩ := par_pos i h0
      exact ⟨k, by omega, h2⟩
theorem has_par {P n : Nat} {L : List Nd} (hT : GT P n L (kd L)) (hm : tmE (P : Int) n L = 0) {v : Nat} (v1 : 1 ≤ v) (vn : v < n) : ∃ k t, k < v ∧ t < (ndAt L k).k.ln ∧ kd L k t = v := by
  have := (tmE_zero hm).2.2.2 v v1 vn
  obtain ⟨k, h1, t, h2, h3⟩ := par_pos n (show 0 < par L v n by omega)
  have h4 := hT.kid k h1 t h2
  have h5 := hT.pos k h1 t
  refine ⟨k, t, ?_, h2, ?_⟩ <;> omega
/-- From the first node on all are reached. -/
theorem all_reached {P n : Nat} {L : List Nd} (hT : GT P n L (kd L)) (hm : tmE (P : Int) n L = 0) {R : Nat → Prop} (h0 : R 0) (hc : ∀ i v, R i → i < n → v < (ndAt L i).k.ln → R (kd L i v)) : ∀ j, j < n → R j := by
  intro j
  induction j using Nat.strongRecOn with
  | _ j ih =>
    intro hj
    rcases Nat.eq_zero_or_pos j with e | e
    · subst e; exact h0
    · obtain ⟨k, t, h1, h2, h3⟩ := has_par hT hm e hj
      rw [← h3]
      exact hc k t (ih k h1 (by omega)) (by omega) h2
set_option maxRecDepth 100000 in
set_option maxHeartbeats 8000000 in
/-- The document's Backward: the choices of the program's. -/
theorem backwardR_any (P : Nat) (a : Option Addr) (n c : Nat) (L : List Nd) (ch : Nat → Int) (ge : Nat → Sl) (hT : GT P n L (kd L)) (hm : tmE (P : Int) n L = 0) (hD : Done L n 0 (CHB L) (kd L) ch ge) (w : World) (h : Nodes w a n c L) :
    Calls Try.prog 13 #[tV P a n c] w fun e w' => ∃ g f, e = .returned (.slice (some ⟨g, 0, none⟩) n n) ∧ RowI w' g n f ∧ (∀ j, j < n → f j = ch j) ∧ Below w.heap.size w w' := by
  have n40 := hT.n40
  have n1 := hT.n1
  have hmk := fun X => mk25 (n := n) n40 X
  obtain ⟨W, hW, hbW, hlt0, hbox⟩ := tbox (w := w) P a n c
  have hN := h.later hbW
  have g1 := h.2.1
  have g2 := h.2.2.1
  unfold maxLen at g2
  have hbA : Below W.heap.size W (W.alloc (.cells (madeCells #[.int .i64 0] n) 3)) := by go_grown
  have hnew := World.alloc_heap_new W (.cells (madeCells #[.int .i64 0] n) 3)
  have hs : W.heap.size = w.heap.size + 1 := by rw [← hW]; simp
  rw [hs] at hnew
  have hRow : RowI (W.alloc (.cells (madeCells #[.int .i64 0] n) 3)) (w.heap.size + 1) n (fun _ => 0) := ⟨blk_lt hnew, fun j hj => ⟨(cell_in' hnew j).1.trans (made_cell _ n j hj), (cell_in' hnew j).2⟩⟩
  have CB := hide (backFrom_any P a n c L ch ge hT hD W hN (w.heap.size + 1) (by omega) 0 (by omega) _ _ hbA hRow (fun i _ _ => .inl rfl))
  have HFIN : Hid (∀ e w', BFP n L ch ge (w.heap.size + 1) 0 (fun _ => 0) (W.alloc (.cells (madeCells #[.int .i64 0] n) 3)) e w' → e = .returned (.slice (ge 0).la (ge 0).ln (ge 0).lc) ∧ ∃ f, RowI w' (w.heap.size + 1) n f ∧ (∀ j, j < n → f j = ch j) ∧ Below w.heap.size w w') := fun e w' hp => by
    obtain ⟨he, kp, f', hR, hF⟩ := hp
    obtain ⟨R, r1, r2, r3, r4⟩ := hF.all
    refine ⟨he, f', hR, fun j hj => r4 j (all_reached hT hm r1 r3 j hj) hj, ?_⟩
    have hbw := hbW.trans (hbA.mono hbW.size)
    exact hbw.trans ⟨kp.os, kp.tape, kp.output, kp.size, fun q hq => kp.block q ⟨by have := hbw.size; omega, by omega⟩⟩
  obtain ⟨x0, x1⟩ := hbox _ hbA
  obtain ⟨y0, y1⟩ := hbox W (Below.refl _ _)
  unfold tV at CB ⊢
  subst hW
  clear h hbW hbox hN hbA hnew hRow hD hT hm hs
  go_enter Try.func13, Try.ntmps13
  go_wp2_with fail
  refine (unhide CB).mono ?_
  intro e w2 hp
  obtain ⟨rfl, f, h1, h2, h3⟩ := unhide HFIN e w2 hp
  have HF : Hid (RowI w2 (w.heap.size + 1) n f ∧ (∀ j, j < n → f j = ch j) ∧ Below w.heap.size w w2) := ⟨h1, h2, h3⟩
  clear hp h1 h2 h3
  go_wp2
  go_ret
  obtain ⟨h1, h2, h3⟩ := unhide HF
  exact ⟨_, f, rfl, h1, h2, h3⟩
end Go.Proofs.Ytbcchbhchfdbiaa
namespace Go.Proofs.Ytbcchbhchfdbiaa
open Go.RowKit Go.Shelf
attribute [local go_sem] Oper.semAt_some
def SingR (w : World) (n : Nat) (L : List Nd) (ge : Nat → Sl) (e : Ending) (w' : World) : Prop :=
  Below w.heap.size w w' ∧ ((∃ j i : Nat, j < n ∧ i < (ndAt L j).k.ln ∧ Bad1 L ge j i ∧ e = .returned (.bool false)) ∨ ((∀ j i : Nat, j < n → i < (ndAt L j).k.ln → ¬ Bad1 L ge j i) ∧ e = .returned (.bool true)))
set_option maxRecDepth 100000 in
set_option maxHeartbeats 8000000 in
/-- The document's Single. -/
theorem singleR_any (P : Nat) (a : Option Addr) (n c : Nat) (L : List Nd) (qa : Option Addr) (qc : Nat) (q : List Int) (ch : Nat → Int) (ge : Nat → Sl) (hT : GT P n L (kd L)) (hD : Done L n 0 (CHC q) (kd L) ch ge) (w : World) (h : Nodes w a n c L) (hq : Ints w qa n qc q) :
    Calls Try.prog 18 #[tV P a n c, .slice qa n qc] w (SingR w n L ge) := by
  obtain ⟨W, hW, hbW, hlt0, hbox⟩ := tbox (w := w) P a n c
  have HW := hide hW
  have HBW := hide hbW
  have HBX0 := hide hbox
  have hN := h.later hbW
  have hQ := hq.later hbW
  have HN := hide hN
  have hc1 := h.2.1
  have hc2 := h.2.2.1
  unfold maxLen at hc2
  have n40 := hT.n40
  have n1 := hT.n1
  have p5 := hT.P5
  have HT := hide hT
  have HD := hide hD
  have CR : Hid (∀ j, j < n → ∀ wr, Below W.heap.size W wr → Calls Try.prog 19 #[tV P a n c, .slice qa n qc, .int .i64 (j : Int)] wr fun e w' => e = .returned (.slice (ge j).la (ge j).ln (ge j).lc) ∧ Below wr.heap.size wr w') := fun j hj wr hb => reach_any P a n c L qa qc q ch ge hT hD j hj wr (hN.later hb) (hQ.later hb)
  obtain ⟨nb, no, ea, hnb, hncell⟩ := hN.cellAt (by omega)
  have HC := hide hncell
  subst ea
  unfold tV at CR ⊢
  clear h hq hW hbW hbox hN hQ hT hD hncell
  go_enter Try.func18, Try.ntmps18
  go_wp2_with fail
  rw [unhide HW]
  go_loopw [5, 6, 7, 8, 9] (fun i _ _ _ _ wr => Hid (Below W.heap.size W wr) ∧ ∃ k : Nat, k ≤ n ∧ i = .int .i64 k ∧ Hid (∀ j i : Nat, j < k → i < (ndAt L j).k.ln → ¬ Bad1 L ge j i)) (fun i _ _ _ _ _ => n - (intOf i).toNat)
  case atStart => exact ⟨Below.refl _ _, 0, Nat.zero_le _, rfl, fun j i h => by omega⟩
  case round =>
    obtain ⟨HBr, j, hj, rfl, HI⟩ := hrel
    obtain ⟨v0, v1⟩ := unhide HBX0 wr (unhide HBr)
    by_cases hlt : j < n
    · obtain ⟨c0, c1, c2⟩ := unhide HC _ (unhide HBr) j hlt
      have hM := ((unhide HN).mem hlt).1
      have HM3 := hide hM
      have hkl := hM.2.1
      have hkm := hM.2.2.1
      unfold maxLen at hkm
      have HKD := hide (fun i hi => (unhide HT).kid j hlt i hi)
      have HKL := hide (fun i hi => (unhide HT).klt j hlt i hi)
      have HMV := hide ((unhide HT).mover j hlt)
      have HB1 : Hid (∀ i, Bad1 L ge j i ↔ nth (ge j).ints (ndAt L j).pl.toNat < nth (ge (kd L j i)).ints (ndAt L j).pl.toNat) := fun i => Iff.rfl
      have HI2 : Hid (∀ (hh : ∀ i, i < (ndAt L j).k.ln → ¬ Bad1 L ge j i) (j' i : Nat), j' < j + 1 → i < (ndAt L j').k.ln → ¬ Bad1 L ge j' i) := fun hh j' i h1 h2 => by
        by_cases e : j' = j
        · subst e; exact hh i h2
        · exact unhide HI j' i (by omega) h2
      have HNO : Hid (∀ i, i < (ndAt L j).k.ln → Bad1 L ge j i → ∀ w', Below W.heap.size W w' → SingR w n L ge (.returned (.bool false)) w') := fun i hi hb w' hw' => ⟨(unhide HBW).trans (hw'.mono (unhide HBW).size), .inl ⟨j, i, hlt, hi, hb, rfl⟩⟩
      have hbA : Below wr.heap.size wr (wr.alloc (.cells #[.int .i64 (ndAt L j).pl, .slice (ndAt L j).k.la (ndAt L j).k.ln (ndAt L j).k.lc, .slice (ndAt L j).p.la (ndAt L j).p.ln (ndAt L j).p.lc] 51)) := by go_grown
      have hbWA := (unhide HBr).trans (hbA.mono (unhide HBr).size)
      have HBA := hide hbWA
      have CR0 := hide (unhide CR j hlt _ hbWA)
      obtain ⟨s0, s1⟩ := unhide HBX0 _ hbWA
      have HP0 : Hid (∀ wz, Below (wr.alloc (.cells #[.int .i64 (ndAt L j).pl, .slice (ndAt L j).k.la (ndAt L j).k.ln (ndAt L j).k.lc, .slice (ndAt L j).p.la (ndAt L j).p.ln (ndAt L j).p.lc] 51)).heap.size (wr.alloc (.cells #[.int .i64 (ndAt L j).pl, .slice (ndAt L j).k.la (ndAt L j).k.ln (ndAt L j).k.lc, .slice (ndAt L j).p.la (ndAt L j).p.ln (ndAt L j).p.lc] 51)) wz → wz.cell? ⟨wr.heap.size, 0, none⟩ = some (.int .i64 (ndAt L j).pl) ∧ wz.cell? ⟨wr.heap.size, 1, none⟩ = some (.slice (ndAt L j).k.la (ndAt L j).k.ln (ndAt L j).k.lc)) := fun wz hz => ⟨(hz.cell (p := ⟨wr.heap.size, 0, none⟩) (by simp)).trans (by simp [World.cell?_alloc_at]), (hz.cell (p := ⟨wr.heap.size, 1, none⟩) (by simp)).trans (by simp [World.cell?_alloc_at])⟩
      clear hM HI hbA hbWA
      generalize ndAt L j = d at *
      obtain ⟨pl, ⟨ka, kn, kc, kids⟩, ⟨qa', qn', qc', pay⟩⟩ := d
      unfold SlIn at HM3
      simp only at c0 c1 c2 HM3 hkl hkm HKD HKL HMV HB1 HI2 HNO CR0 HBA HP0 s0 s1
      go_wp2_with fail
      refine (unhide CR0).mono ?_
      rintro e w4 ⟨rfl, hb4⟩
      have HB4 := hide ((unhide HBA).trans (hb4.mono (unhide HBA).size))
      have HP4 : Hid (∀ wz, Below w4.heap.size w4 wz → wz.cell? ⟨wr.heap.size, 0, none⟩ = some (.int .i64 pl) ∧ wz.cell? ⟨wr.heap.size, 1, none⟩ = some (.slice ka kn kc)) := fun wz hz => unhide HP0 wz (hb4.trans (hz.mono hb4.size))
      clear hb4 HP0 CR0 s0 s1 c0 c1 c2 v0 v1
      go_wp2_with fail
      go_loopw [8, 9] (fun i _ wz => Hid (Below w4.heap.size w4 wz) ∧ ∃ k : Nat, k ≤ kn ∧ i = .int .i64 k ∧ Hid (∀ i, i < k → ¬ Bad1 L ge j i)) (fun i _ _ => kn - (intOf i).toNat)
      case atStart => exact ⟨Below.refl _ _, 0, Nat.zero_le _, rfl, fun i h => by omega⟩
      case round =>
        obtain ⟨HBs, i, hi, rfl, HJ⟩ := hrel
        have HBs3 := hide ((unhide HB4).trans ((unhide HBs).mono (unhide HB4).size))
        rename World => wz
        obtain ⟨y0, y1⟩ := unhide HP4 wz (unhide HBs)
        obtain ⟨s0, s1⟩ := unhide HBX0 _ (unhide HBs3)
        by_cases hil : i < kn
        · have hmv := unhide HMV (by omega)
          have hp0 := hmv.1
          have hp1 := hmv.2.1
          have hwp : pl.toNat < P := by omega
          obtain ⟨kb, ko, eka, hkb, hkc'⟩ := ((unhide HM3).later (unhide HBs3)).nth (by omega)
          have z1 := hkc' i hil
          rw [unhide HKD i hil] at z1
          have hkk := unhide HKL i hil
          have CR1 := hide (unhide CR (kd L j i) hkk wz.drew ((unhide HBs3).drew))
          have hB1 := unhide HB1 i
          have hb1' := unhide HNO i hil
          subst eka
          have HGE : Hid (∀ wy, Below W.heap.size W wy → (∃ b2 o2, (ge j).la = some ⟨b2, o2, none⟩ ∧ wy.cell? ⟨b2, o2 + pl.toNat, none⟩ = some (.int .i64 (nth (ge j).ints pl.toNat)) ∧ (ge j).ln = P ∧ P ≤ (ge j).lc ∧ (ge j).lc ≤ 9223372036854775807) ∧ (∃ b2 o2, (ge (kd L j i)).la = some ⟨b2, o2, none⟩ ∧ wy.cell? ⟨b2, o2 + pl.toNat, none⟩ = some (.int .i64 (nth (ge (kd L j i)).ints pl.toNat)) ∧ (ge (kd L j i)).ln = P ∧ P ≤ (ge (kd L j i)).lc ∧ (ge (kd L j i)).lc ≤ 9223372036854775807)) := fun wy hy => ⟨get_cell ((unhide HN).later hy) (unhide HT) (unhide HD) hlt hwp, get_cell ((unhide HN).later hy) (unhide HT) (unhide HD) hkk hwp⟩
          obtain ⟨⟨b2, o2, e1, -, e2, e3, e4⟩, ⟨b3, o3, e5, -, e6, e7, e8⟩⟩ := unhide HGE wz (unhide HBs3)
          rw [e1, e2]
          rw [e5, e6] at CR1
          rw [e1, e5] at HGE
          clear hmv hkc' e1 e2 e5 e6
          generalize (ge (kd L j i)).lc = lc1 at *
          generalize (ge j).lc = lc2 at *
          by_cases hbad : Bad1 L ge j i
          · have HF := hide (hb1' hbad)
            have hd : decide (nth (ge j).ints pl.toNat < nth (ge (kd L j i)).ints pl.toNat) = true := by simpa using hB1.1 hbad
            clear hbad hB1 hb1'
            generalize nth (ge j).ints pl.toNat = m1 at *
            generalize nth (ge (kd L j i)).ints pl.toNat = m2 at *
            generalize kd L j i = kk at *
            go_wp2_with fail
            refine wp_region_still_tail 7 (by kernel_rfl) (by kernel_rfl) ?_
            simp only [List.take_succ_cons, List.take_zero, List.drop_succ_cons, List.drop_zero]
            show wpStill Try.prog _ wz.drew (fun a' => wpList Try.prog _ _ _ a' wz.drew) _ _
            iterate 7 still_step
            refine wpStill_nil ?_
            go_wp2_with fail
            refine (unhide CR1).mono ?_
            rintro e w6 ⟨rfl, hb6⟩
            have hb6' : Below wz.heap.size wz w6 := (Below.refl _ _).drew.trans hb6
            have hb6w := (unhide HBs3).trans (hb6'.mono (unhide HBs3).size)
            obtain ⟨⟨_, _, q1, q2, -⟩, ⟨_, _, q3, q4, -⟩⟩ := unhide HGE w6 hb6w
            cases q1
            cases q3
            obtain ⟨t0, t1⟩ := unhide HP4 w6 ((unhide HBs).trans (hb6'.mono (unhide HBs).size))
            have HB6 := hide hb6w
            clear hb6 hb6' hb6w y0 y1 s0 s1 z1 CR1
            go_wp2_with fail
            go_quiet (fail)
            go_wp2_with fail
            go_ret
            exact unhide HF _ ((unhide HB6).trans ((below_drewN _ w6 nq).mono (unhide HB6).size))
          · have HF := hide hbad
            have hd : decide (nth (ge j).ints pl.toNat < nth (ge (kd L j i)).ints pl.toNat) = false := by simpa using fun q => hbad (hB1.2 q)
            clear hbad hB1 hb1'
            generalize nth (ge j).ints pl.toNat = m1 at *
            generalize nth (ge (kd L j i)).ints pl.toNat = m2 at *
            generalize kd L j i = kk at *
            go_wp2_with fail
            refine wp_region_still_tail 7 (by kernel_rfl) (by kernel_rfl) ?_
            simp only [List.take_succ_cons, List.take_zero, List.drop_succ_cons, List.drop_zero]
            show wpStill Try.prog _ wz.drew (fun a' => wpList Try.prog _ _ _ a' wz.drew) _ _
            iterate 7 still_step
            refine wpStill_nil ?_
            go_wp2_with fail
            refine (unhide CR1).mono ?_
            rintro e w6 ⟨rfl, hb6⟩
            have hb6' : Below wz.heap.size wz w6 := (Below.refl _ _).drew.trans hb6
            have hb6w := (unhide HBs3).trans (hb6'.mono (unhide HBs3).size)
            obtain ⟨⟨_, _, q1, q2, -⟩, ⟨_, _, q3, q4, -⟩⟩ := unhide HGE w6 hb6w
            cases q1
            cases q3
            obtain ⟨t0, t1⟩ := unhide HP4 w6 ((unhide HBs).trans (hb6'.mono (unhide HBs).size))
            have HB6 := hide ((unhide HBs).trans (hb6'.mono (unhide HBs).size))
            clear hb6 hb6' hb6w y0 y1 s0 s1 z1 CR1
            go_wp2_with fail
            go_quiet (fail)
            go_wp2_with fail
            refine ⟨⟨(unhide HB6).trans ((below_drewN _ w6 nq).mono (unhide HB6).size), i + 1, by omega, by go_num, fun y hy => ?_⟩, by simp [intOf]; omega⟩
            by_cases e : y = i
            · subst e; exact unhide HF
            · exact unhide HJ y (by omega)
        · obtain rfl : kn = i := by omega
          have HF := hide (unhide HI2 (unhide HJ))
          go_wp2_with fail
          exact ⟨⟨HBs3, j + 1, by omega, by go_num, HF⟩, by simp [intOf]; omega⟩
    · obtain rfl : n = j := by omega
      go_wp2
      go_ret
      exact ⟨(unhide HBW).trans ((unhide HBr).mono (unhide HBW).size), .inr ⟨unhide HI, rfl⟩⟩
end Go.Proofs.Ytbcchbhchfdbiaa
namespace Go.Proofs.Ytbcchbhchfdbiaa
open Go.RowKit Go.Shelf
attribute [local go_sem] Oper.semAt_some
/-- A node's three cells. -/
def ndC (d : Nd) : Array Value := #[.int .i64 d.pl, .slice d.k.la d.k.ln d.k.lc, .slice d.p.la d.p.ln d.p.lc]
/-- Where follow stands. -/
def FI (w : World) (P : Nat) (a : Option Addr) (n c : Nat) (L : List Nd) (i : Nat) (wr : World) : Prop :=
  Below w.heap.size w wr ∧ w.heap.size + 3 ≤ wr.heap.size ∧ wr.heap[w.heap.size]? = some (.cells #[.int .i64 (P : Int), .slice a n c] 24 (0, 0)) ∧ wr.heap[w.heap.size + 1]? = some (.cells #[.int .i64 0, .slice none 0 0, .slice none 0 0] 51 (0, 0)) ∧ wr.heap[w.heap.size + 2]? = some (.cells (ndC (ndAt L i)) 51 (0, 0))
/-- A whole node laid over another. -/
theorem node_over {wr : World} {g : Nat} {x y z x' y' z' : Value} (h : wr.heap[g]? = some (.cells #[x, y, z] 51 (0, 0))) :
    (((wr.setCell ⟨g, 0, none⟩ x').setCell ⟨g, 1, none⟩ y').setCell ⟨g, 2, none⟩ z').heap[g]? = some (.cells #[x', y', z'] 51 (0, 0)) := by
  rw [heap_setCell_same _ _ _ _ _ _ (heap_setCell_same _ _ _ _ _ _ (heap_setCell_same _ _ _ _ _ _ h))]; rfl
theorem node_other {wr : World} {g q : Nat} {x' y' z' : Value} (h : q ≠ g) : (((wr.setCell ⟨g, 0, none⟩ x').setCell ⟨g, 1, none⟩ y').setCell ⟨g, 2, none⟩ z').heap[q]? = wr.heap[q]? := by
  rw [Below.heap_setCell _ _ _ _ h, Below.heap_setCell _ _ _ _ h, Below.heap_setCell _ _ _ _ h]
set_option maxRecDepth 100000 in
set_option maxHeartbeats 8000000 in
/-- follow: the end to which choices lead. -/
theorem follow_any (P : Nat) (a : Option Addr) (n c : Nat) (L : List Nd) (q : List Int) (ch : Nat → Int) (ge : Nat → Sl) (hT : GT P n L (kd L)) (hD : Done L n 0 (CHC q) (kd L) ch ge) (fid : Nat) (lb : Array Value) (j : Nat) (hj : j < n) (w : World) (h : Nodes w a n c L) (heg : ∀ args w, (callFunc fid args).run Try.prog w = .ok (.enter fid args) w)
    (hcl : ∀ i, i < n → ∀ W2, Below w.heap.size w W2 → Calls Try.prog fid (#[.int .i64 (i : Int)] ++ lb) W2 fun e w' => e = .returned (.int .i64 (nth q i)) ∧ w' = W2) :
    Calls Try.prog 32 #[tV P a n c, .int .i64 (j : Int), .func (.func fid) #[] lb] w fun e w' => ∃ i, i < n ∧ (ndAt L i).k.ln = 0 ∧ (ndAt L i).p = ge j ∧ e = .returned (.agg (ndC (ndAt L i))) ∧ Below w.heap.size w w' := by
  have g1 := h.2.1
  have g2 := h.2.2.1
  unfold maxLen at g2
  have n40 := hT.n40
  obtain ⟨b, off, ea, hb, hcell⟩ := h.cellAt (by omega)
  subst ea
  have HC := hide hcell
  have HN := hide h
  have HT := hide hT
  have HD := hide hD
  have HCL := hide hcl
  have hbA : Below w.heap.size w ((w.alloc (.cells #[.int .i64 (P : Int), .slice (some ⟨b, off, none⟩) n c] 24)).alloc (.cells #[.int .i64 0, .slice none 0 0, .slice none 0 0] 51)) := by go_grown
  obtain ⟨c0, c1, c2⟩ := hcell _ hbA j hj
  have hbB : Below w.heap.size w (((w.alloc (.cells #[.int .i64 (P : Int), .slice (some ⟨b, off, none⟩) n c] 24)).alloc (.cells #[.int .i64 0, .slice none 0 0, .slice none 0 0] 51)).alloc (.cells (ndC (ndAt L j)) 51)) := by go_grown
  have hF0 : FI w P (some ⟨b, off, none⟩) n c L j (((w.alloc (.cells #[.int .i64 (P : Int), .slice (some ⟨b, off, none⟩) n c] 24)).alloc (.cells #[.int .i64 0, .slice none 0 0, .slice none 0 0] 51)).alloc (.cells (ndC (ndAt L j)) 51)) := by
    refine ⟨hbB, by simp, ?_, ?_, ?_⟩
    · rw [Below.heap_alloc _ _ _ (by simp; omega), Below.heap_alloc _ _ _ (by simp)]; exact World.alloc_heap_new _ _
    · rw [Below.heap_alloc _ _ _ (by simp)]
      have : w.heap.size + 1 = (w.alloc (.cells #[.int .i64 (P : Int), .slice (some ⟨b, off, none⟩) n c] 24)).heap.size := by simp
      rw [this]; exact World.alloc_heap_new _ _
    · have : w.heap.size + 2 = ((w.alloc (.cells #[.int .i64 (P : Int), .slice (some ⟨b, off, none⟩) n c] 24)).alloc (.cells #[.int .i64 0, .slice none 0 0, .slice none 0 0] 51)).heap.size := by simp
      rw [this]; exact World.alloc_heap_new _ _
  have HF0 := hide hF0
  unfold ndC at HF0
  unfold tV
  clear h hcell hT hD hcl hbA hbB hF0
  generalize hd0 : ndAt L j = d0 at *
  clear hd0
  obtain ⟨pl, ⟨ka, kn, kc, kids⟩, ⟨pa, pn, pc, pay⟩⟩ := d0
  simp only at c0 c1 c2 HF0
  go_enter Try.func32, Try.ntmps32
  go_wp2_with fail
  generalize ((w.alloc (.cells #[.int .i64 (P : Int), .slice (some ⟨b, off, none⟩) n c] 24)).alloc (.cells #[.int .i64 0, .slice none 0 0, .slice none 0 0] 51)).alloc (.cells #[.int .i64 pl, .slice ka kn kc, .slice pa pn pc] 51) = W0 at *
  go_loopw [1] (fun av wr => ∃ i : Nat, i < n ∧ av = .int .i64 (i : Int) ∧ Hid (FI w P (some ⟨b, off, none⟩) n c L i wr) ∧ Hid (ge i = ge j)) (fun av _ => n - (intOf av).toNat)
  case atStart => exact ⟨j, hj, rfl, HF0, rfl⟩
  case round =>
    clear HF0 c0 c1 c2
    obtain ⟨i, hi, rfl, HF, HG⟩ := hrel
    obtain ⟨f1, f2, f3, f4, f5⟩ := unhide HF
    have HFb := hide f1
    have HF3 := hide f3
    have HF4 := hide f4
    have HF5 := hide f5
    have y1 := (cell_in' f3 1).1
    have z0 := (cell_in' f5 0).1
    have z1 := (cell_in' f5 1).1
    have z2 := (cell_in' f5 2).1
    have fz0 := (cell_in' f5 0).2
    have fz1 := (cell_in' f5 1).2
    have fz2 := (cell_in' f5 2).2
    have rz0 := (cell_in' f4 0).1
    have rz1 := (cell_in' f4 1).1
    have rz2 := (cell_in' f4 2).1
    have rf0 := (cell_in' f4 0).2
    have rf1 := (cell_in' f4 1).2
    have rf2 := (cell_in' f4 2).2
    unfold ndC at z0 z1 z2 HF5
    simp at y1 z0 z1 z2 rz0 rz1 rz2
    have hM := ((unhide HN).later f1).mem hi
    have hkl := hM.1.2.1
    have hkm := hM.1.2.2.1
    unfold maxLen at hkm
    clear f1 f3 f4 f5 HF
    by_cases hk : (ndAt L i).k.ln = 0
    · have hge := ((unhide HD i (Nat.zero_le _) hi).2
        |> fun _ => ((unhide HD i (Nat.zero_le _) hi).1 hk).2)
      have HE : Hid (∀ w', Below w.heap.size w w' → ∃ i', i' < n ∧ (ndAt L i').k.ln = 0 ∧ (ndAt L i').p = ge j ∧ Ending.returned (.agg (ndC (ndAt L i))) = .returned (.agg (ndC (ndAt L i'))) ∧ Below w.heap.size w w') := fun w' hw => ⟨i, hi, hk, by rw [← hge]; exact unhide HG, rfl, hw⟩
      rw [hk] at z1 hkl
      have HK0 := hide hk
      unfold ndC at HE
      have HEk : Hid ((ndAt L i).k.ln = 0) := hk
      rw [hk] at HE
      clear hM hge hk
      generalize ndAt L i = d at *
      obtain ⟨pl', ⟨ka', kn', kc', kids'⟩, ⟨pa', pn', pc', pay'⟩⟩ := d
      simp only at z0 z1 z2 hkl hkm HE
      have HBF : Hid (Below w.heap.size w (((wr.setCell ⟨w.heap.size + 1, 0, none⟩ (.int .i64 pl')).setCell ⟨w.heap.size + 1, 1, none⟩ (.slice ka' 0 kc')).setCell ⟨w.heap.size + 1, 2, none⟩ (.slice pa' pn' pc'))) := (((unhide HFb).setCell (p := ⟨w.heap.size + 1, 0, none⟩) (Nat.le_succ _) _).setCell (p := ⟨w.heap.size + 1, 1, none⟩) (Nat.le_succ _) _).setCell (p := ⟨w.heap.size + 1, 2, none⟩) (Nat.le_succ _) _
      go_wp2_with fail
      (try simp only [Exit.inBlock, Exit.then])
      refine bodyPost_ret (results_cell_row rfl _ _ (w.heap.size + 1) 51 _ (0, 0) _ rfl (node_over (unhide HF4)) Try.underlying51 rfl (by show _ = some 3; kernel_rfl)) rfl ?_
      exact unhide HE _ (unhide HBF)
    · have hk1 : 0 < (ndAt L i).k.ln := by omega
      have hgt : decide ((0 : Int) < ((ndAt L i).k.ln : Int)) = true := by simp; omega
      obtain ⟨v, v1, v2, v3, v4⟩ := (unhide HD i (Nat.zero_le _) hi).2 hk1
      unfold CHC at v3
      have CC : Hid (∀ d, Calls Try.prog fid (#[.int .i64 (i : Int)] ++ lb) (wr.drewN d) fun e w' => e = .returned (.int .i64 (v : Int)) ∧ w' = wr.drewN d) := fun d => by
        have := unhide HCL i hi (wr.drewN d) ((unhide HFb).trans ((below_drewN _ wr d).mono (unhide HFb).size))
        rw [v3] at this
        exact this
      obtain ⟨kb, ko, eka, hkb, hkc⟩ := hM.1.nth hk1
      have t1 := hkc v v2
      rw [(unhide HT).kid i hi v v2] at t1
      have hl := (unhide HT).klt i hi v v2
      have hp := (unhide HT).pos i hi v
      have HG2 : Hid (ge (kd L i v) = ge j) := v4.symm.trans (unhide HG)
      obtain ⟨d0, d1, d2⟩ := unhide HC wr (unhide HFb) (kd L i v) hl
      rw [eka] at z1
      clear hM v1 v3 v4 hkc
      generalize kd L i v = kk at *
      generalize hd' : ndAt L kk = d' at *
      have HDD := hide hd'
      clear hd'
      obtain ⟨pl', ⟨ka', kn', kc', kids'⟩, ⟨pa', pn', pc', pay'⟩⟩ := d'
      generalize ndAt L i = d at *
      obtain ⟨pl, ⟨ka, kn, kc, kids⟩, ⟨pa, pn, pc, pay⟩⟩ := d
      simp only at z0 z1 z2 hkl hkm hk hk1 hgt t1 d0 d1 d2 v2 eka
      go_wp2_with fail
      go_quiet ((refine Calls.quiet_of_same (unhide CC _)))
      have hbz := below_drewN wr.heap.size wr nq
      have HBz := hide ((unhide HFb).trans (hbz.mono (unhide HFb).size))
      have x0 := hbz.cell (p := ⟨b, off + kk * 3, none⟩) (Nat.lt_of_lt_of_le hb (unhide HFb).size)
      have x1 := hbz.cell (p := ⟨b, off + kk * 3 + 1, none⟩) (Nat.lt_of_lt_of_le hb (unhide HFb).size)
      have x2 := hbz.cell (p := ⟨b, off + kk * 3 + 2, none⟩) (Nat.lt_of_lt_of_le hb (unhide HFb).size)
      rw [d0] at x0
      rw [d1] at x1
      rw [d2] at x2
      have g3 : (wr.drewN nq).heap[w.heap.size]? = some (.cells #[.int .i64 (P : Int), .slice (some ⟨b, off, none⟩) n c] 24 (0, 0)) := unhide HF3
      have g4 : (wr.drewN nq).heap[w.heap.size + 1]? = some (.cells #[.int .i64 0, .slice none 0 0, .slice none 0 0] 51 (0, 0)) := unhide HF4
      have g5 : (wr.drewN nq).heap[w.heap.size + 2]? = some (.cells #[.int .i64 pl, .slice ka kn kc, .slice pa pn pc] 51 (0, 0)) := unhide HF5
      have hs3 : w.heap.size + 3 ≤ (wr.drewN nq).heap.size := f2
      clear d0 d1 d2 y1 z0 z1 z2 fz0 fz1 fz2 rz0 rz1 rz2 rf0 rf1 rf2 HF3 HF4 HF5 t1 CC hbz f2
      generalize wr.drewN nq = wy at *
      have y1 := (cell_in' g3 1).1
      have z0 := (cell_in' g5 0).1
      have z1 := (cell_in' g5 1).1
      have z2 := (cell_in' g5 2).1
      have fz0 := (cell_in' g5 0).2
      have fz1 := (cell_in' g5 1).2
      have fz2 := (cell_in' g5 2).2
      simp at y1 z0 z1 z2
      have HFF : Hid (FI w P (some ⟨b, off, none⟩) n c L kk (((wy.setCell ⟨w.heap.size + 1 + 1, 0, none⟩ (.int .i64 pl')).setCell ⟨w.heap.size + 1 + 1, 1, none⟩ (.slice ka' kn' kc')).setCell ⟨w.heap.size + 1 + 1, 2, none⟩ (.slice pa' pn' pc'))) := by
        refine ⟨(((unhide HBz).setCell (p := ⟨w.heap.size + 1 + 1, 0, none⟩) (by show _ ≤ w.heap.size + 1 + 1; omega) _).setCell (p := ⟨w.heap.size + 1 + 1, 1, none⟩) (by show _ ≤ w.heap.size + 1 + 1; omega) _).setCell (p := ⟨w.heap.size + 1 + 1, 2, none⟩) (by show _ ≤ w.heap.size + 1 + 1; omega) _, by simpa using hs3, ?_, ?_, ?_⟩
        · rw [node_other (by omega)]; exact g3
        · rw [node_other (by omega)]; exact g4
        · rw [unhide HDD]; exact node_over g5
      clear g3 g4 g5 hs3
      go_wp2_with fail
      go_roundw
      case rel => exact ⟨kk, hl, rfl, HFF, HG2⟩
      case measure => simp [intOf]; omega
end Go.Proofs.Ytbcchbhchfdbiaa
