import Derived.Test.YtbcchbhchfdbiaaWBB
namespace Go.Proofs.Ytbcchbhchfdbiaa
open Go.RowKit Go.Shelf
attribute [local go_sem] Oper.semAt_some
set_option maxRecDepth 100000 in
set_option maxHeartbeats 4000000 in
theorem choicesMay_any (P : Int) (a : Option Addr) (n c : Nat) (L : List Nd) (qa : Option Addr) (qn qc : Nat) (q : List Int) (w : World) (h : Nodes w a n c L) (hq : Ints w qa qn qc q) :
    Calls Try.prog 9 #[tV P a n c, .slice qa qn qc] w fun e w' => e = .returned (.int .i64 (mcE P n L q)) ∧ Below w.heap.size w w' := by
  obtain ⟨W, hW, hbW, hlt0, hbox⟩ := tbox (w := w) P a n c
  have HW := hide hW
  have HBW := hide hbW
  have HBX0 := hide hbox
  have w0 := (hbox W (Below.refl _ _)).1
  have w1 := (hbox W (Below.refl _ _)).2
  have hN := h.later hbW
  have hQ := hq.later hbW
  have CM := hide (treeMay_any P a n c L W hN)
  have HQL := hide hq.1
  have gq1 := hq.2.1
  have gq2 := hq.2.2.1
  unfold maxLen at gq2
  have hc1 := h.2.1
  have hc2 := h.2.2.1
  unfold maxLen at hc2
  by_cases hm : tmE P n L = 0
  · obtain ⟨p, rfl, hT⟩ := gt_of h hm
    have HM := hide hm
    rw [hm] at CM
    have n40 := hT.n40
    have n1 := hT.n1
    by_cases hqn : qn = n
    · subst hqn
      have HN := hide hN
      have HQ := hide hQ
      unfold tV at CM ⊢
      clear h hW hbW hbox hN hT hm hQ hq
      go_enter Try.func9, Try.ntmps9
      go_wp2_with fail
      rw [unhide HW]
      go_wp2_with fail
      refine (unhide CM).mono ?_
      rintro e w2 ⟨rfl, hb2⟩
      have HB2 := hide hb2
      obtain ⟨v0, v1⟩ := unhide HBX0 w2 hb2
      obtain ⟨b, off, ea, hb, hcell⟩ := ((unhide HN).later hb2).cellAt (by omega)
      obtain ⟨b3, off3, ea3, hb3, hcell3⟩ := ((unhide HQ).later hb2).nth (by omega)
      subst ea ea3
      have HC := hide hcell
      have HC3 : Hid (∀ wr, Below w2.heap.size w2 wr → ∀ j, j < qn → wr.cell? ⟨b3, off3 + j, none⟩ = some (.int .i64 (nth q j))) := fun wr hr j hj => (hr.cell (p := ⟨b3, off3 + j, none⟩) hb3).trans (hcell3 j hj)
      clear hb2 w0 w1 hcell hcell3 v0 v1
      have v := unhide HBX0 w2 (unhide HB2)
      obtain ⟨v0, v1⟩ := v
      go_wp2_with fail
      go_loopw [6] (fun i wr => Hid (Below w2.heap.size w2 wr) ∧ ∃ k : Nat, k ≤ qn ∧ i = .int .i64 k ∧ Hid (∀ j, j < k → ¬ BadC L q j)) (fun i _ => qn - (intOf i).toNat)
      case atStart => exact ⟨Below.refl _ _, 0, Nat.zero_le _, rfl, fun j hj => by omega⟩
      case round =>
        obtain ⟨HBr, k, hk, rfl, HI⟩ := hrel
        have HBe : Hid (∀ d, Below w.heap.size w (wr.drewN d) ∧ Below w2.heap.size w2 (wr.drewN d)) := fun d => by
          have h1 := (unhide HBr).trans ((below_drewN _ wr d).mono (unhide HBr).size)
          have h2 := (unhide HBW).trans ((unhide HB2).mono (unhide HBW).size)
          exact ⟨h2.trans (h1.mono h2.size), h1⟩
        obtain ⟨y0, y1⟩ := unhide HBX0 wr ((unhide HB2).trans ((unhide HBr).mono (unhide HB2).size))
        by_cases hlt : k < qn
        · obtain ⟨-, z1, -⟩ := unhide HC wr (unhide HBr) k hlt
          have z2 := unhide HC3 wr (unhide HBr) k hlt
          clear v0 v1
          have HB := hide (show BadC L q k ↔ nth q k < 0 ∨ max 1 ((ndAt L k).k.ln : Int) ≤ nth q k from Iff.rfl)
          by_cases e1 : nth q k < 0
          · have HE := hide (mcE_9 (unhide HM) (unhide HQL).symm hlt ((unhide HB).2 (.inl e1)))
            have d1 : decide (nth q k < 0) = true := by simpa using e1
            clear e1
            go_wp2_with fail
            go_quiet (fail)
            go_wp2_with fail
            go_ret
            exact ⟨ret_int (by rw [unhide HE]), (unhide HBe nq).1⟩
          · have d1 : decide (nth q k < 0) = false := by simpa using e1
            by_cases e2 : 0 < nth q k
            · have d2 : decide (0 < nth q k) = true := by simpa using e2
              by_cases e3 : ((ndAt L k).k.ln : Int) ≤ nth q k
              · have d3 : decide (((ndAt L k).k.ln : Int) ≤ nth q k) = true := by simpa using e3
                have HE := hide (mcE_9 (unhide HM) (unhide HQL).symm hlt ((unhide HB).2 (.inr (by omega))))
                clear e1 e2 e3
                go_wp2_with fail
                go_quiet (fail)
                go_wp2_with fail
                go_ret
                exact ⟨ret_int (by rw [unhide HE]), (unhide HBe nq).1⟩
              · have d3 : decide (((ndAt L k).k.ln : Int) ≤ nth q k) = false := by simpa using e3
                have HG : Hid (¬ BadC L q k) := fun hb => by have := (unhide HB).1 hb; omega
                clear e1 e2 e3
                go_wp2_with fail
                go_quiet (fail)
                go_wp2_with fail
                refine ⟨⟨(unhide HBe nq).2, k+1, by omega, by go_num, fun j hj => ?_⟩, by simp [intOf]; omega⟩
                by_cases e : j = k
                · subst e; exact unhide HG
                · exact unhide HI j (by omega)
            · have d2 : decide (0 < nth q k) = false := by simpa using e2
              have HG : Hid (¬ BadC L q k) := fun hb => by have := (unhide HB).1 hb; omega
              clear e1 e2
              go_wp2_with fail
              go_quiet (fail)
              go_wp2_with fail
              refine ⟨⟨(unhide HBe nq).2, k+1, by omega, by go_num, fun j hj => ?_⟩, by simp [intOf]; omega⟩
              by_cases e : j = k
              · subst e; exact unhide HG
              · exact unhide HI j (by omega)
        · go_wp2
          go_ret
          exact ⟨ret_int (by rw [mcE_0 (unhide HM) (unhide HQL).symm (fun j hj => unhide HI j (by omega))]), (unhide HBe 0).1⟩
    · have hne : ((qn : Int) == (n : Int)) = false := by simp; omega
      have HE := hide (mcE_7 (q := q) hm (by have := unhide HQL; omega))
      unfold tV at CM ⊢
      clear h hW hbW hbox hN hT hm hQ hq
      go_enter Try.func9, Try.ntmps9
      go_wp2_with fail
      rw [unhide HW]
      go_wp2_with fail
      refine (unhide CM).mono ?_
      rintro e w2 ⟨rfl, hb2⟩
      have HB2 := hide hb2
      obtain ⟨v0, v1⟩ := unhide HBX0 w2 hb2
      clear hb2 w0 w1
      go_wp2
      go_ret
      exact ⟨ret_int (by rw [unhide HE]), (unhide HBW).trans ((unhide HB2).mono (unhide HBW).size)⟩
  · have HE := hide (mcE_t (q := q) hm)
    have hmd : (tmE P n L == 0) = false := by simpa using hm
    unfold tV at CM ⊢
    clear h hW hbW hbox hN hm hQ hq
    generalize tmE P n L = T at *
    go_enter Try.func9, Try.ntmps9
    go_wp2_with fail
    rw [unhide HW]
    go_wp2_with fail
    refine (unhide CM).mono ?_
    rintro e w2 ⟨rfl, hb2⟩
    have HB2 := hide hb2
    clear hb2 w0 w1
    go_wp2
    go_ret
    exact ⟨ret_int (by rw [unhide HE]), (unhide HBW).trans ((unhide HB2).mono (unhide HBW).size)⟩
end Go.Proofs.Ytbcchbhchfdbiaa
namespace Go.Proofs.Ytbcchbhchfdbiaa
open Go.RowKit Go.Shelf
attribute [local go_sem] Oper.semAt_some
/-- What all get by choices, wherever they are. -/
theorem done_make {P n : Nat} {L : List Nd} {s : Nat → Nat → Nat} {CH : Nat → (Nat → List Int) → Nat → Prop} (hT : GT P n L s)
    (hch : ∀ j, j < n → 0 < (ndAt L j).k.ln → ∀ u : Nat → List Int, ∃ v : Nat, v < (ndAt L j).k.ln ∧ CH j u v) : ∀ d lo, lo + d = n → ∃ ch ge, Done L n lo CH s ch ge
  | 0, lo, h => ⟨fun _ => 0, fun _ => slNone, fun j h1 h2 => by omega⟩
  | d + 1, lo, h => by
    obtain ⟨ch, ge, hD⟩ := done_make hT hch d (lo + 1) (by omega)
    by_cases e : (ndAt L lo).k.ln = 0
    · exact ⟨upd ch lo 0, updS ge lo (ndAt L lo).p, done_next hT hD (by omega) (fun _ => ⟨rfl, rfl⟩) (fun q => by omega)⟩
    · obtain ⟨v, v1, v2⟩ := hch lo (by omega) (by omega) (fun i => (ge (s lo i)).ints)
      exact ⟨upd ch lo v, updS ge lo (ge (s lo v)), done_next hT hD (by omega) (fun q => absurd q e) (fun _ => ⟨v, rfl, v1, v2, rfl⟩)⟩
theorem done_q {P n : Nat} {L : List Nd} (hT : GT P n L (kd L)) {q : List Int} (hc : ChOk L n q) : ∃ ch ge, Done L n 0 (CHC q) (kd L) ch ge :=
  done_make hT (fun j hj hk u => by
    have := hc.lt hj hk
    exact ⟨(nth q j).toNat, by omega, by unfold CHC; omega⟩) n 0 (by omega)
/-- Reach: what all get from a node on, in the list of the tree's own. -/
theorem reach_any (P : Nat) (a : Option Addr) (n c : Nat) (L : List Nd) (qa : Option Addr) (qc : Nat) (q : List Int) (ch : Nat → Int) (ge : Nat → Sl) (hT : GT P n L (kd L)) (hD : Done L n 0 (CHC q) (kd L) ch ge) :
    ∀ j, j < n → ∀ w, Nodes w a n c L → Ints w qa n qc q → Calls Try.prog 19 #[tV P a n c, .slice qa n qc, .int .i64 (j : Int)] w fun e w' => e = .returned (.slice (ge j).la (ge j).ln (ge j).lc) ∧ Below w.heap.size w w' := by
  refine from_end fun j hj ih => ?_
  intro w h hq
  obtain ⟨W, hW, hbW, hlt0, hbox⟩ := tbox (w := w) P a n c
  have HBW := hide hbW
  have w0 := (hbox W (Below.refl _ _)).1
  have w1 := (hbox W (Below.refl _ _)).2
  have hN := h.later hbW
  have hQ := hq.later hbW
  have g1 := h.2.1
  have g2 := h.2.2.1
  have g3 := hq.2.1
  have g4 := hq.2.2.1
  unfold maxLen at g2 g4
  obtain ⟨b, off, ea, hb, hcell⟩ := hN.cellAt (by omega)
  obtain ⟨-, c1, c2⟩ := hcell W (Below.refl _ _) j hj
  obtain ⟨b2, off2, ea2, hb2, hcell2⟩ := hQ.nth (by omega)
  have d1 := hcell2 j hj
  have hM := (hN.mem hj).1
  have hkl := hM.2.1
  have hkm := hM.2.2.1
  unfold maxLen at hkm
  have k5 := hT.k5 j hj
  by_cases hk : (ndAt L j).k.ln = 0
  · have he := ((hD j (Nat.zero_le _) hj).1 hk).2
    rw [he]
    rw [hk] at c1 hkl
    subst ea ea2
    unfold tV
    subst hW
    clear h hq hbW hbox hN hQ hcell hcell2 hM hD hT ih he hk
    generalize ndAt L j = d at *
    obtain ⟨pl, ⟨ka, kn, kc, kids⟩, ⟨pa, pn, pc, pay⟩⟩ := d
    simp only at c1 c2 hkl hkm
    go_enter Try.func19, Try.ntmps19
    go_wp2
    go_ret
    exact ⟨rfl, unhide HBW⟩
  · have hk1 : 0 < (ndAt L j).k.ln := by omega
    obtain ⟨v, v1, v2, v3, v4⟩ := (hD j (Nat.zero_le _) hj).2 hk1
    unfold CHC at v3
    rw [v3] at d1
    have hp := hT.pos j hj v
    have hl := hT.klt j hj v v2
    have hkd := hT.kid j hj v v2
    obtain ⟨b3, off3, ea3, hb3, hcell3⟩ := hM.nth hk1
    have d2 := hcell3 v v2
    rw [hkd] at d2
    have CR := hide (ih (kd L j v) hp hl W.drew (hN.later (Below.refl _ _).drew) (hQ.later (Below.refl _ _).drew))
    rw [v4]
    unfold tV at CR ⊢
    have hke : (((ndAt L j).k.ln : Int) == 0) = false := by simp; omega
    subst ea ea2
    subst hW
    clear h hq hbW hbox hN hQ hcell hcell2 hcell3 hM hD hT ih v4 v3 v1
    generalize kd L j v = kk at *
    generalize ge kk = G at *
    rw [ea3] at c1
    generalize ndAt L j = d at *
    obtain ⟨pl, ⟨ka, kn, kc, kids⟩, ⟨pa, pn, pc, pay⟩⟩ := d
    obtain ⟨ga, gn, gc, gi⟩ := G
    simp only at c1 c2 hkl hkm hk1 CR v2 k5 hke ea3
    subst ea3
    go_enter Try.func19, Try.ntmps19
    go_wp2_with fail
    generalize w.alloc (.cells #[.int .i64 (P : Int), .slice (some ⟨b, off, none⟩) n c] 24) = W at *
    refine wp_region_still_tail 14 (by kernel_rfl) (by kernel_rfl) ?_
    simp only [List.take_succ_cons, List.take_zero, List.drop_succ_cons, List.drop_zero]
    show wpStill Try.prog _ W.drew (fun a' => wpList Try.prog _ _ _ a' W.drew) _ _
    iterate 14 still_step
    refine wpStill_nil ?_
    go_wp2_with fail
    refine (unhide CR).mono ?_
    rintro e w' ⟨rfl, hb'⟩
    have HF : Hid (Below w.heap.size w w') := (unhide HBW).trans (((Below.refl _ _ : Below W.heap.size W W).drew.trans hb').mono (unhide HBW).size)
    clear hb'
    go_wp2
    go_ret
    exact ⟨rfl, unhide HF⟩
end Go.Proofs.Ytbcchbhchfdbiaa
namespace Go.Proofs.Ytbcchbhchfdbiaa
open Go.RowKit Go.Shelf
attribute [local go_sem] Oper.semAt_some
/-- What backFrom does to the choices, from a node on. -/
structure BF (n : Nat) (L : List Nd) (ch : Nat → Int) (j : Nat) (f f' : Nat → Int) : Prop where
  low : ∀ i, i < j → f' i = f i
  two : ∀ i, j ≤ i → i < n → f' i = 0 ∨ f' i = ch i
  up : ∀ i, j ≤ i → i < n → f i = ch i → f' i = ch i
  all : ∃ R : Nat → Prop, R j ∧ (∀ i, R i → j ≤ i) ∧ (∀ i v, R i → i < n → v < (ndAt L i).k.ln → R (kd L i v)) ∧ ∀ i, R i → i < n → f' i = ch i
/-- Where backFrom stands, of node j, behind k kids. -/
structure BK (n : Nat) (L : List Nd) (ch : Nat → Int) (u : Nat → Int) (j k : Nat) (f f' : Nat → Int) : Prop where
  low : ∀ i, i < j → f' i = f i
  at' : f' j = if mst u k = 0 then f j else (mst u k : Int)
  two : ∀ i, j < i → i < n → f' i = 0 ∨ f' i = ch i
  up : ∀ i, j < i → i < n → f i = ch i → f' i = ch i
  all : ∃ R : Nat → Prop, (∀ t, t < k → R (kd L j t)) ∧ (∀ i, R i → j < i) ∧ (∀ i v, R i → i < n → v < (ndAt L i).k.ln → R (kd L i v)) ∧ ∀ i, R i → i < n → f' i = ch i
section
variable {P n : Nat} {L : List Nd} {ch : Nat → Int} {u : Nat → Int} {j k : Nat} {f f' f'' : Nat → Int}
theorem BK.first (hT : GT P n L (kd L)) (hj : j < n) (h : BF n L ch (kd L j 0) f f') : (∀ i, j ≤ i → i < n → f i = 0 ∨ f i = ch i) → BK n L ch u j 1 f f' := fun h2 => by
  have hp := hT.pos j hj 0
  have hm : mst u 1 = 0 := by rw [mst]; split <;> rfl
  refine ⟨fun i hi => h.low i (by omega), by rw [if_pos hm]; exact h.low j hp, fun i h1 hn => ?_, fun i h1 hn e => ?_, ?_⟩
  · by_cases q : kd L j 0 ≤ i
    · exact h.two i q hn
    · rw [h.low i (by omega)]; exact h2 i (by omega) hn
  · by_cases q : kd L j 0 ≤ i
    · exact h.up i q hn e
    · rw [h.low i (by omega)]; exact e
  · obtain ⟨R, r1, r2, r3, r4⟩ := h.all
    refine ⟨R, fun t ht => by obtain rfl : t = 0 := by omega
                              exact r1, fun i hi => by have := r2 i hi; omega, r3, r4⟩
/-- One kid more, no better than those ahead. -/
theorem BK.no (hT : GT P n L (kd L)) (hj : j < n) (h : BK n L ch u j k f f') (g : BF n L ch (kd L j k) f' f'') (hu : ¬ u (mst u k) < u k) : BK n L ch u j (k + 1) f f'' := by
  have hp := hT.pos j hj k
  refine ⟨fun i hi => (g.low i (by omega)).trans (h.low i hi), by rw [mst_no hu, g.low j hp]; exact h.at', fun i h1 hn => ?_, fun i h1 hn e => ?_, ?_⟩
  · by_cases q : kd L j k ≤ i
    · exact g.two i q hn
    · rw [g.low i (by omega)]; exact h.two i h1 hn
  · have e' := h.up i h1 hn e
    by_cases q : kd L j k ≤ i
    · exact g.up i q hn e'
    · rw [g.low i (by omega)]; exact e'
  · obtain ⟨R, r1, r2, r3, r4⟩ := h.all
    obtain ⟨S, s1, s2, s3, s4⟩ := g.all
    refine ⟨fun i => R i ∨ S i, fun t ht => ?_, fun i hi => ?_, fun i v hi hn hv => ?_, fun i hi hn => ?_⟩
    · by_cases e : t = k
      · subst e; exact .inr s1
      · exact .inl (r1 t (by omega))
    · rcases hi with hi | hi
      · exact r2 i hi
      · have := s2 i hi; omega
    · exact hi.imp (fun hi => r3 i v hi hn hv) (fun hi => s3 i v hi hn hv)
    · rcases hi with hi | hi
      · by_cases q : kd L j k ≤ i
        · exact g.up i q hn (r4 i hi hn)
        · rw [g.low i (by omega)]; exact r4 i hi hn
      · exact s4 i hi hn
theorem BK.yes (hT : GT P n L (kd L)) (hj : j < n) (h : BK n L ch u j k f f') (g : BF n L ch (kd L j k) f' f'') (hk : 1 ≤ k) (hu : u (mst u k) < u k) : BK n L ch u j (k + 1) f (upd f'' j (k : Int)) := by
  have hp := hT.pos j hj k
  have ne : ∀ i, i ≠ j → upd f'' j (k : Int) i = f'' i := fun i hi => upd_ne hi
  refine ⟨fun i hi => by rw [ne i (by omega)]; exact (g.low i (by omega)).trans (h.low i hi), by rw [mst_yes hu, if_neg (by omega), upd_at], fun i h1 hn => ?_, fun i h1 hn e => ?_, ?_⟩
  · rw [ne i (by omega)]
    by_cases q : kd L j k ≤ i
    · exact g.two i q hn
    · rw [g.low i (by omega)]; exact h.two i h1 hn
  · rw [ne i (by omega)]
    have e' := h.up i h1 hn e
    by_cases q : kd L j k ≤ i
    · exact g.up i q hn e'
    · rw [g.low i (by omega)]; exact e'
  · obtain ⟨R, r1, r2, r3, r4⟩ := h.all
    obtain ⟨S, s1, s2, s3, s4⟩ := g.all
    refine ⟨fun i => R i ∨ S i, fun t ht => ?_, fun i hi => ?_, fun i v hi hn hv => ?_, fun i hi hn => ?_⟩
    · by_cases e : t = k
      · subst e; exact .inr s1
      · exact .inl (r1 t (by omega))
    · rcases hi with hi | hi
      · exact r2 i hi
      · have := s2 i hi; omega
    · exact hi.imp (fun hi => r3 i v hi hn hv) (fun hi => s3 i v hi hn hv)
    · have hij : i ≠ j := by
        rcases hi with hi | hi
        · have := r2 i hi; omega
        · have := s2 i hi; omega
      rw [ne i hij]
      rcases hi with hi | hi
      · by_cases q : kd L j k ≤ i
        · exact g.up i q hn (r4 i hi hn)
        · rw [g.low i (by omega)]; exact r4 i hi hn
      · exact s4 i hi hn
theorem BK.done (h : BK n L ch u j (ndAt L j).k.ln f f') (hc : ch j = (mst u (ndAt L j).k.ln : Int)) (h0 : f j = 0 ∨ f j = ch j) : BF n L ch j f f' := by
  have hj : f' j = ch j := by
    rw [h.at', hc]
    by_cases e : mst u (ndAt L j).k.ln = 0
    · rw [if_pos e, e]
      rcases h0 with h0 | h0
      · exact h0
      · rw [h0, hc, e]
    · rw [if_neg e]
  refine ⟨h.low, fun i h1 hn => ?_, fun i h1 hn e => ?_, ?_⟩
  · by_cases q : i = j
    · subst q; exact .inr hj
    · exact h.two i (by omega) hn
  · by_cases q : i = j
    · subst q; exact hj
    · exact h.up i (by omega) hn e
  · obtain ⟨R, r1, r2, r3, r4⟩ := h.all
    refine ⟨fun i => i = j ∨ R i, .inl rfl, fun i hi => ?_, fun i v hi hn hv => ?_, fun i hi hn => ?_⟩
    · rcases hi with hi | hi
      · omega
      · have := r2 i hi; omega
    · rcases hi with hi | hi
      · subst hi; exact .inr (r1 v hv)
      · exact .inr (r3 i v hi hn hv)
    · rcases hi with hi | hi
      · subst hi; exact hj
      · exact r4 i hi hn
theorem BF.leaf (h0 : (ndAt L j).k.ln = 0) (hc : ch j = 0) (h2 : ∀ i, j ≤ i → i < n → f i = 0 ∨ f i = ch i) (hj : j < n) : BF n L ch j f f := by
  refine ⟨fun _ _ => rfl, h2, fun _ _ _ e => e, fun i => i = j, rfl, fun i hi => by omega, fun i v hi hn hv => by subst hi; omega, fun i hi hn => ?_⟩
  subst hi
  rcases h2 i (Nat.le_refl _) hn with q | q
  · rw [q, hc]
  · exact q
end
end Go.Proofs.Ytbcchbhchfdbiaa
