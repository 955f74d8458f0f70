import Derived.Test.YtbcchbhchfdbiaaWG5
namespace Go.Proofs.Ytbcchbhchfdbiaa
open Go.RowKit Go.Shelf
attribute [local go_sem] Oper.semAt_some
theorem get_cell {P : Nat} {W : World} {a : Option Addr} {n c : Nat} {L : List Nd} {s : Nat → Nat → Nat} {CH : Nat → (Nat → List Int) → Nat → Prop} {ch : Nat → Int} {ge : Nat → Sl} (hN : Nodes W a n c L) (hT : GT P n L s) (hD : Done L n 0 CH s ch ge) {j who : Nat} (hj : j < n) (hw : who < P) :
    ∃ b off, (ge j).la = some ⟨b, off, none⟩ ∧ W.cell? ⟨b, off + who, none⟩ = some (.int .i64 (nth (ge j).ints who)) ∧ (ge j).ln = P ∧ P ≤ (ge j).lc ∧ (ge j).lc ≤ 9223372036854775807 := by
  obtain ⟨i, i1, i2, i3⟩ := done_own hT hD j hj
  have hI := (hN.mem i1).2
  unfold SlIn at hI
  have hl := (hT.ender i i1 i2).2
  rw [i3]
  obtain ⟨b, off, e1, -, e2⟩ := hI.nth (by omega)
  have h1 := hI.2.1
  have h2 := hI.2.2.1
  unfold maxLen at h2
  exact ⟨b, off, e1, e2 who (by omega), hl, by omega, by omega⟩
theorem info53 : (Try.prog.info? 53).map (fun i => (i.zero, i.size, i.bytes)) = some (some (.slice none 0 0), 1, 24) := by kernel_rfl
theorem mk64 {n : Nat} (hn : n ≤ 40) (X : World) : (Instr.makeSlice 64 (.int .i64 (n : Int)) (.int .i64 (n : Int))).run Try.prog X = .ok (.slice (some ⟨X.heap.size, 0, none⟩) n n) (X.alloc (.cells (madeCells (Value.slice none 0 0).cells n) 53)) := by
  obtain ⟨i3, hi3, hz0, hz1, hz2⟩ := info_parts info53
  have := run_makeSlice (P := Try.prog) (w := X) 64 53 i3 _ Try.underlying64 hi3 hz0 .i64 .i64 (n : Int) (n : Int) (by omega) (Int.le_refl _) (by rw [hz1]; simp; omega) (by rw [hz2]; omega) (by omega)
  rw [hz1, Int.toNat_natCast, Nat.mul_one] at this
  exact this
/-- The row of what each could get, k of them laid down. -/
def RowC (W : World) (gx P n k : Nat) (L : List Nd) (q : List Int) (gs : Nat → Nat) (gw : Nat → Nat → Sl) : Prop :=
  gx < W.heap.size ∧ (∀ j, j < P → W.cell? ⟨gx, j, none⟩ = some (if j < k then .slice (some ⟨gs j, 0, none⟩) n n else .slice none 0 0) ∧ W.frozen? ⟨gx, j, none⟩ = false) ∧
  ∀ j, j < k → gs j ≠ gx ∧ RowG W (gs j) n (gw j) ∧ ∃ cw, Done L n 0 (CHW L q j) (kd L) cw (gw j)
theorem RowC.later {W W' : World} {gx P n k : Nat} {L : List Nd} {q : List Int} {gs : Nat → Nat} {gw : Nat → Nat → Sl} (h : RowC W gx P n k L q gs gw) (hb : Below W.heap.size W W') : RowC W' gx P n k L q gs gw := by
  refine ⟨Nat.lt_of_lt_of_le h.1 hb.size, fun j hj => ?_, fun j hj => ?_⟩
  · have he := hb.block gx h.1
    exact ⟨(World.cell?_of_block (a := ⟨gx, j, none⟩) he).trans (h.2.1 j hj).1, (World.frozen?_of_block (a := ⟨gx, j, none⟩) he).trans (h.2.1 j hj).2⟩
  · obtain ⟨h1, h2, h3⟩ := h.2.2 j hj
    exact ⟨h1, h2.keep (hb.block _ h2.1) hb.size, h3⟩
theorem RowC.next {W : World} {gx P n k : Nat} {L : List Nd} {q : List Int} {gs : Nat → Nat} {gw : Nat → Nat → Sl} (h : RowC W gx P n k L q gs gw) (hk : k < P) {g : Nat} {f : Nat → Sl} {cw : Nat → Int} (hg : g ≠ gx) (hr : RowG W g n f) (hd : Done L n 0 (CHW L q k) (kd L) cw f) :
    RowC (W.setCell ⟨gx, k, none⟩ (.slice (some ⟨g, 0, none⟩) n n)) gx P n (k + 1) L q (fun j => if j = k then g else gs j) (fun j => if j = k then f else gw j) := by
  have hblk : ∀ p, p ≠ gx → (W.setCell ⟨gx, k, none⟩ (.slice (some ⟨g, 0, none⟩) n n)).heap[p]? = W.heap[p]? := fun p hp => Below.heap_setCell _ _ _ _ hp
  refine ⟨by simpa using h.1, fun j hj => ⟨?_, by rw [World.frozen?_setCell]; exact (h.2.1 j hj).2⟩, fun j hj => ?_⟩
  · by_cases e : j = k
    · subst e
      rw [if_pos (by omega)]
      dsimp only
      rw [if_pos rfl]
      exact World.cell?_setCell_same' _ _ _ (by rw [(h.2.1 j hj).1]; rfl)
    · rw [World.cell?_setCell_other _ _ _ _ (by intro hh; cases hh; exact e rfl), (h.2.1 j hj).1]
      by_cases e2 : j < k
      · rw [if_pos e2, if_pos (by omega)]
        dsimp only
        rw [if_neg e]
      · rw [if_neg e2, if_neg (by omega)]
  · dsimp only
    by_cases e : j = k
    · subst e
      rw [if_pos rfl, if_pos rfl]
      exact ⟨hg, hr.keep (hblk g hg) (by simp), cw, hd⟩
    · rw [if_neg e, if_neg e]
      obtain ⟨h1, h2, h3⟩ := h.2.2 j (by omega)
      exact ⟨h1, h2.keep (hblk _ h1) (by simp), h3⟩
/-- One gets more, from a node on. -/
def Bad2 (ge : Nat → Sl) (gw : Nat → Nat → Sl) (j who : Nat) : Prop := nth (ge j).ints who < nth (gw who j).ints who
/-- What Perfect answers. -/
def PerfP (w : World) (P : Int) (n : Nat) (L : List Nd) (q : List Int) (e : Ending) (w' : World) : Prop :=
  Below w.heap.size w w' ∧ (mcE P n L q ≠ 0 → e = .returned (.tuple #[.bool false, .int .i64 0, .int .i64 (mcE P n L q)])) ∧
  (mcE P n L q = 0 → ∃ ch ge gw, Done L n 0 (CHC q) (kd L) ch ge ∧ (∀ who : Nat, (who : Int) < P → ∃ cw, Done L n 0 (CHW L q who) (kd L) cw (gw who)) ∧
    ((∃ j who : Nat, j < n ∧ (who : Int) < P ∧ Bad2 ge gw j who ∧ (∀ i x : Nat, i < j → (x : Int) < P → ¬ Bad2 ge gw i x) ∧ e = .returned (.tuple #[.bool false, .int .i64 (j : Int), .int .i64 0])) ∨
     ((∀ i x : Nat, i < n → (x : Int) < P → ¬ Bad2 ge gw i x) ∧ e = .returned (.tuple #[.bool true, .int .i64 0, .int .i64 0]))))
set_option maxRecDepth 100000 in
set_option maxHeartbeats 4000000 in
theorem perfect_any (P : Int) (a : Option Addr) (n c : Nat) (L : List Nd) (qa : Option Addr) (qn qc : Nat) (q : List Int) (w : World) (h : Nodes w a n c L) (hq : Ints w qa qn qc q) :
    Calls Try.prog 15 #[tV P a n c, .slice qa qn qc] w (PerfP w P n L q) := by
  obtain ⟨W, hW, hbW, hlt0, hbox⟩ := tbox (w := w) P a n c
  have HW := hide hW
  have HBW := hide hbW
  have HBX0 := hide hbox
  have w0 := (hbox W (Below.refl _ _)).1
  have w1 := (hbox W (Below.refl _ _)).2
  have hN := h.later hbW
  have hQ := hq.later hbW
  have CM := hide (mayChoose_any P a n c L qa qn qc q W hN hQ)
  have hc1 := h.2.1
  have hc2 := h.2.2.1
  unfold maxLen at hc2
  by_cases hm : mcE P n L q = 0
  · obtain ⟨hm1, hm2, hm3⟩ := mcE_ok hm
    obtain ⟨p, rfl, hT⟩ := gt_of h hm1
    have HM := hide hm
    rw [hm] at CM
    obtain rfl : qn = n := hq.1.trans hm2
    have n40 := hT.n40
    have n1 := hT.n1
    have p5 := hT.P5
    have hmk := fun X => mk64 (n := p) (by omega) X
    have HT := hide hT
    have HN := hide hN
    have HQ := hide hQ
    have HC := hide hm3
    have HBYC : Hid (∀ wr, Below W.heap.size W wr → Calls Try.prog 35 #[tV p a qn c, .slice qa qn qc] wr (GetP wr qn L (CHC q))) := fun wr hb => byChoices_any p a qn c L qa qc q wr (hN.later hb) hT (hQ.later hb) hm3
    have HBET : Hid (∀ (k : Nat), k < p → ∀ wr, Below W.heap.size W wr → Calls Try.prog 36 #[tV p a qn c, .slice qa qn qc, .int .i64 (k : Int)] wr (GetP wr qn L (CHW L q k))) := fun k hk wr hb => bettered_any p a qn c L qa qc q k wr (hN.later hb) hT (hQ.later hb) hm3 hk
    unfold tV at CM HBYC HBET ⊢
    clear h hW hbW hbox hN hT hm hQ hq hm1 hm2 hm3
    go_enter Try.func15, Try.ntmps15
    go_wp2_with fail
    rw [unhide HW]
    go_wp2_with fail
    refine (unhide CM).mono ?_
    rintro e w2 ⟨rfl, hb2⟩
    have HB2 := hide hb2
    obtain ⟨v0, v1⟩ := unhide HBX0 w2 hb2
    have HS := hide (unhide HBYC w2 hb2)
    clear hb2 w0 w1
    go_wp2_with fail
    refine (unhide HS).mono ?_
    rintro e w3 ⟨gg, ch, ge, rfl, g1, rG, hD, hb3⟩
    have hb23 : Below W.heap.size W w3 := (unhide HB2).trans (hb3.mono (unhide HB2).size)
    have HB3 := hide hb23
    have HG := hide rG
    have HD := hide hD
    obtain ⟨u0, u1⟩ := unhide HBX0 w3 hb23
    clear hb3 g1 rG hD v0 v1 hb23 HS
    have hbA : Below w3.heap.size w3 (w3.alloc (.cells (madeCells #[.slice none 0 0] p) 53)) := by go_grown
    have HGX : Hid (RowC (w3.alloc (.cells (madeCells #[.slice none 0 0] p) 53)) w3.heap.size p qn 0 L q (fun _ => 0) (fun _ _ => slNone)) := by
      have hnew := World.alloc_heap_new w3 (.cells (madeCells #[.slice none 0 0] p) 53)
      refine ⟨blk_lt hnew, fun j hj => ?_, fun j hj => by omega⟩
      have := cell_in' hnew j
      exact ⟨by rw [if_neg (by omega), this.1]; exact made_cell _ p j hj, this.2⟩
    have HBA := hide hbA
    obtain ⟨z0, z1⟩ := unhide HBX0 _ ((unhide HB3).trans (hbA.mono (unhide HB3).size))
    clear hbA
    go_wp2_with fail
    go_loopw [27, 10] (fun i _ wr => Hid (Below w3.heap.size w3 wr) ∧ ∃ k : Nat, k ≤ p ∧ i = .int .i64 k ∧ Hid (∃ gs gw, RowC wr w3.heap.size p qn k L q gs gw)) (fun i _ _ => p - (intOf i).toNat)
    case atStart => exact ⟨HBA, 0, Nat.zero_le _, rfl, ⟨_, _, unhide HGX⟩⟩
    case round =>
      clear HBA HGX z0 z1 u0 u1
      obtain ⟨HBr, k, hk, rfl, HXr⟩ := hrel
      have hbr := (unhide HB3).trans ((unhide HBr).mono (unhide HB3).size)
      obtain ⟨z0, z1⟩ := unhide HBX0 wr hbr
      by_cases hlt : k < p
      · have HS := hide (unhide HBET k hlt wr hbr)
        clear hbr
        go_wp2_with fail
        refine (unhide HS).mono ?_
        rintro e w5 ⟨g, cw, f, rfl, g1, rG5, hD5, hb5⟩
        obtain ⟨gs, gw, hX⟩ := unhide HXr
        have hX5 := hX.later hb5
        obtain ⟨y1, y2⟩ := hX5.2.1 k hlt
        rw [if_neg (by omega)] at y1
        have y3 := hX5.1
        have HF : Hid (Below w3.heap.size w3 (w5.setCell ⟨w3.heap.size, k, none⟩ (.slice (some ⟨g, 0, none⟩) qn qn)) ∧ ∃ gs gw, RowC (w5.setCell ⟨w3.heap.size, k, none⟩ (.slice (some ⟨g, 0, none⟩) qn qn)) w3.heap.size p qn (k + 1) L q gs gw) := by
          refine ⟨((unhide HBr).trans (hb5.mono (unhide HBr).size)).setCell (p := ⟨w3.heap.size, k, none⟩) (Nat.le_refl _) _, _, _, hX5.next hlt (by have := hX.1; omega) rG5 hD5⟩
        clear hX hX5 hb5 rG5 hD5 HS HXr
        go_wp2
        go_roundw
        case rel => exact ⟨(unhide HF).1, k + 1, by omega, by go_num, (unhide HF).2⟩
        case measure => simp [intOf]; omega
      · obtain rfl : p = k := by omega
        obtain ⟨gs, gw, hX⟩ := unhide HXr
        have HX := hide hX
        have HGr := hide ((unhide HG).keep ((unhide HBr).block gg (unhide HG).1) (unhide HBr).size)
        have HNr := hide ((unhide HN).later hbr)
        clear hX HXr hbr HG
        have HDW : Hid (∀ who : Nat, (who : Int) < (p : Int) → ∃ cw, Done L qn 0 (CHW L q who) (kd L) cw (gw who)) := fun who hw => ((unhide HX).2.2 who (by omega)).2.2
        have HBR := hide ((unhide HBW).trans (((unhide HB3).trans ((unhide HBr).mono (unhide HB3).size)).mono (unhide HBW).size))
        go_wp2_with fail
        rename World => wq
        go_loopw [41, 11, 46, 12] (fun i _ _ _ wr => Hid (Below wq.heap.size wq wr) ∧ ∃ j : Nat, j ≤ qn ∧ i = .int .i64 j ∧ Hid (∀ i x : Nat, i < j → x < p → ¬ Bad2 ge gw i x)) (fun i _ _ _ _ => qn - (intOf i).toNat)
        case atStart => exact ⟨Below.refl _ _, 0, Nat.zero_le _, rfl, fun i x h => by omega⟩
        case round =>
          obtain ⟨HBq, j, hj, rfl, HI⟩ := hrel
          obtain ⟨y0, y1⟩ := unhide HBX0 wr ((((unhide HB3).trans ((unhide HBr).mono (unhide HB3).size))).trans ((unhide HBq).mono (((unhide HB3).trans ((unhide HBr).mono (unhide HB3).size))).size))
          by_cases hjl : j < qn
          · clear z0 z1
            go_wp2_with fail
            rename World => wu
            go_loopw [46, 12] (fun i _ wr => Hid (Below wq.heap.size wq wr) ∧ ∃ x : Nat, x ≤ p ∧ i = .int .i64 x ∧ Hid (∀ y : Nat, y < x → ¬ Bad2 ge gw j y)) (fun i _ _ => p - (intOf i).toNat)
            case atStart => exact ⟨HBq, 0, Nat.zero_le _, rfl, fun y h => by omega⟩
            case round =>
              obtain ⟨HBs, x, hx, rfl, HJ⟩ := hrel
              by_cases hxl : x < p
              · have hXs := (unhide HX).later (unhide HBs)
                have hNs := (unhide HNr).later (unhide HBs)
                have hGs := (unhide HGr).keep ((unhide HBs).block gg (unhide HGr).1) (unhide HBs).size
                obtain ⟨x1, -⟩ := hXs.2.1 x hxl
                rw [if_pos hxl] at x1
                obtain ⟨-, hRx, cw, hDx⟩ := hXs.2.2 x hxl
                obtain ⟨x2, -⟩ := hRx.2 j hjl
                obtain ⟨b1, o1, e1, x3, e2, e3, e4⟩ := get_cell hNs (unhide HT) hDx hjl hxl
                rw [e1, e2] at x2
                obtain ⟨x4, -⟩ := hGs.2 j hjl
                obtain ⟨b2, o2, e5, x5, e6, e7, e8⟩ := get_cell hNs (unhide HT) (unhide HD) hjl hxl
                rw [e5, e6] at x4
                have HBE : Hid (∀ wz, Below wr.heap.size wr wz → Below wq.heap.size wq wz) := fun wz hz => (unhide HBs).trans (hz.mono (unhide HBs).size)
                clear hXs hNs hGs hRx hDx e1 e2 e5 e6 HBq
                generalize hA : (gw x j).lc = lc1 at *
                generalize hB : (ge j).lc = lc2 at *
                by_cases hbad : Bad2 ge gw j x
                · have HBad := hide hbad
                  have hd : decide (nth (ge j).ints x < nth (gw x j).ints x) = true := by unfold Bad2 at hbad; simpa using hbad
                  clear hbad hA hB
                  generalize nth (ge j).ints x = n1' at *
                  generalize nth (gw x j).ints x = n2' at *
                  go_wp2_with fail
                  go_quiet (fail)
                  go_wp2_with fail
                  go_ret3
                  refine ⟨(unhide HBR).trans ((unhide HBE _ (below_drewN _ wr nq)).mono (unhide HBR).size), fun z => absurd (unhide HM) z, fun _ => ⟨ch, ge, gw, unhide HD, unhide HDW, .inl ⟨j, x, hjl, by omega, unhide HBad, fun i y hi hy => unhide HI i y hi (by omega), rfl⟩⟩⟩
                · have HBad := hide hbad
                  have hd : decide (nth (ge j).ints x < nth (gw x j).ints x) = false := by unfold Bad2 at hbad; simpa using hbad
                  clear hbad hA hB
                  generalize nth (ge j).ints x = n1' at *
                  generalize nth (gw x j).ints x = n2' at *
                  go_wp2_with fail
                  go_quiet (fail)
                  go_wp2_with fail
                  refine ⟨⟨unhide HBE _ (below_drewN _ wr nq), x + 1, by omega, by go_num, fun y hy => ?_⟩, by simp [intOf]; omega⟩
                  by_cases e : y = x
                  · subst e; exact unhide HBad
                  · exact unhide HJ y (by omega)
              · obtain rfl : p = x := by omega
                go_wp2_with fail
                refine ⟨⟨HBs, j + 1, by omega, by go_num, fun i y hi hy => ?_⟩, by simp [intOf]; omega⟩
                by_cases e : i = j
                · subst e; exact unhide HJ y hy
                · exact unhide HI i y (by omega) hy
          · obtain rfl : qn = j := by omega
            go_wp2_with fail
            go_ret3
            exact ⟨(unhide HBR).trans ((unhide HBq).mono (unhide HBR).size), fun z => absurd (unhide HM) z, fun _ => ⟨ch, ge, gw, unhide HD, unhide HDW, .inr ⟨fun i y hi hy => unhide HI i y hi (by omega), rfl⟩⟩⟩
  · have HM := hide hm
    have hmd : (mcE P n L q == 0) = false := by simpa using hm
    unfold tV at CM ⊢
    clear h hW hbW hbox hN hm hQ hq
    generalize hT : mcE P n L q = T at *
    have HT := hide hT
    clear hT
    go_enter Try.func15, Try.ntmps15
    go_wp2_with fail
    rw [unhide HW]
    go_wp2_with fail
    refine (unhide CM).mono ?_
    rintro e w2 ⟨rfl, hb2⟩
    have HB2 := hide hb2
    clear hb2 w0 w1
    go_wp2
    go_ret3
    exact ⟨(unhide HBW).trans ((unhide HB2).mono (unhide HBW).size), fun _ => by rw [unhide HT]; rfl, fun z => absurd ((unhide HT).symm.trans z) (unhide HM)⟩
end Go.Proofs.Ytbcchbhchfdbiaa
