import Derived.Test.YtbcchbhchfdbiaaWG4
namespace Go.Proofs.Ytbcchbhchfdbiaa
open Go.RowKit Go.Shelf
theorem tbox2 {w : World} (P : Int) (a : Option Addr) (n c : Nat) (qa : Option Addr) (qn qc : Nat) : ∃ W, (w.alloc (.cells #[.int .i64 P, .slice a n c] 24)).alloc (.cells #[.slice qa qn qc] 25) = W ∧ Below w.heap.size w W ∧ w.heap.size + 1 < W.heap.size ∧ (∀ wr, Below W.heap.size W wr → wr.cell? ⟨w.heap.size, 0, none⟩ = some (.int .i64 P) ∧ wr.cell? ⟨w.heap.size, 1, none⟩ = some (.slice a n c) ∧ wr.cell? ⟨w.heap.size + 1, 0, none⟩ = some (.slice qa qn qc)) := by
  refine ⟨_, rfl, by go_grown, by simp, fun wr hb => ⟨(hb.cell (p := ⟨w.heap.size, 0, none⟩) (by simp; omega)).trans ?_, (hb.cell (p := ⟨w.heap.size, 1, none⟩) (by simp; omega)).trans ?_, (hb.cell (p := ⟨w.heap.size + 1, 0, none⟩) (by simp)).trans ?_⟩⟩
  · exact ((by go_grown : Below (w.alloc (.cells #[.int .i64 P, .slice a n c] 24)).heap.size (w.alloc (.cells #[.int .i64 P, .slice a n c] 24)) ((w.alloc (.cells #[.int .i64 P, .slice a n c] 24)).alloc (.cells #[.slice qa qn qc] 25))).cell (p := ⟨w.heap.size, 0, none⟩) (by simp)).trans (by simp [World.cell?_alloc_at])
  · exact ((by go_grown : Below (w.alloc (.cells #[.int .i64 P, .slice a n c] 24)).heap.size (w.alloc (.cells #[.int .i64 P, .slice a n c] 24)) ((w.alloc (.cells #[.int .i64 P, .slice a n c] 24)).alloc (.cells #[.slice qa qn qc] 25))).cell (p := ⟨w.heap.size, 1, none⟩) (by simp)).trans (by simp [World.cell?_alloc_at])
  · have : (w.alloc (.cells #[.int .i64 P, .slice a n c] 24)).heap.size = w.heap.size + 1 := by simp
    rw [← this]; simp [World.cell?_alloc_at]
theorem tbox3 {w : World} (P : Int) (a : Option Addr) (n c : Nat) (qa : Option Addr) (qn qc : Nat) (x : Int) : ∃ W, ((w.alloc (.cells #[.int .i64 P, .slice a n c] 24)).alloc (.cells #[.slice qa qn qc] 25)).alloc (.cells #[.int .i64 x] 3) = W ∧ Below w.heap.size w W ∧ w.heap.size + 2 < W.heap.size ∧ (∀ wr, Below W.heap.size W wr → wr.cell? ⟨w.heap.size, 0, none⟩ = some (.int .i64 P) ∧ wr.cell? ⟨w.heap.size, 1, none⟩ = some (.slice a n c) ∧ wr.cell? ⟨w.heap.size + 1, 0, none⟩ = some (.slice qa qn qc) ∧ wr.cell? ⟨w.heap.size + 2, 0, none⟩ = some (.int .i64 x)) := by
  obtain ⟨W, hW, hb0, hs, hc⟩ := tbox2 (w := w) P a n c qa qn qc
  rw [hW]
  have e : W.heap.size = w.heap.size + 2 := by rw [← hW]; simp
  refine ⟨_, rfl, hb0.trans ((by go_grown : Below W.heap.size W _).mono hb0.size), by simp; omega, fun wr hb => ?_⟩
  have hw : Below W.heap.size W (W.alloc (.cells #[.int .i64 x] 3)) := by go_grown
  obtain ⟨c0, c1, c2⟩ := hc wr (hw.trans (hb.mono hw.size))
  refine ⟨c0, c1, c2, ?_⟩
  refine (hb.cell (p := ⟨w.heap.size + 2, 0, none⟩) (by simp; omega)).trans ?_
  rw [← e]; simp [World.cell?_alloc_at]
/-- Choices as they may be. -/
def ChOk (L : List Nd) (n : Nat) (q : List Int) : Prop := ∀ j, j < n → 0 ≤ nth q j ∧ (nth q j = 0 ∨ nth q j < (ndAt L j).k.ln)
theorem ChOk.lt {L : List Nd} {n : Nat} {q : List Int} (h : ChOk L n q) {j : Nat} (hj : j < n) (hk : 0 < (ndAt L j).k.ln) : 0 ≤ nth q j ∧ nth q j < (ndAt L j).k.ln := by
  have := h j hj; omega
/-- What all get from each node on. -/
def GetP (w : World) (n : Nat) (L : List Nd) (CH : Nat → (Nat → List Int) → Nat → Prop) (e : Ending) (w' : World) : Prop :=
  ∃ gg ch ge, e = .returned (.slice (some ⟨gg, 0, none⟩) n n) ∧ w.heap.size ≤ gg ∧ RowG w' gg n ge ∧ Done L n 0 CH (kd L) ch ge ∧ Below w.heap.size w w'
set_option maxRecDepth 100000 in
set_option maxHeartbeats 4000000 in
theorem byChoices_any (P : Nat) (a : Option Addr) (n c : Nat) (L : List Nd) (qa : Option Addr) (qc : Nat) (q : List Int) (w : World) (h : Nodes w a n c L) (hT : GT P n L (kd L)) (hq : Ints w qa n qc q) (hc : ChOk L n q) :
    Calls Try.prog 35 #[tV P a n c, .slice qa n qc] w (GetP w n L (CHC q)) := by
  obtain ⟨W, hW, hbW, hlt0, hbox⟩ := tbox2 (w := w) P a n c qa n qc
  have HW := hide hW
  have HBW := hide hbW
  have w0 := (hbox W (Below.refl _ _)).1
  have w1 := (hbox W (Below.refl _ _)).2.1
  have hN := h.later hbW
  have hQ := hq.later hbW
  have HS := hide (settle_any P a n c L (kd L) 49 #[.pointer (some ⟨w.heap.size + 1, 0, none⟩)] (CHC q) W hN hT (enters_of Try.func49 (by kernel_rfl) rfl) (fun j u u' v _ hv => hv) (fun j hj hk KL hKl hKn => by
    have hl := hc.lt hj hk
    refine ⟨(nth q j).toNat, by omega, by unfold CHC; omega, fun W2 ka kc hb2 hK => ?_⟩
    refine (by49 (w.heap.size + 1) qa n qc q j (.slice ka (ndAt L j).k.ln kc) W2 (hbox W2 hb2).2.2 (hQ.later hb2) hj).mono ?_
    rintro e w' ⟨rfl, rfl⟩
    exact ⟨ret_int (by omega), Below.refl _ _⟩))
  unfold tV at HS ⊢
  clear h hW hbW hbox hN hT hQ hq hc
  go_enter Try.func35, Try.ntmps35
  go_wp2_with fail
  rw [unhide HW]
  go_wp2_with fail
  refine (unhide HS).mono ?_
  rintro e w3 ⟨gc, gg, ch, ge, rfl, g1, g2, rI, rG, hD, hP, hb3⟩
  have HF : Hid (GetP w n L (CHC q) (.returned (.slice (some ⟨gg, 0, none⟩) n n)) w3) := by
    have hb1 := unhide HBW
    exact ⟨gg, ch, ge, rfl, by have := hb1.size; omega, rG, hD, hb1.trans (hb3.mono hb1.size)⟩
  clear rI rG hD hP hb3
  go_wp2
  go_ret
  exact unhide HF
/-- bettered$1. -/
theorem bet50 (bx bw bq : Nat) (a : Option Addr) (n c : Nat) (L : List Nd) (qa : Option Addr) (qc : Nat) (q : List Int) (who : Nat) (j : Nat) (ka : Option Addr) (kn kc : Nat) (KL : List Sl) (W : World) (h0 : W.cell? ⟨bx, 1, none⟩ = some (.slice a n c)) (h1 : W.cell? ⟨bw, 0, none⟩ = some (.int .i64 (who : Int))) (h2 : W.cell? ⟨bq, 0, none⟩ = some (.slice qa n qc))
    (hN : Nodes W a n c L) (hQ : Ints W qa n qc q) (hj : j < n) (hK : Lsts W ka kn kc KL) (k1 : 1 ≤ kn) (hl : ∀ i, i < kn → who < (slAt KL i).ln) :
    Calls Try.prog 50 #[.int .i64 (j : Int), .slice ka kn kc, .pointer (some ⟨bx, 0, none⟩), .pointer (some ⟨bw, 0, none⟩), .pointer (some ⟨bq, 0, none⟩)] W fun e w' => e = .returned (.int .i64 (if (ndAt L j).pl = who then (mst (fun i => nth (slAt KL i).ints who) kn : Nat) else nth q j)) ∧ Below W.heap.size W w' := by
  have CM := hide (fun d => most_any ka kn kc KL who (W.drewN d) (hK.later (below_drewN _ W d)) k1 hl)
  obtain ⟨b, off, rfl, hb, hcell⟩ := hN.cellAt (by omega)
  have hc := (hcell W (Below.refl _ _) j hj).1
  have g1 := hN.2.1
  have g2 := hN.2.2.1
  unfold maxLen at g2
  obtain ⟨b2, off2, rfl, hb2, hcell2⟩ := hQ.nth (by omega)
  have hc2 := hcell2 j hj
  have g3 := hQ.2.1
  have g4 := hQ.2.2.1
  unfold maxLen at g4
  have hbd : Below W.heap.size W W.drew := (Below.refl _ _).drew
  have HBD := hide hbd
  by_cases e : (ndAt L j).pl = who
  · rw [if_pos e]
    rw [e] at hc
    have hbe : ((who : Int) == (who : Int)) = true := by simp
    clear hN hcell hK hl e hQ hcell2 hbd
    go_enter Try.func50, Try.ntmps50
    go_wp2_with fail
    go_quiet (fail)
    go_wp2_with fail
    refine (unhide CM nq).mono ?_
    rintro e w' ⟨rfl, hb'⟩
    have HF : Hid (Below W.heap.size W w') := (below_drewN _ W nq).trans hb'
    clear hb'
    go_wp2
    go_ret
    exact ⟨rfl, unhide HF⟩
  · rw [if_neg e]
    have hbe : ((ndAt L j).pl == (who : Int)) = false := by simpa using e
    clear hN hcell hK hl e hQ hcell2 hbd
    go_enter Try.func50, Try.ntmps50
    go_wp2_with fail
    go_quiet (fail)
    go_wp2_with fail
    go_ret
    exact ⟨rfl, below_drewN _ W nq⟩
set_option maxRecDepth 100000 in
set_option maxHeartbeats 4000000 in
theorem bettered_any (P : Nat) (a : Option Addr) (n c : Nat) (L : List Nd) (qa : Option Addr) (qc : Nat) (q : List Int) (who : Nat) (w : World) (h : Nodes w a n c L) (hT : GT P n L (kd L)) (hq : Ints w qa n qc q) (hc : ChOk L n q) (hw : who < P) :
    Calls Try.prog 36 #[tV P a n c, .slice qa n qc, .int .i64 (who : Int)] w (GetP w n L (CHW L q who)) := by
  obtain ⟨W, hW, hbW, hlt0, hbox⟩ := tbox3 (w := w) P a n c qa n qc who
  have HW := hide hW
  have HBW := hide hbW
  have w0 := (hbox W (Below.refl _ _)).1
  have w1 := (hbox W (Below.refl _ _)).2.1
  have hN := h.later hbW
  have hQ := hq.later hbW
  have HS := hide (settle_any P a n c L (kd L) 50 #[.pointer (some ⟨w.heap.size, 0, none⟩), .pointer (some ⟨w.heap.size + 2, 0, none⟩), .pointer (some ⟨w.heap.size + 1, 0, none⟩)] (CHW L q who) W hN hT (enters_of Try.func50 (by kernel_rfl) rfl) (fun j u u' v hu hv => ⟨fun e => by
      rw [hv.1 e]; exact mst_congr _ (fun i hi => by rw [hu i hi]), hv.2⟩) (fun j hj hk KL hKl hKn => by
    have hl := hc.lt hj hk
    have hm := mst_lt (u := fun i => nth (slAt KL i).ints who) (ndAt L j).k.ln hk
    have hcall : ∀ W2 ka kc, Below W.heap.size W W2 → Lsts W2 ka (ndAt L j).k.ln kc KL → _ := fun W2 ka kc hb2 hK => bet50 w.heap.size (w.heap.size + 2) (w.heap.size + 1) a n c L qa qc q who j ka (ndAt L j).k.ln kc KL W2 (hbox W2 hb2).2.1 (hbox W2 hb2).2.2.2 (hbox W2 hb2).2.2.1 (hN.later hb2) (hQ.later hb2) hj hK hk (fun i hi => by rw [hKn i hi]; exact hw)
    by_cases e : (ndAt L j).pl = who
    · refine ⟨mst (fun i => nth (slAt KL i).ints who) (ndAt L j).k.ln, hm, ⟨fun _ => rfl, fun q => absurd e q⟩, fun W2 ka kc hb2 hK => ?_⟩
      refine (hcall W2 ka kc hb2 hK).mono ?_
      rintro e' w' ⟨rfl, hb'⟩
      exact ⟨ret_int (by rw [if_pos e]), hb'⟩
    · refine ⟨(nth q j).toNat, by omega, ⟨fun q => absurd q e, fun _ => by omega⟩, fun W2 ka kc hb2 hK => ?_⟩
      refine (hcall W2 ka kc hb2 hK).mono ?_
      rintro e' w' ⟨rfl, hb'⟩
      exact ⟨ret_int (by rw [if_neg e]; omega), hb'⟩))
  unfold tV at HS ⊢
  clear h hW hbW hbox hN hT hQ hq hc
  go_enter Try.func36, Try.ntmps36
  go_wp2_with fail
  rw [unhide HW]
  go_wp2_with fail
  refine (unhide HS).mono ?_
  rintro e w3 ⟨gc, gg, ch, ge, rfl, g1, g2, rI, rG, hD, hP, hb3⟩
  have HF : Hid (GetP w n L (CHW L q who) (.returned (.slice (some ⟨gg, 0, none⟩) n n)) w3) := by
    have hb1 := unhide HBW
    exact ⟨gg, ch, ge, rfl, by have := hb1.size; omega, rG, hD, hb1.trans (hb3.mono hb1.size)⟩
  clear rI rG hD hP hb3
  go_wp2
  go_ret
  exact unhide HF
end Go.Proofs.Ytbcchbhchfdbiaa
namespace Go.Proofs.Ytbcchbhchfdbiaa
open Go.RowKit Go.Shelf
def BadC (L : List Nd) (q : List Int) (j : Nat) : Prop := nth q j < 0 ∨ max 1 ((ndAt L j).k.ln : Int) ≤ nth q j
open Classical in
noncomputable def mcE (P : Int) (n : Nat) (L : List Nd) (q : List Int) : Int := if tmE P n L ≠ 0 then tmE P n L else if q.length ≠ n then 7 else if ∃ j, j < n ∧ BadC L q j then 9 else 0
theorem mcE_t {P : Int} {n : Nat} {L : List Nd} {q : List Int} (h : tmE P n L ≠ 0) : mcE P n L q = tmE P n L := by unfold mcE; rw [if_pos h]
theorem mcE_7 {P : Int} {n : Nat} {L : List Nd} {q : List Int} (h : tmE P n L = 0) (h2 : q.length ≠ n) : mcE P n L q = 7 := by unfold mcE; rw [if_neg (fun e => e h), if_pos h2]
theorem mcE_9 {P : Int} {n : Nat} {L : List Nd} {q : List Int} (h : tmE P n L = 0) (h2 : q.length = n) {j : Nat} (hj : j < n) (hb : BadC L q j) : mcE P n L q = 9 := by unfold mcE; rw [if_neg (fun e => e h), if_neg (fun e => e h2), if_pos ⟨j, hj, hb⟩]
theorem mcE_0 {P : Int} {n : Nat} {L : List Nd} {q : List Int} (h : tmE P n L = 0) (h2 : q.length = n) (h3 : ∀ j, j < n → ¬ BadC L q j) : mcE P n L q = 0 := by
  unfold mcE; rw [if_neg (fun e => e h), if_neg (fun e => e h2), if_neg]
  rintro ⟨j, hj, hb⟩
  exact h3 j hj hb
theorem mcE_ok {P : Int} {n : Nat} {L : List Nd} {q : List Int} (h : mcE P n L q = 0) : tmE P n L = 0 ∧ q.length = n ∧ ChOk L n q := by
  by_cases h1 : tmE P n L = 0
  · by_cases h2 : q.length = n
    · refine ⟨h1, h2, fun j hj => ?_⟩
      have : ¬ BadC L q j := fun hb => by rw [mcE_9 h1 h2 hj hb] at h; omega
      unfold BadC at this
      omega
    · rw [mcE_7 h1 h2] at h; omega
  · rw [mcE_t h1] at h; exact absurd h h1
set_option maxRecDepth 100000 in
set_option maxHeartbeats 4000000 in
theorem mayChoose_any (P : Int) (a : Option Addr) (n c : Nat) (L : List Nd) (qa : Option Addr) (qn qc : Nat) (q : List Int) (w : World) (h : Nodes w a n c L) (hq : Ints w qa qn qc q) :
    Calls Try.prog 31 #[tV P a n c, .slice qa qn qc] w fun e w' => e = .returned (.int .i64 (mcE P n L q)) ∧ Below w.heap.size w w' := by
  obtain ⟨W, hW, hbW, hlt0, hbox⟩ := tbox (w := w) P a n c
  have HW := hide hW
  have HBW := hide hbW
  have HBX0 := hide hbox
  have w0 := (hbox W (Below.refl _ _)).1
  have w1 := (hbox W (Below.refl _ _)).2
  have hN := h.later hbW
  have hQ := hq.later hbW
  have CM := hide (may_any P a n c L W hN)
  have HQL := hide hq.1
  have gq1 := hq.2.1
  have gq2 := hq.2.2.1
  unfold maxLen at gq2
  by_cases hm : tmE P n L = 0
  · obtain ⟨p, rfl, hT⟩ := gt_of h hm
    have HM := hide hm
    rw [hm] at CM
    have n40 := hT.n40
    have n1 := hT.n1
    by_cases hqn : qn = n
    · subst hqn
      have hne : ((qn : Int) == (qn : Int)) = true := by simp
      have HN := hide hN
      have HQ := hide hQ
      unfold tV at CM ⊢
      clear h hW hbW hbox hN hT hm hQ hq
      go_enter Try.func31, Try.ntmps31
      go_wp2_with fail
      rw [unhide HW]
      go_wp2_with fail
      refine (unhide CM).mono ?_
      rintro e w2 ⟨rfl, hb2⟩
      have HB2 := hide hb2
      obtain ⟨v0, v1⟩ := unhide HBX0 w2 hb2
      obtain ⟨b, off, ea, hb, hcell⟩ := ((unhide HN).later hb2).cellAt (by omega)
      obtain ⟨b3, off3, ea3, hb3, hcell3⟩ := ((unhide HQ).later hb2).nth (by omega)
      subst ea ea3
      have HC := hide (hcell w2 (Below.refl _ _))
      have HC3 := hide hcell3
      clear hb2 w0 w1 hcell hcell3
      go_wp2_with fail
      go_loop [21, 6, 7] (fun i _ _ => ∃ k : Nat, k ≤ qn ∧ i = .int .i64 k ∧ Hid (∀ j, j < k → ¬ BadC L q j)) (fun i _ _ => qn - (intOf i).toNat)
      case atStart => exact ⟨0, Nat.zero_le _, rfl, fun j hj => by omega⟩
      case round =>
        obtain ⟨k, hk, rfl, HI⟩ := hrel
        by_cases hlt : k < qn
        · obtain ⟨-, z1, -⟩ := unhide HC k hlt
          have z2 := unhide HC3 k hlt
          by_cases hbad : BadC L q k
          · have HE := hide (mcE_9 (unhide HM) (unhide HQL).symm hlt hbad)
            by_cases e1 : nth q k < 0
            · clear hbad
              go_wp2
              go_ret
              exact ⟨ret_int (by rw [unhide HE]), (unhide HBW).trans ((unhide HB2).mono (unhide HBW).size)⟩
            · have e2 : max 1 ((ndAt L k).k.ln : Int) ≤ nth q k := by unfold BadC at hbad; omega
              clear hbad
              go_wp2
              go_ret
              exact ⟨ret_int (by rw [unhide HE]), (unhide HBW).trans ((unhide HB2).mono (unhide HBW).size)⟩
          · have HE := hide hbad
            have e1 : ¬ nth q k < 0 := by unfold BadC at hbad; omega
            have e2 : ¬ max 1 ((ndAt L k).k.ln : Int) ≤ nth q k := by unfold BadC at hbad; omega
            clear hbad
            go_wp2
            refine ⟨⟨k+1, by omega, by go_num, fun j hj => ?_⟩, by simp [intOf]; omega⟩
            by_cases e : j = k
            · subst e; exact unhide HE
            · exact unhide HI j (by omega)
        · go_wp2
          go_ret
          exact ⟨ret_int (by rw [mcE_0 (unhide HM) (unhide HQL).symm (fun j hj => unhide HI j (by omega))]), (unhide HBW).trans ((unhide HB2).mono (unhide HBW).size)⟩
    · have hne : ((qn : Int) == (n : Int)) = false := by simp; omega
      have HE := hide (mcE_7 (q := q) hm (by have := unhide HQL; omega))
      have hc1 := h.2.1
      have hc2 := h.2.2.1
      unfold maxLen at hc2
      unfold tV at CM ⊢
      clear h hW hbW hbox hN hT hm hQ hq
      go_enter Try.func31, Try.ntmps31
      go_wp2_with fail
      rw [unhide HW]
      go_wp2_with fail
      refine (unhide CM).mono ?_
      rintro e w2 ⟨rfl, hb2⟩
      have HB2 := hide hb2
      obtain ⟨v0, v1⟩ := unhide HBX0 w2 hb2
      clear hb2 w0 w1
      go_wp2
      go_ret
      exact ⟨ret_int (by rw [unhide HE]), (unhide HBW).trans ((unhide HB2).mono (unhide HBW).size)⟩
  · have HE := hide (mcE_t (q := q) hm)
    have hmd : (tmE P n L == 0) = false := by simpa using hm
    unfold tV at CM ⊢
    clear h hW hbW hbox hN hm hQ hq
    generalize tmE P n L = T at *
    go_enter Try.func31, Try.ntmps31
    go_wp2_with fail
    rw [unhide HW]
    go_wp2_with fail
    refine (unhide CM).mono ?_
    rintro e w2 ⟨rfl, hb2⟩
    have HB2 := hide hb2
    clear hb2 w0 w1
    go_wp2
    go_ret
    exact ⟨ret_int (by rw [unhide HE]), (unhide HBW).trans ((unhide HB2).mono (unhide HBW).size)⟩
end Go.Proofs.Ytbcchbhchfdbiaa
