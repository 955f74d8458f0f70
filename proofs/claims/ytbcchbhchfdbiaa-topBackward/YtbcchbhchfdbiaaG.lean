import Derived.Test.YtbcchbhchfdbiaaF
namespace Go.Proofs.Ytbcchbhchfdbiaa
open Go.RowKit
/-- The first node's error, from node i on. -/
noncomputable def neE (P n : Int) (L : List Nd) : Nat → Nat → Int
  | 0, _ => 0
  | d + 1, i => if nodeE P n i (ndAt L i) = 0 then neE P n L d (i + 1) else nodeE P n i (ndAt L i)
theorem neE_next {P : Int} {n : Nat} {L : List Nd} {i : Nat} (hi : i < n) (h : nodeE P n i (ndAt L i) = 0) : neE P n L (n - i) i = neE P n L (n - (i + 1)) (i + 1) := by
  obtain ⟨d, hd⟩ : ∃ d, n - i = d + 1 := ⟨n - i - 1, by omega⟩
  rw [hd, show n - (i + 1) = d by omega]
  conv => lhs; unfold neE
  rw [if_pos h]
theorem neE_bad {P : Int} {n : Nat} {L : List Nd} {i : Nat} (hi : i < n) (h : nodeE P n i (ndAt L i) ≠ 0) : neE P n L (n - i) i = nodeE P n i (ndAt L i) := by
  obtain ⟨d, hd⟩ : ∃ d, n - i = d + 1 := ⟨n - i - 1, by omega⟩
  rw [hd]
  conv => lhs; unfold neE
  rw [if_neg h]
theorem neE_end {P : Int} {n : Nat} {L : List Nd} {i : Nat} (hi : ¬ i < n) : neE P n L (n - i) i = 0 := by rw [show n - i = 0 by omega]; rfl
theorem neE_all {P n : Int} {L : List Nd} : ∀ (d i : Nat), neE P n L d i = 0 → ∀ j, i ≤ j → j < i + d → nodeE P n j (ndAt L j) = 0
  | 0, _, _, j, h1, h2 => by omega
  | d + 1, i, h, j, h1, h2 => by
    unfold neE at h
    by_cases e : nodeE P n i (ndAt L i) = 0
    · rw [if_pos e] at h
      by_cases q : j = i
      · rw [q]; exact e
      · exact neE_all d (i + 1) h j (by omega) (by omega)
    · rw [if_neg e] at h; exact absurd h e
theorem kid_up {n : Int} {l : List Int} {a : Nat} (h : ∀ j, j < l.length → ¬ BadKid n a l j) : ∀ j, j < l.length → (a : Int) < nth l j
  | 0, hj => by
    have := h 0 hj
    unfold BadKid at this
    show (a : Int) < nth l 0
    have e : ahd (a : Int) l 0 = a := rfl
    omega
  | j + 1, hj => by
    have h1 := kid_up h j (by omega)
    have := h (j + 1) hj
    unfold BadKid at this
    have e : ahd (a : Int) l (j + 1) = nth l j := rfl
    omega
theorem nodeE_in {P : Int} {n i : Nat} {d : Nd} (hl : d.k.ln = d.k.ints.length) (h : nodeE P n i d = 0) : d.k.ln ≤ 5 ∧ ∀ j, j < d.k.ln → (i : Int) < nth d.k.ints j ∧ nth d.k.ints j < n := by
  by_cases h1 : endB P d.pl d.k.ln d.p.ln = false ∧ movB P d.pl d.k.ln d.p.ln = false
  · rw [nodeE_1 h1.1 h1.2] at h; cases h
  · cases h2 : d.p.ints.any badP with
    | true => rw [nodeE_9 h1 h2] at h; cases h
    | false =>
      have h3 : ∀ j, j < d.k.ints.length → ¬ BadKid n i d.k.ints j := fun j hj hb => by rw [nodeE_8 h1 h2 hj hb] at h; cases h
      refine ⟨?_, fun j hj => ⟨kid_up h3 j (by omega), ?_⟩⟩
      · rcases Classical.not_and_iff_not_or_not.1 h1 with e | e
        · unfold endB at e
          simp at e
          omega
        · unfold movB at e
          simp at e
          omega
      · have := h3 j (by omega)
        unfold BadKid at this
        omega
noncomputable def tmE (P : Int) (n : Nat) (L : List Nd) : Int := if P < 1 ∨ 5 < P then 7 else if n < 1 ∨ 40 < n then 2 else if neE P n L n 0 = 0 then mkE n L else neE P n L n 0
theorem tmE_7 {P : Int} {n : Nat} {L : List Nd} (h : P < 1 ∨ 5 < P) : tmE P n L = 7 := by unfold tmE; rw [if_pos h]
theorem tmE_2 {P : Int} {n : Nat} {L : List Nd} (h : ¬ (P < 1 ∨ 5 < P)) (h2 : n < 1 ∨ 40 < n) : tmE P n L = 2 := by unfold tmE; rw [if_neg h, if_pos h2]
theorem tmE_m {P : Int} {n : Nat} {L : List Nd} (h : ¬ (P < 1 ∨ 5 < P)) (h2 : ¬ (n < 1 ∨ 40 < n)) (h3 : neE P n L n 0 = 0) : tmE P n L = mkE n L := by unfold tmE; rw [if_neg h, if_neg h2, if_pos h3]
theorem tmE_n {P : Int} {n : Nat} {L : List Nd} (h : ¬ (P < 1 ∨ 5 < P)) (h2 : ¬ (n < 1 ∨ 40 < n)) (h3 : neE P n L n 0 ≠ 0) : tmE P n L = neE P n L n 0 := by unfold tmE; rw [if_neg h, if_neg h2, if_neg h3]
set_option maxRecDepth 100000 in
set_option maxHeartbeats 4000000 in
theorem may_any (P : Int) (a : Option Addr) (n c : Nat) (L : List Nd) (w : World) (h : Nodes w a n c L) :
    Calls Try.prog 11 #[tV P a n c] w fun e w' => e = .returned (.int .i64 (tmE P n L)) ∧ Below w.heap.size w w' := by
  have hc1 := h.2.1
  have hc2 := h.2.2.1
  unfold maxLen at hc2
  obtain ⟨W, hW, hbW, hlt0, hbox⟩ := tbox (w := w) P a n c
  have HW := hide hW
  have HBW := hide hbW
  have HBX0 := hide hbox
  have HBT := hide (fun (wr : World) (hb : Below W.heap.size W wr) => Below.trans hbW (hb.mono hbW.size))
  have w0 := (hbox W (Below.refl _ _)).1
  have w1 := (hbox W (Below.refl _ _)).2
  have hN := h.later hbW
  by_cases hP : P < 1 ∨ 5 < P
  · rw [tmE_7 hP]
    clear h hW hbW hbox hlt0 hN
    unfold tV
    by_cases h1 : P < 1
    · have d1 : decide (P < 1) = true := by simp; omega
      clear hP h1
      go_enter Try.func11, Try.ntmps11
      go_wp2_with fail
      rw [unhide HW]
      go_wp2
      go_ret
      exact ⟨rfl, unhide HBW⟩
    · have d1 : decide (P < 1) = false := by simp; omega
      have d2 : decide (5 < P) = true := by simp; omega
      clear hP h1
      go_enter Try.func11, Try.ntmps11
      go_wp2_with fail
      rw [unhide HW]
      go_wp2
      go_ret
      exact ⟨rfl, unhide HBW⟩
  · have d1 : decide (P < 1) = false := by simp; omega
    have d2 : decide (5 < P) = false := by simp; omega
    by_cases hn : n < 1 ∨ 40 < n
    · rw [tmE_2 hP hn]
      clear h hW hbW hbox hlt0 hN hP
      unfold tV
      by_cases h1 : n < 1
      · obtain rfl : n = 0 := by omega
        clear hn h1
        go_enter Try.func11, Try.ntmps11
        go_wp2_with fail
        rw [unhide HW]
        go_wp2
        go_ret
        exact ⟨rfl, unhide HBW⟩
      · have h1' : 1 ≤ n := by omega
        have h2 : 40 < n := by omega
        clear hn h1
        go_enter Try.func11, Try.ntmps11
        go_wp2_with fail
        rw [unhide HW]
        go_wp2
        go_ret
        exact ⟨rfl, unhide HBW⟩
    · have RM := hide (fun x => tmE_m (P := P) (n := n) (L := L) hP hn x)
      have RN := hide (fun x => tmE_n (P := P) (n := n) (L := L) hP hn x)
      have n1 : 1 ≤ n := by omega
      have n40 : n ≤ 40 := by omega
      obtain ⟨Q, rfl⟩ : ∃ Q : Nat, P = Q := ⟨P.toNat, by omega⟩
      have HKI : Hid ((∀ j, j < n → nodeE Q n j (ndAt L j) = 0) → KidsIn n L) := fun q i hi => by
        have := nodeE_in (hN.mem hi).1.1 (q i hi)
        exact ⟨this.1, fun j hj => ⟨by have := (this.2 j hj).1; omega, (this.2 j hj).2⟩⟩
      have CK : Hid (KidsIn n L → ∀ wr, Below W.heap.size W wr → Calls Try.prog 29 #[tV Q a n c] wr fun e w' => e = .returned (.int .i64 (mkE n L)) ∧ Below wr.heap.size wr w') := fun hk wr hb => mayKids_any Q a n c L wr (hN.later hb) hk n1 n40
      have CN : Hid (∀ wr i, Below W.heap.size W wr → i < n → Calls Try.prog 28 #[tV Q a n c, .int .i64 (i : Nat), nV (ndAt L i).pl (ndAt L i).k.la (ndAt L i).k.ln (ndAt L i).k.lc (ndAt L i).p.la (ndAt L i).p.ln (ndAt L i).p.lc] wr fun e w' => e = .returned (.int .i64 (nodeE Q n i (ndAt L i))) ∧ Below wr.heap.size wr w') := fun wr i hb hi => mayNode_any Q a n c i (ndAt L i) wr ((hN.mem hi).1.later hb) ((hN.mem hi).2.later hb)
      obtain ⟨b, off, ea, hb, hcell⟩ := hN.cellAt n1
      subst ea
      have HC := hide hcell
      clear h hW hbW hbox hlt0 hN hcell hP hn
      unfold tV nV at *
      generalize tmE (Q : Int) n L = E at *
      go_enter Try.func11, Try.ntmps11
      go_wp2_with fail
      rw [unhide HW]
      go_wp2
      go_loopw [27, 3, 4, 5] (fun i _ _ _ wr => Hid (Below W.heap.size W wr) ∧ ∃ k : Nat, k ≤ n ∧ i = .int .i64 k ∧ Hid (neE Q n L n 0 = neE Q n L (n - k) k)) (fun i _ _ _ _ => n - (intOf i).toNat)
      case atStart => exact ⟨Below.refl _ _, 0, Nat.zero_le _, rfl, rfl⟩
      case round =>
        clear w0 w1
        obtain ⟨HBr, i, hi, rfl, HE⟩ := hrel
        have w0 := (unhide HBX0 _ (unhide HBr)).1
        have w1 := (unhide HBX0 _ (unhide HBr)).2
        by_cases hlt : i < n
        · obtain ⟨c0, c1, c2⟩ := unhide HC _ (unhide HBr) i hlt
          have HNN := hide (fun x => neE_next (P := (Q : Int)) (n := n) (L := L) hlt x)
          have HNB := hide (fun x => neE_bad (P := (Q : Int)) (n := n) (L := L) hlt x)
          have CN1 := hide (fun wr hb => unhide CN wr i hb hlt)
          generalize nodeE (Q : Int) n i (ndAt L i) = ne at *
          generalize ndAt L i = d at *
          obtain ⟨pl, ⟨ka, kn, kc, kids⟩, ⟨qa, qn, qc, pay⟩⟩ := d
          simp only at c0 c1 c2 CN1
          have hbA : Below wr.heap.size wr (wr.alloc (.cells #[.int .i64 pl, .slice ka kn kc, .slice qa qn qc] 51)) := by go_grown
          have HBA : Hid (Below W.heap.size W (wr.alloc (.cells #[.int .i64 pl, .slice ka kn kc, .slice qa qn qc] 51))) := (unhide HBr).trans (hbA.mono (unhide HBr).size)
          have C1 := hide (unhide CN1 _ (unhide HBA))
          have u0 := (unhide HBX0 _ (unhide HBA)).1
          have u1 := (unhide HBX0 _ (unhide HBA)).2
          clear hbA CN1
          go_wp2_with fail
          refine (unhide C1).mono ?_
          rintro e w2 ⟨rfl, hb2⟩
          have HB2 := hide ((unhide HBA).trans (hb2.mono (unhide HBA).size))
          clear hb2 u0 u1 C1 w0 w1 c0 c1 c2
          by_cases hne : ne = 0
          · have HE2 : Hid (neE Q n L n 0 = neE Q n L (n - (i + 1)) (i + 1)) := by show _ = _; rw [unhide HE]; exact unhide HNN hne
            subst hne
            go_wp2
            go_roundw
            case rel => exact ⟨HB2, i + 1, by omega, by go_num, HE2⟩
            case measure => simp [intOf]; omega
          · have HE2 : Hid (E = ne) := by
              have e1 : neE Q n L n 0 = ne := by rw [unhide HE]; exact unhide HNB hne
              have := unhide RN (by rw [e1]; exact hne)
              show _ = _
              rw [this, e1]
            have hd : (ne == 0) = false := by simp [hne]
            have HBX := hide (unhide HBT _ (unhide HB2))
            clear hne
            go_wp2
            go_ret
            exact ⟨ret_int (unhide HE2).symm, unhide HBX⟩
        · obtain rfl : n = i := by omega
          have he0 : neE Q n L n 0 = 0 := by rw [unhide HE]; exact neE_end (by omega)
          have hki := unhide HKI (fun j hj => neE_all n 0 he0 j (by omega) (by omega))
          have C1 := hide (unhide CK hki _ (unhide HBr))
          have HE2 := hide (unhide RM he0)
          clear he0 hki
          go_wp2_with fail
          refine (unhide C1).mono ?_
          rintro e w2 ⟨rfl, hb2⟩
          have HBX := hide (unhide HBT _ ((unhide HBr).trans (hb2.mono (unhide HBr).size)))
          clear hb2 C1
          go_wp2
          go_ret
          exact ⟨ret_int (unhide HE2).symm, unhide HBX⟩
end Go.Proofs.Ytbcchbhchfdbiaa
