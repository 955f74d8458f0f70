import Derived.Test.YtbcchbhchfdbiaaWG1
namespace Go.Proofs.Ytbcchbhchfdbiaa
open Go.RowKit
/-- How often a node is a kid: among the first kids of one, of the first nodes. -/
def occ (l : List Int) (v : Int) : Nat → Nat
  | 0 => 0
  | j + 1 => occ l v j + if nth l j = v then 1 else 0
def par (L : List Nd) (v : Int) : Nat → Nat
  | 0 => 0
  | i + 1 => par L v i + occ (ndAt L i).k.ints v (ndAt L i).k.ln
theorem occ_le (l : List Int) (v : Int) : ∀ j, occ l v j ≤ j
  | 0 => Nat.le_refl _
  | j + 1 => by have := occ_le l v j; unfold occ; split <;> omega
/-- Nodes whose kids may be. -/
def KidsIn (n : Nat) (L : List Nd) : Prop := ∀ i, i < n → (ndAt L i).k.ln ≤ 5 ∧ ∀ j, j < (ndAt L i).k.ln → 0 ≤ nth (ndAt L i).k.ints j ∧ nth (ndAt L i).k.ints j < n
theorem par_le {n : Nat} {L : List Nd} (h : KidsIn n L) (v : Int) : ∀ i, i ≤ n → par L v i ≤ 5 * i
  | 0, _ => Nat.le_refl _
  | i + 1, hi => by
    have h1 := par_le h v i (by omega)
    have h2 := occ_le (ndAt L i).k.ints v (ndAt L i).k.ln
    have h3 := (h i (by omega)).1
    unfold par
    omega
open Classical in
noncomputable def mkE (n : Nat) (L : List Nd) : Int := if ∀ v : Nat, 1 ≤ v → v < n → par L v n = 1 then 0 else 11
theorem mkE_no {n : Nat} {L : List Nd} {v : Nat} (h1 : 1 ≤ v) (h2 : v < n) (h : par L v n ≠ 1) : mkE n L = 11 := by unfold mkE; rw [if_neg (fun q => h (q v h1 h2))]
theorem mkE_yes {n : Nat} {L : List Nd} (h : ∀ v : Nat, 1 ≤ v → v < n → par L v n = 1) : mkE n L = 0 := by unfold mkE; rw [if_pos h]
def pkF (L : List Nd) (i j v : Nat) : Int := ((par L v i + occ (ndAt L i).k.ints v j : Nat) : Int)
set_option maxRecDepth 100000 in
set_option maxHeartbeats 4000000 in
theorem mayKids_any (P : Int) (a : Option Addr) (n c : Nat) (L : List Nd) (w : World) (h : Nodes w a n c L) (hK : KidsIn n L) (n1 : 1 ≤ n) (n40 : n ≤ 40) :
    Calls Try.prog 29 #[tV P a n c] w fun e w' => e = .returned (.int .i64 (mkE n L)) ∧ Below w.heap.size w w' := by
  obtain ⟨i3, hi3, hz0, hz1, hz2⟩ := info_parts info3
  have hc1 := h.2.1
  have hc2 := h.2.2.1
  unfold maxLen at hc2
  obtain ⟨W, hW, hbW, hlt0, hbox⟩ := tbox (w := w) P a n c
  have HW := hide hW
  have HBX0 := hide hbox
  have HBT := hide (fun (wr : World) (hb : Below W.heap.size W wr) => Below.trans hbW (hb.mono hbW.size))
  have w0 := (hbox W (Below.refl _ _)).1
  have w1 := (hbox W (Below.refl _ _)).2
  have hN := h.later hbW
  obtain ⟨b, off, rfl, hb, hcell⟩ := hN.cellAt n1
  have HC := hide hcell
  have HM := hide (fun i hi => hN.mem (j := i) hi)
  have HK := hide hK
  have HNO := hide (fun v x y z => mkE_no (n := n) (L := L) (v := v) x y z)
  have HYE := hide (fun x => mkE_yes (n := n) (L := L) x)
  generalize mkE n L = E at *
  clear h hW hbW hbox hlt0 hN hcell hK
  unfold tV
  go_enter Try.func29, Try.ntmps29
  go_wp2_with (at_make; rw [unhide HW]; refine wpList_make_full _ rfl _ _ 25 rfl W.heap.size 3 i3 _ 1 Try.underlying25 hi3 hz0 hz1 .i64 .i64 _ _ n rfl rfl rfl rfl (by rw [hz2]; omega) (by unfold maxLen; omega) (Nat.le_refl _) ?_; intro w2 ho2 hg2; have hB2 : Below W.heap.size W w2 := (Below.refl W.heap.size W).grown hg2 (Nat.le_refl _) (fun k hk => by cases hk); have u0 := (unhide HBX0 _ hB2).1; have u1 := (unhide HBX0 _ hB2).2)
  have HB2 := hide hB2
  have HRW2 : Hid (Row W.heap.size w2 (some ⟨W.heap.size, 0, none⟩) n (pkF L 0 0)) := (row_made ho2).same (fun j hj => by rfl)
  clear ho2 hg2 w0 w1 hB2 u0 u1
  obtain ⟨B, hB⟩ : ∃ B, B = W.heap.size := ⟨_, rfl⟩
  rw [← hB] at HB2 HRW2 HBX0 HBT HC
  rw [← hB]
  have HBB := hide hB
  clear hB
  go_loopw [17, 5, 7] (fun i _ _ wr => Hid (Below B W wr) ∧ ∃ k : Nat, k ≤ n ∧ i = .int .i64 k ∧ Hid (Row B wr (some ⟨B, 0, none⟩) n (pkF L k 0))) (fun i _ _ _ => n - (intOf i).toNat)
  case atStart => exact ⟨HB2, 0, Nat.zero_le _, rfl, HRW2⟩
  case round =>
    clear HB2 HRW2
    obtain ⟨HBr, i, hi, rfl, HRr⟩ := hrel
    by_cases hlt : i < n
    · obtain ⟨c0, c1, c2⟩ := unhide HC _ (unhide HBr) i hlt
      have hKI := unhide HK i hlt
      have hM := (unhide HM i hlt).1
      have hkl := hM.2.1
      have hkm := hM.2.2.1
      unfold maxLen at hkm
      have HNX : Hid (∀ v : Nat, pkF L (i + 1) 0 v = pkF L i (ndAt L i).k.ln v) := fun v => by
        unfold pkF
        show ((par L v i + occ (ndAt L i).k.ints v (ndAt L i).k.ln + 0 : Nat) : Int) = _
        rw [Nat.add_zero]
      have HPB : Hid (∀ v : Nat, par L v i ≤ 5 * i) := fun v => par_le (unhide HK) v i (by omega)
      have HPK : Hid (∀ j v : Nat, pkF L i j v = ((par L v i + occ (ndAt L i).k.ints v j : Nat) : Int)) := fun j v => rfl
      have HMW := hide hM
      clear hM
      generalize ndAt L i = d at *
      obtain ⟨pl, ⟨ka, kn, kc, kids⟩, ⟨qa, qn, qc, pay⟩⟩ := d
      unfold SlIn at HMW
      simp only at c0 c1 c2 hKI hkl hkm HNX HMW HPK
      go_wp2
      have hbA : Below wr.heap.size wr (wr.alloc (.cells #[.int .i64 pl, .slice ka kn kc, .slice qa qn qc] 51)) := by go_grown
      have HBA : Hid (Below B W (wr.alloc (.cells #[.int .i64 pl, .slice ka kn kc, .slice qa qn qc] 51))) := (unhide HBr).trans (hbA.mono (by have := (unhide HBr).size; have := unhide HBB; omega))
      have HRA := hide ((unhide HRr).later hbA)
      clear hbA
      go_loopw [24, 7] (fun i' _ wr => Hid (Below B W wr) ∧ ∃ j : Nat, j ≤ kn ∧ i' = .int .i64 j ∧ Hid (Row B wr (some ⟨B, 0, none⟩) n (pkF L i j))) (fun i' _ _ => kn - (intOf i').toNat)
      case atStart => exact ⟨HBA, 0, Nat.zero_le _, rfl, HRA⟩
      case round =>
        clear HBA HRA HRr HBr
        obtain ⟨HBr, j, hj, rfl, HRr⟩ := hrel
        by_cases hjl : j < kn
        · obtain ⟨kb, ko, eka, hkb, hkc'⟩ := (unhide HMW).nth (by omega)
          subst eka
          have hx := ((unhide HBr).cell (p := ⟨kb, ko + j, none⟩) (by rw [unhide HBB]; exact hkb)).trans (hkc' j hjl)
          have hxr := hKI.2 j hjl
          obtain ⟨v, ev⟩ : ∃ v : Nat, nth kids j = v := ⟨(nth kids j).toNat, by omega⟩
          rw [ev] at hx hxr
          have hv : v < n := by omega
          obtain ⟨r1, r2, r3, -⟩ := (unhide HRr).at hv
          have hpb := unhide HPB v
          have hob := occ_le kids v j
          have HF : Hid (Row B (wr.setCell ⟨B, v, none⟩ (.int .i64 (pkF L i j v + 1))) (some ⟨B, 0, none⟩) n (pkF L i (j + 1))) := (unhide HRr).set hv (fun e he hne => by
            rw [unhide HPK, unhide HPK]
            show _ = ((par L e i + (occ kids e j + if nth kids j = e then 1 else 0) : Nat) : Int)
            rw [if_neg (by rw [ev]; omega)]
            rfl) (by
            rw [unhide HPK, unhide HPK]
            show _ = ((par L v i + (occ kids v j + if nth kids j = v then 1 else 0) : Nat) : Int)
            rw [if_pos ev]
            omega)
          have hpv := unhide HPK j v
          obtain ⟨f, hf⟩ : ∃ f, f = pkF L i j v := ⟨_, rfl⟩
          rw [← hf] at r1 HF hpv
          have hfb : 0 ≤ f ∧ f ≤ 1000 := by omega
          clear hf hpv hkc' ev hpb hob
          go_wp2
          go_roundw
          case rel => exact ⟨(unhide HBr).setCell (p := ⟨B, v, none⟩) (Nat.le_refl _) _, j + 1, by omega, by go_num, HF⟩
          case measure => simp [intOf]; omega
        · obtain rfl : kn = j := by omega
          have HF : Hid (Row B wr (some ⟨B, 0, none⟩) n (pkF L (i + 1) 0)) := (unhide HRr).same (fun v hv => (unhide HNX v).symm)
          go_wp2
          go_roundw
          case rel => exact ⟨HBr, i + 1, by omega, by go_num, HF⟩
          case measure => simp [intOf]; omega
    · obtain rfl : n = i := by omega
      have HBX := hide (unhide HBT _ (unhide HBr))
      have HPK : Hid (∀ v : Nat, pkF L n 0 v = ((par L v n : Nat) : Int)) := fun v => rfl
      by_cases hn1 : n = 1
      · subst hn1
        have HR := hide (unhide HYE (fun v h1 h2 => by omega))
        go_wp2
        go_loop [39, 9] (fun i _ => i = .int .i64 0) (fun _ _ => 0)
        case atStart => rfl
        case round =>
          subst hrel
          go_wp2
          go_ret
          exact ⟨ret_int (unhide HR).symm, unhide HBX⟩
      · have hn2 : 1 < n := by omega
        obtain ⟨n', en'⟩ : ∃ n', n = n' + 1 := ⟨n - 1, by omega⟩
        have hne : ¬ n = 1 := hn1
        clear hn1
        go_wp2
        have HEN := hide en'
        have hn39 : n' ≤ 39 := by omega
        clear en'
        go_loop [39, 9] (fun i _ => ∃ k : Nat, k ≤ n' ∧ i = .int .i64 k ∧ ∀ v : Nat, 1 ≤ v → v < k + 1 → par L v n = 1) (fun i _ => n' - (intOf i).toNat)
        case atStart => exact ⟨0, Nat.zero_le _, rfl, fun v h1 h2 => by omega⟩
        case round =>
          obtain ⟨k, hk, rfl, hall⟩ := hrel
          have HA := hide hall
          clear hall
          by_cases hlt : k < n'
          · obtain ⟨r1, r2, r3, -⟩ := (unhide HRr).at (j := 1 + k) (by have := unhide HEN; omega)
            rw [unhide HPK] at r1
            by_cases hp : par L ((1 + k : Nat) : Int) n = 1
            · have HR : Hid (∀ v : Nat, 1 ≤ v → v < k + 1 + 1 → par L v n = 1) := fun v h1 h2 => by
                by_cases e : v = 1 + k
                · rw [e]; exact hp
                · exact unhide HA v h1 (by omega)
              rw [hp] at r1
              clear hp
              go_wp2
              exact ⟨⟨k + 1, by omega, by go_num, unhide HR⟩, by simp [intOf]; omega⟩
            · have HR := hide (unhide HNO (1 + k) (by omega) (by have := unhide HEN; omega) hp)
              generalize par L ((1 + k : Nat) : Int) n = x at *
              have hd : ((x : Int) == 1) = false := by simp; omega
              clear hp
              go_wp2
              go_ret
              exact ⟨ret_int (unhide HR).symm, unhide HBX⟩
          · obtain rfl : n' = k := by omega
            have HR := hide (unhide HYE (fun v h1 h2 => unhide HA v h1 (by have := unhide HEN; omega)))
            go_wp2
            go_ret
            exact ⟨ret_int (unhide HR).symm, unhide HBX⟩
end Go.Proofs.Ytbcchbhchfdbiaa
namespace Go.Proofs.Ytbcchbhchfdbiaa
open Go.RowKit
/-- The first node's error, from node i on. -/
noncomputable def neE (P n : Int) (L : List Nd) : Nat → Nat → Int
  | 0, _ => 0
  | d + 1, i => if nodeE P n i (ndAt L i) = 0 then neE P n L d (i + 1) else nodeE P n i (ndAt L i)
theorem neE_next {P : Int} {n : Nat} {L : List Nd} {i : Nat} (hi : i < n) (h : nodeE P n i (ndAt L i) = 0) : neE P n L (n - i) i = neE P n L (n - (i + 1)) (i + 1) := by
  obtain ⟨d, hd⟩ : ∃ d, n - i = d + 1 := ⟨n - i - 1, by omega⟩
  rw [hd, show n - (i + 1) = d by omega]
  conv => lhs; unfold neE
  rw [if_pos h]
theorem neE_bad {P : Int} {n : Nat} {L : List Nd} {i : Nat} (hi : i < n) (h : nodeE P n i (ndAt L i) ≠ 0) : neE P n L (n - i) i = nodeE P n i (ndAt L i) := by
  obtain ⟨d, hd⟩ : ∃ d, n - i = d + 1 := ⟨n - i - 1, by omega⟩
  rw [hd]
  conv => lhs; unfold neE
  rw [if_neg h]
theorem neE_end {P : Int} {n : Nat} {L : List Nd} {i : Nat} (hi : ¬ i < n) : neE P n L (n - i) i = 0 := by rw [show n - i = 0 by omega]; rfl
theorem neE_all {P n : Int} {L : List Nd} : ∀ (d i : Nat), neE P n L d i = 0 → ∀ j, i ≤ j → j < i + d → nodeE P n j (ndAt L j) = 0
  | 0, _, _, j, h1, h2 => by omega
  | d + 1, i, h, j, h1, h2 => by
    unfold neE at h
    by_cases e : nodeE P n i (ndAt L i) = 0
    · rw [if_pos e] at h
      by_cases q : j = i
      · rw [q]; exact e
      · exact neE_all d (i + 1) h j (by omega) (by omega)
    · rw [if_neg e] at h; exact absurd h e
theorem kid_up {n : Int} {l : List Int} {a : Nat} (h : ∀ j, j < l.length → ¬ BadKid n a l j) : ∀ j, j < l.length → (a : Int) < nth l j
  | 0, hj => by
    have := h 0 hj
    unfold BadKid at this
    show (a : Int) < nth l 0
    have e : ahd (a : Int) l 0 = a := rfl
    omega
  | j + 1, hj => by
    have h1 := kid_up h j (by omega)
    have := h (j + 1) hj
    unfold BadKid at this
    have e : ahd (a : Int) l (j + 1) = nth l j := rfl
    omega
theorem nodeE_in {P : Int} {n i : Nat} {d : Nd} (hl : d.k.ln = d.k.ints.length) (h : nodeE P n i d = 0) : d.k.ln ≤ 5 ∧ ∀ j, j < d.k.ln → (i : Int) < nth d.k.ints j ∧ nth d.k.ints j < n := by
  by_cases h1 : endB P d.pl d.k.ln d.p.ln = false ∧ movB P d.pl d.k.ln d.p.ln = false
  · rw [nodeE_1 h1.1 h1.2] at h; cases h
  · cases h2 : d.p.ints.any badP with
    | true => rw [nodeE_9 h1 h2] at h; cases h
    | false =>
      have h3 : ∀ j, j < d.k.ints.length → ¬ BadKid n i d.k.ints j := fun j hj hb => by rw [nodeE_8 h1 h2 hj hb] at h; cases h
      refine ⟨?_, fun j hj => ⟨kid_up h3 j (by omega), ?_⟩⟩
      · rcases Classical.not_and_iff_not_or_not.1 h1 with e | e
        · unfold endB at e
          simp at e
          omega
        · unfold movB at e
          simp at e
          omega
      · have := h3 j (by omega)
        unfold BadKid at this
        omega
noncomputable def tmE (P : Int) (n : Nat) (L : List Nd) : Int := if P < 1 ∨ 5 < P then 7 else if n < 1 ∨ 40 < n then 2 else if neE P n L n 0 = 0 then mkE n L else neE P n L n 0
theorem tmE_7 {P : Int} {n : Nat} {L : List Nd} (h : P < 1 ∨ 5 < P) : tmE P n L = 7 := by unfold tmE; rw [if_pos h]
theorem tmE_2 {P : Int} {n : Nat} {L : List Nd} (h : ¬ (P < 1 ∨ 5 < P)) (h2 : n < 1 ∨ 40 < n) : tmE P n L = 2 := by unfold tmE; rw [if_neg h, if_pos h2]
theorem tmE_m {P : Int} {n : Nat} {L : List Nd} (h : ¬ (P < 1 ∨ 5 < P)) (h2 : ¬ (n < 1 ∨ 40 < n)) (h3 : neE P n L n 0 = 0) : tmE P n L = mkE n L := by unfold tmE; rw [if_neg h, if_neg h2, if_pos h3]
theorem tmE_n {P : Int} {n : Nat} {L : List Nd} (h : ¬ (P < 1 ∨ 5 < P)) (h2 : ¬ (n < 1 ∨ 40 < n)) (h3 : neE P n L n 0 ≠ 0) : tmE P n L = neE P n L n 0 := by unfold tmE; rw [if_neg h, if_neg h2, if_neg h3]
set_option maxRecDepth 100000 in
set_option maxHeartbeats 4000000 in
theorem may_any (P : Int) (a : Option Addr) (n c : Nat) (L : List Nd) (w : World) (h : Nodes w a n c L) :
    Calls Try.prog 11 #[tV P a n c] w fun e w' => e = .returned (.int .i64 (tmE P n L)) ∧ Below w.heap.size w w' := by
  have hc1 := h.2.1
  have hc2 := h.2.2.1
  unfold maxLen at hc2
  obtain ⟨W, hW, hbW, hlt0, hbox⟩ := tbox (w := w) P a n c
  have HW := hide hW
  have HBW := hide hbW
  have HBX0 := hide hbox
  have HBT := hide (fun (wr : World) (hb : Below W.heap.size W wr) => Below.trans hbW (hb.mono hbW.size))
  have w0 := (hbox W (Below.refl _ _)).1
  have w1 := (hbox W (Below.refl _ _)).2
  have hN := h.later hbW
  by_cases hP : P < 1 ∨ 5 < P
  · rw [tmE_7 hP]
    clear h hW hbW hbox hlt0 hN
    unfold tV
    by_cases h1 : P < 1
    · have d1 : decide (P < 1) = true := by simp; omega
      clear hP h1
      go_enter Try.func11, Try.ntmps11
      go_wp2_with fail
      rw [unhide HW]
      go_wp2
      go_ret
      exact ⟨rfl, unhide HBW⟩
    · have d1 : decide (P < 1) = false := by simp; omega
      have d2 : decide (5 < P) = true := by simp; omega
      clear hP h1
      go_enter Try.func11, Try.ntmps11
      go_wp2_with fail
      rw [unhide HW]
      go_wp2
      go_ret
      exact ⟨rfl, unhide HBW⟩
  · have d1 : decide (P < 1) = false := by simp; omega
    have d2 : decide (5 < P) = false := by simp; omega
    by_cases hn : n < 1 ∨ 40 < n
    · rw [tmE_2 hP hn]
      clear h hW hbW hbox hlt0 hN hP
      unfold tV
      by_cases h1 : n < 1
      · obtain rfl : n = 0 := by omega
        clear hn h1
        go_enter Try.func11, Try.ntmps11
        go_wp2_with fail
        rw [unhide HW]
        go_wp2
        go_ret
        exact ⟨rfl, unhide HBW⟩
      · have h1' : 1 ≤ n := by omega
        have h2 : 40 < n := by omega
        clear hn h1
        go_enter Try.func11, Try.ntmps11
        go_wp2_with fail
        rw [unhide HW]
        go_wp2
        go_ret
        exact ⟨rfl, unhide HBW⟩
    · have RM := hide (fun x => tmE_m (P := P) (n := n) (L := L) hP hn x)
      have RN := hide (fun x => tmE_n (P := P) (n := n) (L := L) hP hn x)
      have n1 : 1 ≤ n := by omega
      have n40 : n ≤ 40 := by omega
      obtain ⟨Q, rfl⟩ : ∃ Q : Nat, P = Q := ⟨P.toNat, by omega⟩
      have HKI : Hid ((∀ j, j < n → nodeE Q n j (ndAt L j) = 0) → KidsIn n L) := fun q i hi => by
        have := nodeE_in (hN.mem hi).1.1 (q i hi)
        exact ⟨this.1, fun j hj => ⟨by have := (this.2 j hj).1; omega, (this.2 j hj).2⟩⟩
      have CK : Hid (KidsIn n L → ∀ wr, Below W.heap.size W wr → Calls Try.prog 29 #[tV Q a n c] wr fun e w' => e = .returned (.int .i64 (mkE n L)) ∧ Below wr.heap.size wr w') := fun hk wr hb => mayKids_any Q a n c L wr (hN.later hb) hk n1 n40
      have CN : Hid (∀ wr i, Below W.heap.size W wr → i < n → Calls Try.prog 28 #[tV Q a n c, .int .i64 (i : Nat), nV (ndAt L i).pl (ndAt L i).k.la (ndAt L i).k.ln (ndAt L i).k.lc (ndAt L i).p.la (ndAt L i).p.ln (ndAt L i).p.lc] wr fun e w' => e = .returned (.int .i64 (nodeE Q n i (ndAt L i))) ∧ Below wr.heap.size wr w') := fun wr i hb hi => mayNode_any Q a n c i (ndAt L i) wr ((hN.mem hi).1.later hb) ((hN.mem hi).2.later hb)
      obtain ⟨b, off, ea, hb, hcell⟩ := hN.cellAt n1
      subst ea
      have HC := hide hcell
      clear h hW hbW hbox hlt0 hN hcell hP hn
      unfold tV nV at *
      generalize tmE (Q : Int) n L = E at *
      go_enter Try.func11, Try.ntmps11
      go_wp2_with fail
      rw [unhide HW]
      go_wp2
      go_loopw [27, 3, 4, 5] (fun i _ _ _ wr => Hid (Below W.heap.size W wr) ∧ ∃ k : Nat, k ≤ n ∧ i = .int .i64 k ∧ Hid (neE Q n L n 0 = neE Q n L (n - k) k)) (fun i _ _ _ _ => n - (intOf i).toNat)
      case atStart => exact ⟨Below.refl _ _, 0, Nat.zero_le _, rfl, rfl⟩
      case round =>
        clear w0 w1
        obtain ⟨HBr, i, hi, rfl, HE⟩ := hrel
        have w0 := (unhide HBX0 _ (unhide HBr)).1
        have w1 := (unhide HBX0 _ (unhide HBr)).2
        by_cases hlt : i < n
        · obtain ⟨c0, c1, c2⟩ := unhide HC _ (unhide HBr) i hlt
          have HNN := hide (fun x => neE_next (P := (Q : Int)) (n := n) (L := L) hlt x)
          have HNB := hide (fun x => neE_bad (P := (Q : Int)) (n := n) (L := L) hlt x)
          have CN1 := hide (fun wr hb => unhide CN wr i hb hlt)
          generalize nodeE (Q : Int) n i (ndAt L i) = ne at *
          generalize ndAt L i = d at *
          obtain ⟨pl, ⟨ka, kn, kc, kids⟩, ⟨qa, qn, qc, pay⟩⟩ := d
          simp only at c0 c1 c2 CN1
          have hbA : Below wr.heap.size wr (wr.alloc (.cells #[.int .i64 pl, .slice ka kn kc, .slice qa qn qc] 51)) := by go_grown
          have HBA : Hid (Below W.heap.size W (wr.alloc (.cells #[.int .i64 pl, .slice ka kn kc, .slice qa qn qc] 51))) := (unhide HBr).trans (hbA.mono (unhide HBr).size)
          have C1 := hide (unhide CN1 _ (unhide HBA))
          have u0 := (unhide HBX0 _ (unhide HBA)).1
          have u1 := (unhide HBX0 _ (unhide HBA)).2
          clear hbA CN1
          go_wp2_with fail
          refine (unhide C1).mono ?_
          rintro e w2 ⟨rfl, hb2⟩
          have HB2 := hide ((unhide HBA).trans (hb2.mono (unhide HBA).size))
          clear hb2 u0 u1 C1 w0 w1 c0 c1 c2
          by_cases hne : ne = 0
          · have HE2 : Hid (neE Q n L n 0 = neE Q n L (n - (i + 1)) (i + 1)) := by show _ = _; rw [unhide HE]; exact unhide HNN hne
            subst hne
            go_wp2
            go_roundw
            case rel => exact ⟨HB2, i + 1, by omega, by go_num, HE2⟩
            case measure => simp [intOf]; omega
          · have HE2 : Hid (E = ne) := by
              have e1 : neE Q n L n 0 = ne := by rw [unhide HE]; exact unhide HNB hne
              have := unhide RN (by rw [e1]; exact hne)
              show _ = _
              rw [this, e1]
            have hd : (ne == 0) = false := by simp [hne]
            have HBX := hide (unhide HBT _ (unhide HB2))
            clear hne
            go_wp2
            go_ret
            exact ⟨ret_int (unhide HE2).symm, unhide HBX⟩
        · obtain rfl : n = i := by omega
          have he0 : neE Q n L n 0 = 0 := by rw [unhide HE]; exact neE_end (by omega)
          have hki := unhide HKI (fun j hj => neE_all n 0 he0 j (by omega) (by omega))
          have C1 := hide (unhide CK hki _ (unhide HBr))
          have HE2 := hide (unhide RM he0)
          clear he0 hki
          go_wp2_with fail
          refine (unhide C1).mono ?_
          rintro e w2 ⟨rfl, hb2⟩
          have HBX := hide (unhide HBT _ ((unhide HBr).trans (hb2.mono (unhide HBr).size)))
          clear hb2 C1
          go_wp2
          go_ret
          exact ⟨ret_int (unhide HE2).symm, unhide HBX⟩
end Go.Proofs.Ytbcchbhchfdbiaa
namespace Go.Proofs.Ytbcchbhchfdbiaa
/-- A tree: of each node its kids, which lie behind it, whose it is, and what all get there. -/
structure PT where
  N : Nat
  kids : Nat → List Nat
  pl : Nat → Nat
  pay : Nat → Nat → Int
  later : ∀ a, a < N → ∀ k ∈ kids a, a < k ∧ k < N
/-- What all get by choices. -/
def Sett (T : PT) (c : Nat → Nat) (f : Nat → Nat → Int) : Prop := ∀ a, a < T.N → (T.kids a = [] → f a = T.pay a) ∧ (T.kids a ≠ [] → ∃ k, (T.kids a)[c a]? = some k ∧ f a = f k)
/-- The place of the first kid from which one gets the most. -/
def Most (ks : List Nat) (f : Nat → Nat → Int) (who m : Nat) : Prop := ∃ k, ks[m]? = some k ∧ (∀ x ∈ ks, f x who ≤ f k who) ∧ ∀ j x, j < m → ks[j]? = some x → f x who < f k who
theorem Most.uniq {ks : List Nat} {f : Nat → Nat → Int} {who m m' : Nat} (h : Most ks f who m) (h' : Most ks f who m') : m = m' := by
  obtain ⟨k, a1, a2, a3⟩ := h
  obtain ⟨k', b1, b2, b3⟩ := h'
  rcases Nat.lt_trichotomy m m' with q | q | q
  · have := b3 m k q a1
    have := a2 k' (List.mem_of_getElem? b1)
    omega
  · exact q
  · have := a3 m' k' q b1
    have := b2 k (List.mem_of_getElem? a1)
    omega
theorem from_end {N : Nat} {P : Nat → Prop} (h : ∀ a, a < N → (∀ b, a < b → b < N → P b) → P a) : ∀ a, a < N → P a := by
  have : ∀ d a, a < N → N - a = d → P a := by
    intro d
    induction d using Nat.strongRecOn with
    | _ d ih => exact fun a ha hd => h a ha (fun b hb hbN => ih (N - b) (by omega) b hbN rfl)
  exact fun a ha => this _ a ha rfl
/-- What comes of choices is one. -/
theorem Sett.uniq {T : PT} {c : Nat → Nat} {f g : Nat → Nat → Int} (hf : Sett T c f) (hg : Sett T c g) : ∀ a, a < T.N → f a = g a := by
  refine from_end fun a ha ih => ?_
  by_cases e : T.kids a = []
  · rw [(hf a ha).1 e, (hg a ha).1 e]
  · obtain ⟨k, k1, k2⟩ := (hf a ha).2 e
    obtain ⟨k', k3, k4⟩ := (hg a ha).2 e
    rw [k1] at k3
    cases k3
    have hm := T.later a ha k (List.mem_of_getElem? k1)
    rw [k2, k4, ih k hm.1 hm.2]
/-- Choices that are best for one, the others' being as they are. -/
def Bett (T : PT) (c : Nat → Nat) (who : Nat) (c' : Nat → Nat) (h : Nat → Nat → Int) : Prop :=
  Sett T c' h ∧ ∀ a, a < T.N → T.kids a ≠ [] → (T.pl a = who → Most (T.kids a) h who (c' a)) ∧ (T.pl a ≠ who → c' a = c a)
section
variable {T : PT} {c c' : Nat → Nat} {f h : Nat → Nat → Int} {who : Nat}
theorem Bett.ge (hf : Sett T c f) (hb : Bett T c who c' h) : ∀ a, a < T.N → f a who ≤ h a who := by
  refine from_end fun a ha ih => ?_
  by_cases e : T.kids a = []
  · rw [(hf a ha).1 e, (hb.1 a ha).1 e]; exact Int.le_refl _
  · obtain ⟨k, k1, k2⟩ := (hf a ha).2 e
    obtain ⟨k', k3, k4⟩ := (hb.1 a ha).2 e
    have hm := T.later a ha k (List.mem_of_getElem? k1)
    have hk := ih k hm.1 hm.2
    rw [k2, k4]
    by_cases p : T.pl a = who
    · obtain ⟨m, m1, m2, -⟩ := (hb.2 a ha e).1 p
      rw [k3] at m1
      cases m1
      have := m2 k (List.mem_of_getElem? k1)
      omega
    · rw [(hb.2 a ha e).2 p, k1] at k3
      cases k3
      exact hk
/-- Nobody gets more by choosing otherwise at one node alone. -/
def Sing (T : PT) (f : Nat → Nat → Int) : Prop := ∀ a, a < T.N → ∀ k ∈ T.kids a, f k (T.pl a) ≤ f a (T.pl a)
/-- ONE NODE AT A TIME IS ENOUGH. -/
theorem sing_le (hf : Sett T c f) (hb : Bett T c who c' h) (hs : Sing T f) : ∀ a, a < T.N → h a who ≤ f a who := by
  refine from_end fun a ha ih => ?_
  by_cases e : T.kids a = []
  · rw [(hf a ha).1 e, (hb.1 a ha).1 e]; exact Int.le_refl _
  · obtain ⟨k, k1, k2⟩ := (hf a ha).2 e
    obtain ⟨k', k3, k4⟩ := (hb.1 a ha).2 e
    have hm := T.later a ha k' (List.mem_of_getElem? k3)
    have hk := ih k' hm.1 hm.2
    rw [k4]
    by_cases p : T.pl a = who
    · have := hs a ha k' (List.mem_of_getElem? k3)
      rw [p] at this
      omega
    · rw [(hb.2 a ha e).2 p, k1] at k3
      cases k3
      rw [k2]; exact hk
theorem le_sing (hf : Sett T c f) (hall : ∀ who, ∃ c' h, Bett T c who c' h ∧ ∀ a, a < T.N → h a who ≤ f a who) : Sing T f := fun a ha k hk => by
  obtain ⟨c', h, hb, hle⟩ := hall (T.pl a)
  have hm := T.later a ha k hk
  have e : T.kids a ≠ [] := fun q => by rw [q] at hk; cases hk
  have g1 := hb.ge hf k hm.2
  obtain ⟨k', k3, k4⟩ := (hb.1 a ha).2 e
  obtain ⟨m, m1, m2, -⟩ := (hb.2 a ha e).1 rfl
  rw [k3] at m1
  cases m1
  have g2 := m2 k hk
  have g3 := hle a ha
  rw [k4] at g3
  omega
/-- What is chosen from the end back is best at each node. -/
theorem back_sing (hf : Sett T c f) (hb : ∀ a, a < T.N → T.kids a ≠ [] → Most (T.kids a) f (T.pl a) (c a)) : Sing T f := fun a ha k hk => by
  have e : T.kids a ≠ [] := fun q => by rw [q] at hk; cases hk
  obtain ⟨k', k3, k4⟩ := (hf a ha).2 e
  obtain ⟨m, m1, m2, -⟩ := hb a ha e
  rw [k3] at m1
  cases m1
  rw [k4]; exact m2 k hk
end
end Go.Proofs.Ytbcchbhchfdbiaa
