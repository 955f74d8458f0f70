import Derived.Test.YtcannknicfnkdaaI
namespace Go.Proofs.Ytcannknicfnkdaa
open Go.RowKit
def NxPost (o : Option (List Int)) (n : Nat) (w : World) (e : Ending) (w' : World) : Prop :=
  Below w.heap.size w w' ∧ ((o = none ∧ e = .returned (.slice none 0 0)) ∨ ∃ q g cap, o = some q ∧ e = .returned (.slice (some ⟨g, 0, none⟩) n cap) ∧ w.heap.size ≤ g ∧ Ints w' (some ⟨g, 0, none⟩) n cap q ∧ T3 w' (some ⟨g, 0, none⟩) n)
theorem set_self {p : List Int} {i : Nat} (hi : i < p.length) : p.set i (nth p i) = p := by
  apply List.ext_getElem?
  intro j
  rw [List.getElem?_set]
  by_cases h : i = j
  · subst h
    rw [if_pos rfl, if_pos hi]
    unfold nth
    rw [List.getElem?_eq_getElem hi]
    rfl
  · rw [if_neg h]
theorem chp_cases {C K : List Sl} {n m : Nat} {p : List Int} (hO : OkP C n p) {i : Nat} (hi : i < n) :
    (∃ k : Nat, mvB C K n m p i = k ∧ (bs (fun k => cs C K n (p.set i k) i m) (nth p i) (cs C K n p i m) (slAt C i).ln).1 = k ∧ (k : Int) ≠ nth p i ∧ k < (slAt C i).ln) ∨
    (¬ 0 ≤ mvB C K n m p i ∧ mvB C K n m p i = -1 ∧ (bs (fun k => cs C K n (p.set i k) i m) (nth p i) (cs C K n p i m) (slAt C i).ln).1 = nth p i) := by
  rcases (bs_two (fun k => cs C K n (p.set i k) i m) (nth p i) (cs C K n p i m) (slAt C i).ln).2.2.2 with ⟨a, b, c⟩ | ⟨k, k1, k2, k3, k4, k5⟩
  · refine Or.inr ⟨?_, b, a⟩
    unfold mvB
    rw [b]
    decide
  · refine Or.inl ⟨k, k3, k2, fun e => ?_, k1⟩
    have k5' : cs C K n (p.set i k) i m < cs C K n p i m := k5
    rw [e, set_self (by rw [hO.1]; exact hi)] at k5'
    omega
set_option maxRecDepth 100000 in
set_option maxHeartbeats 4000000 in
theorem change_any (ca : Option Addr) (n cc : Nat) (C : List Sl) (ka : Option Addr) (m kc : Nat) (K : List Sl) (pa : Option Addr) (pc : Nat) (p : List Int) (w : World) (hC : Lsts w ca n cc C) (hK : Lsts w ka m kc K) (hp : Ints w pa n pc p) (hR : Rds C K n m) (hO : OkP C n p) :
    Calls Try.prog 26 #[rV ca n cc ka m kc, .slice pa n pc] w fun e w' => NxPost (nx C K n m p) n w e w' := by
  have hc1 := hC.2.1
  have hc2 := hC.2.2.1
  have hk1 := hK.2.1
  have hk2 := hK.2.2.1
  have hp1 := hp.2.1
  have hp2 := hp.2.2.1
  unfold maxLen at hc2 hk2 hp2
  have n1 := hR.n1
  have n5 := hR.n5
  have m6 := hR.m6
  obtain ⟨W, hW, hbW, hlt0, hbox⟩ := box_cells (w := w) ca n cc ka m kc
  have HW := hide hW
  have HBX0 := hide hbox
  have HBT := hide (fun (wr : World) (hb : Below W.heap.size W wr) => Below.trans hbW (hb.mono hbW.size))
  have w0 := (hbox W (Below.refl _ _)).1
  have w1 := (hbox W (Below.refl _ _)).2
  have hCW := hC.later hbW
  have hKW := hK.later hbW
  have hPW := hp.later hbW
  have hpl : p.length = n := hO.1
  have CC : Hid (∀ (wr : World), Below W.heap.size W wr → ∀ i : Nat, i < n → Calls Try.prog 32 #[rV ca n cc ka m kc, .slice pa n pc, .int .i64 (i : Int)] wr fun r w' => r = .returned (.int .i64 (bs (fun k => cs C K n (p.set i k) i m) (nth p i) (cs C K n p i m) (slAt C i).ln).1) ∧ Below wr.heap.size wr w') := fun wr hb i hi => cheapest_any ca n cc C ka m kc K pa pc p i wr (hCW.later hb) (hKW.later hb) (hPW.later hb) hR hO hi
  have CL : Hid (∀ (wr : World), Below W.heap.size W wr → Calls Try.prog 25 #[.slice pa n pc] wr fun e w' => ∃ v, e = .returned v ∧ w'.ownsRow wr.heap.size 3 1 v n (intVals p) ∧ Below wr.heap.size wr w') := fun wr hb => clone_any pa n pc p wr (hPW.later hb) (by omega)
  have HCH : Hid (∀ i, i < n → _) := fun i hi => chp_cases (C := C) (K := K) (m := m) hO hi
  have HBW := hide hbW
  have HPW := hide hPW
  have HPL : Hid (∀ (i : Nat) (x : Int), i < n → (p.set i x).length = n ∧ ∀ j, upd (nth p) i x j = nth (p.set i x) j) := fun i x hi => ⟨by rw [List.length_set]; exact hpl, nth_upd (by rw [hpl]; exact hi)⟩
  have HNX : Hid (nx C K n m p = nxF (mvB C K n m p) p n 0) := rfl
  have HPI : Hid (∀ i, i < n → 0 ≤ nth p i ∧ nth p i ≤ 5) := fun i hi => by have := hO.2 i hi; have := hR.cl i hi; omega
  obtain ⟨pb, po, epa, hpb, hpc⟩ := hPW.nth hR.n1
  have HPC : Hid (∀ (wr : World), Below W.heap.size W wr → ∀ i, i < n → wr.cell? ⟨pb, po + i, none⟩ = some (.int .i64 (nth p i))) := fun wr hb i hi => (hb.cell (p := ⟨pb, po + i, none⟩) hpb).trans (hpc i hi)
  subst epa
  clear hC hK hp hW hbW hbox hlt0 hR hO hCW hKW hPW hpc hpl
  unfold rV at *
  generalize nx C K n m p = o at *
  generalize hG : mvB C K n m p = G at *
  clear hG
  go_enter Try.func26, Try.ntmps26
  go_wp2_with fail
  rw [unhide HW]
  go_wp2
  go_loopw [10, 5, 6, 7] (fun i _ _ _ wr => Hid (Below W.heap.size W wr) ∧ ∃ k : Nat, k ≤ n ∧ i = .int .i64 k ∧ Hid (o = nxF G p (n - k) k)) (fun i _ _ _ _ => n - (intOf i).toNat)
  case atStart => exact ⟨Below.refl _ _, 0, Nat.zero_le _, rfl, HNX⟩
  case round =>
    clear w0 w1
    obtain ⟨HBr, i, hi, rfl, HO⟩ := hrel
    have w0 := (unhide HBX0 _ (unhide HBr)).1
    have w1 := (unhide HBX0 _ (unhide HBr)).2
    by_cases hlt : i < n
    · have C1 := unhide CC _ (unhide HBr) i hlt
      have hpi := unhide HPI i hlt
      rcases unhide HCH i hlt with ⟨k, q1, q2, q3, q4⟩ | ⟨q1, q1b, q2⟩
      · rw [q2] at C1
        have C1 := hide C1
        have HO2 : Hid (o = some (p.set i k)) := by show _ = _; rw [unhide HO, nxF_yes hlt (by rw [q1]; omega), q1]
        obtain ⟨px, hpx⟩ : ∃ px, px = nth p i := ⟨_, rfl⟩
        have hd : ((k : Int) == px) = false := by rw [hpx]; simpa using q3
        rw [← hpx] at hpi
        have HPX := hide hpx
        clear q1 q2 q3 hpx
        go_wp2_with fail
        refine (unhide C1).mono ?_
        rintro e w2 ⟨rfl, hb2⟩
        have HB2 := hide ((unhide HBr).trans (hb2.mono (unhide HBr).size))
        clear hb2 w0 w1 C1
        have hpk := unhide HPC _ (unhide HB2) i hlt
        rw [← unhide HPX] at hpk
        have CL := hide (unhide CL _ (unhide HB2))
        go_wp2_with fail
        refine (unhide CL).mono ?_
        rintro e w3 ⟨v, rfl, hown, hb3⟩
        obtain ⟨g, cap, rfl, g1, g2, g3, g4, hrow, hT⟩ := owns_row hown n1
        have HB3 := hide ((unhide HB2).trans (hb3.mono (unhide HB2).size))
        have hWg : W.heap.size ≤ g := Nat.le_trans (unhide HB2).size g3
        obtain ⟨r1, r2, r3, -⟩ := hrow.at hlt
        have HPO : Hid (NxPost o n w (.returned (.slice (some ⟨g, 0, none⟩) n cap)) (w3.setCell ⟨g, i, none⟩ (.int .i64 (k : Int)))) := by
          refine ⟨(unhide HBT _ ((unhide HB3).setCell (p := ⟨g, i, none⟩) hWg _)), Or.inr ⟨p.set i k, g, cap, unhide HO2, rfl, Nat.le_trans (unhide HBW).size hWg, ?_, hT.set⟩⟩
          exact (hrow.set hlt (f' := upd (nth p) i k) (fun j hj hne => by rw [upd_ne hne]) (by rw [upd_at])).ints ((unhide HPL i k hlt).1).symm g1 g2 (fun j hj => (unhide HPL i k hlt).2 j)
        have hgm := g2
        unfold maxLen at hgm
        clear hown hb3 hrow hT CL hpk HPX hd
        generalize nth p i = px2 at *
        go_wp2
        go_ret
        exact unhide HPO
      · rw [q2] at C1
        have C1 := hide C1
        have HO2 : Hid (o = nxF G p (n - (i + 1)) (i + 1)) := by show _ = _; rw [unhide HO, nxF_no hlt (by omega)]
        clear q1 q2 q1b
        obtain ⟨px, hpx⟩ : ∃ px, px = nth p i := ⟨_, rfl⟩
        rw [← hpx] at hpi C1
        have HPX := hide hpx
        clear hpx
        go_wp2_with fail
        refine (unhide C1).mono ?_
        rintro e w2 ⟨rfl, hb2⟩
        have HB2 := hide ((unhide HBr).trans (hb2.mono (unhide HBr).size))
        clear hb2 w0 w1 C1
        have hpk := unhide HPC _ (unhide HB2) i hlt
        rw [← unhide HPX] at hpk
        go_wp2
        go_roundw
        case rel => exact ⟨HB2, i + 1, by omega, by go_num, HO2⟩
        case measure => simp [intOf]; omega
    · obtain rfl : n = i := by omega
      have HBX := hide (unhide HBT _ (unhide HBr))
      have HO2 : Hid (o = none) := by show _ = _; rw [unhide HO, nxF_end (by omega)]
      go_wp2
      go_ret
      exact ⟨unhide HBX, Or.inl ⟨unhide HO2, rfl⟩⟩
set_option maxRecDepth 100000 in
set_option maxHeartbeats 8000000 in
theorem moved_any (ca : Option Addr) (n cc : Nat) (C : List Sl) (ka : Option Addr) (m kc : Nat) (K : List Sl) (pa : Option Addr) (pc : Nat) (p : List Int) (w : World) (hC : Lsts w ca n cc C) (hK : Lsts w ka m kc K) (hp : Ints w pa n pc p) (hR : Rds C K n m) (hO : OkP C n p) :
    Calls Try.prog 31 #[rV ca n cc ka m kc, .slice pa n pc] w fun e w' => NxPost (nx C K n m p) n w e w' := by
  have hc1 := hC.2.1
  have hc2 := hC.2.2.1
  have hk1 := hK.2.1
  have hk2 := hK.2.2.1
  have hp1 := hp.2.1
  have hp2 := hp.2.2.1
  unfold maxLen at hc2 hk2 hp2
  have n1 := hR.n1
  have n5 := hR.n5
  have m6 := hR.m6
  obtain ⟨W, hW, hbW, hlt0, hbox⟩ := box_cells (w := w) ca n cc ka m kc
  have HW := hide hW
  have HBX0 := hide hbox
  have HBT := hide (fun (wr : World) (hb : Below W.heap.size W wr) => Below.trans hbW (hb.mono hbW.size))
  have w0 := (hbox W (Below.refl _ _)).1
  have w1 := (hbox W (Below.refl _ _)).2
  have hCW := hC.later hbW
  have hKW := hK.later hbW
  have hPW := hp.later hbW
  have hpl : p.length = n := hO.1
  have CC : Hid (∀ (wr : World) (i : Nat) (qa : Option Addr) (qc : Nat) (q : List Int), i < n → Below W.heap.size W wr → Ints wr qa n qc q → OkP C n q → Calls Try.prog 12 #[rV ca n cc ka m kc, .slice qa n qc, .int .i64 (i : Int)] wr fun r w' => r = .returned (.int .i64 (cs C K n q i m)) ∧ Below wr.heap.size wr w') := fun wr i qa qc q hi hb hq hOq => costOf_any ca n cc C ka m kc K qa qc q i wr (hCW.later hb) (hKW.later hb) hq hR hOq hi
  have HPW := hide hPW
  have HO := hide hO
  have HBW := hide hbW
  have HBD := hide (fun (q : List Int) i hi => cs_bd (C := C) hR.ok q i hi m (Nat.le_refl _))
  have HOS : Hid (∀ i, i < n → ∀ k : Nat, k < (slAt C i).ln → OkP C n (p.set i k)) := fun i hi k hk => hO.set hi (by omega) (by omega)
  have HPL : Hid (∀ (i : Nat) (x : Int), i < n → (p.set i x).length = n ∧ ∀ j, upd (nth p) i x j = nth (p.set i x) j) := fun i x hi => ⟨by rw [List.length_set]; exact hpl, nth_upd (by rw [hpl]; exact hi)⟩
  have HNX : Hid (nx C K n m p = nxF (mvB C K n m p) p n 0) := rfl
  have HMV : Hid (∀ i, mvB C K n m p i = (bs (fun k => cs C K n (p.set i k) i m) (-1) (cs C K n p i m) (slAt C i).ln).1) := fun i => rfl
  have HBS : Hid (∀ i l k, ((bs (fun k => cs C K n (p.set i k) i m) (-1) l k).1 = -1) ∨ ∃ t : Nat, t < k ∧ (bs (fun k => cs C K n (p.set i k) i m) (-1) l k).1 = t) := fun i l k => by
    rcases (bs_two (fun k => cs C K n (p.set i k) i m) (-1) l k).2.2.2 with ⟨a, _⟩ | ⟨t, t1, t2, _⟩
    · exact Or.inl a
    · exact Or.inr ⟨t, t1, t2⟩
  obtain ⟨cb, co', pb, po, rfl, rfl, hrd⟩ := rd_cells hCW hPW hR hO
  have HRD := hide hrd
  clear hC hK hp hW hbW hbox hlt0 hR hO hCW hKW hPW hpl hrd
  unfold rV at *
  generalize nx C K n m p = o at *
  generalize hG : mvB C K n m p = G at *
  clear hG
  go_enter Try.func31, Try.ntmps31
  go_wp2_with fail
  rw [unhide HW]
  go_wp2
  go_loopw [5, 6, 7, 8, 9, 10, 11, 12] (fun i _ _ _ _ _ _ _ wr => Hid (Below W.heap.size W wr) ∧ ∃ k : Nat, k ≤ n ∧ i = .int .i64 k ∧ Hid (o = nxF G p (n - k) k)) (fun i _ _ _ _ _ _ _ _ => n - (intOf i).toNat)
  case atStart => exact ⟨Below.refl _ _, 0, Nat.zero_le _, rfl, HNX⟩
  case round =>
    clear w0 w1
    obtain ⟨HBr, i, hi, rfl, HOr⟩ := hrel
    have w0 := (unhide HBX0 _ (unhide HBr)).1
    have w1 := (unhide HBX0 _ (unhide HBr)).2
    by_cases hlt : i < n
    · have C0 := unhide CC _ i _ pc p hlt (unhide HBr) ((unhide HPW).later (unhide HBr)) (unhide HO)
      obtain ⟨ib, io, ln, lc, t, x, -, -, eln, -, -, htl, l1, l5, l2, hcs⟩ := unhide HRD i hlt
      have hl0 := unhide HBD p i hlt
      have HMV := hide (unhide HMV i)
      have HBS := hide (unhide HBS i)
      have HOS := hide (unhide HOS i hlt)
      rw [eln] at HMV HOS
      have HCS := hide hcs
      obtain ⟨f, hf⟩ : ∃ f : Nat → Int, f = fun k : Nat => cs C K n (p.set i (k : Int)) i m := ⟨_, rfl⟩
      have HF : Hid (∀ k : Nat, cs C K n (p.set i k) i m = f k) := fun k => by rw [hf]
      rw [← hf] at HMV HBS
      obtain ⟨l0, hl⟩ : ∃ l0, l0 = cs C K n p i m := ⟨_, rfl⟩
      rw [← hl] at HMV C0 hl0
      have C0 := hide C0
      clear hf hl eln hcs
      go_wp2_with fail
      refine (unhide C0).mono ?_
      rintro e w2 ⟨rfl, hb2⟩
      have HB2 := hide ((unhide HBr).trans (hb2.mono (unhide HBr).size))
      clear hb2 w0 w1 C0
      go_wp2
      go_loopw [7, 8, 9, 10, 11] (fun bb ll i' _ _ wr => Hid (Below W.heap.size W wr) ∧ ∃ k : Nat, k ≤ ln ∧ i' = .int .i64 k ∧ bb = .int .i64 (bs f (-1) l0 k).1 ∧ ll = .int .i64 (bs f (-1) l0 k).2) (fun _ _ i' _ _ _ => ln - (intOf i').toNat)
      case atStart => exact ⟨HB2, 0, Nat.zero_le _, rfl, rfl, rfl⟩
      case round =>
        clear HB2 HBr
        obtain ⟨HBr, k, hk, rfl, rfl, rfl⟩ := hrel
        have w0 := (unhide HBX0 _ (unhide HBr)).1
        have w1 := (unhide HBX0 _ (unhide HBr)).2
        obtain ⟨k1, -, -⟩ := unhide HCS _ (unhide HBr)
        by_cases hlk : k < ln
        · have hb0 : Below wr.heap.size wr (wr.alloc (.cells #[] 3)) := by go_grown
          have h1 := ((unhide HPW).later (unhide HBr)).later hb0
          have HI1 := hide h1
          have HB0 := hide hb0
          have HE := hide (own_empty wr wr.heap.size (Nat.le_refl _))
          have HN : Hid (bs f (-1) l0 (k + 1) = if f k < (bs f (-1) l0 k).2 then ((k : Int), f k) else bs f (-1) l0 k) := rfl
          clear h1 hb0
          obtain ⟨B0, B1⟩ : ∃ b : Int × Int, b = bs f (-1) l0 k := ⟨_, rfl⟩
          rw [← B1] at HN
          rw [← B1]
          clear B1
          obtain ⟨b1, b2⟩ := B0
          obtain ⟨fk, hfk⟩ : ∃ fk, fk = f k := ⟨_, rfl⟩
          rw [← hfk] at HN
          have HFK := hide hfk
          clear hfk
          by_cases hc : fk < b2
          · have hd : decide (fk < b2) = true := by simp [hc]
            rw [if_pos hc] at HN
            clear hc
            go_wp2_with (
              at_builtin
              refine wpList_append_ints _ rfl _ _ rfl wr.heap.size _ 0 [] rfl (unhide HE) _ n pc p rfl (unhide HI1) (by omega) (by simp) ?_
              intro v2 w3 ho2 hg2
              rw [Nat.zero_add, List.nil_append] at ho2
              obtain ⟨g, cap, rfl, g1, g2, g3, g4, hrow, hT⟩ := owns_row ho2 n1
              have hb2 := (unhide HB0).trans ((Below.refl wr.heap.size _).grown hg2 (by simp) (fun k hk => ((unhide HE).lt k hk).1))
              have HB3 := hide ((unhide HBr).trans (hb2.mono (unhide HBr).size))
              have hWg : W.heap.size ≤ g := Nat.le_trans (unhide HBr).size g3
              obtain ⟨r1, r2, r3, -⟩ := hrow.at hlt
              have HR4 : Hid (Row wr.heap.size (w3.setCell ⟨g, i, none⟩ (.int .i64 (k : Int))) (some ⟨g, 0, none⟩) n (upd (nth p) i k)) := hrow.set hlt (fun j hj hne => by rw [upd_ne hne]) (by rw [upd_at])
              obtain ⟨w4, hw4⟩ : ∃ w4, w3.setCell ⟨g, i, none⟩ (.int .i64 (k : Int)) = w4 := ⟨_, rfl⟩
              rw [hw4] at HR4
              have HB4 : Hid (Below W.heap.size W w4) := by show Below _ _ _; rw [← hw4]; exact (unhide HB3).setCell (p := ⟨g, i, none⟩) hWg _
              have HI4 : Hid (Ints w4 (some ⟨g, 0, none⟩) n cap (p.set i k)) := (unhide HR4).ints ((unhide HPL i k hlt).1).symm g1 g2 (fun j hj => (unhide HPL i k hlt).2 j)
              have C1 := unhide CC w4 i _ cap _ hlt (unhide HB4) (unhide HI4) (unhide HOS k hlk)
              rw [unhide HF, ← unhide HFK] at C1
              have C1 := hide C1
              have HW4 := hide hw4
              have u0 := (unhide HBX0 _ (unhide HB4)).1
              have u1 := (unhide HBX0 _ (unhide HB4)).2
              rw [← hw4] at u0 u1
              have hgm := g2
              unfold maxLen at hgm
              clear ho2 hg2 hrow hT hb2 hw4
              generalize nth p i = px at *)
            rw [unhide HW4]
            refine (unhide C1).mono ?_
            rintro e w5 ⟨rfl, hb5⟩
            have HB5 := hide ((unhide HB4).trans (hb5.mono (unhide HB4).size))
            clear hb5 u0 u1 w0 w1 k1
            go_wp2
            go_roundw
            case rel => exact ⟨HB5, k + 1, by omega, by go_num, by rw [unhide HN], by rw [unhide HN]⟩
            case measure => simp [intOf]; omega
          · have hd : decide (fk < b2) = false := by simp at hc ⊢; exact hc
            rw [if_neg hc] at HN
            clear hc
            go_wp2_with (
              at_builtin
              refine wpList_append_ints _ rfl _ _ rfl wr.heap.size _ 0 [] rfl (unhide HE) _ n pc p rfl (unhide HI1) (by omega) (by simp) ?_
              intro v2 w3 ho2 hg2
              rw [Nat.zero_add, List.nil_append] at ho2
              obtain ⟨g, cap, rfl, g1, g2, g3, g4, hrow, hT⟩ := owns_row ho2 n1
              have hb2 := (unhide HB0).trans ((Below.refl wr.heap.size _).grown hg2 (by simp) (fun k hk => ((unhide HE).lt k hk).1))
              have HB3 := hide ((unhide HBr).trans (hb2.mono (unhide HBr).size))
              have hWg : W.heap.size ≤ g := Nat.le_trans (unhide HBr).size g3
              obtain ⟨r1, r2, r3, -⟩ := hrow.at hlt
              have HR4 : Hid (Row wr.heap.size (w3.setCell ⟨g, i, none⟩ (.int .i64 (k : Int))) (some ⟨g, 0, none⟩) n (upd (nth p) i k)) := hrow.set hlt (fun j hj hne => by rw [upd_ne hne]) (by rw [upd_at])
              obtain ⟨w4, hw4⟩ : ∃ w4, w3.setCell ⟨g, i, none⟩ (.int .i64 (k : Int)) = w4 := ⟨_, rfl⟩
              rw [hw4] at HR4
              have HB4 : Hid (Below W.heap.size W w4) := by show Below _ _ _; rw [← hw4]; exact (unhide HB3).setCell (p := ⟨g, i, none⟩) hWg _
              have HI4 : Hid (Ints w4 (some ⟨g, 0, none⟩) n cap (p.set i k)) := (unhide HR4).ints ((unhide HPL i k hlt).1).symm g1 g2 (fun j hj => (unhide HPL i k hlt).2 j)
              have C1 := unhide CC w4 i _ cap _ hlt (unhide HB4) (unhide HI4) (unhide HOS k hlk)
              rw [unhide HF, ← unhide HFK] at C1
              have C1 := hide C1
              have HW4 := hide hw4
              have u0 := (unhide HBX0 _ (unhide HB4)).1
              have u1 := (unhide HBX0 _ (unhide HB4)).2
              rw [← hw4] at u0 u1
              have hgm := g2
              unfold maxLen at hgm
              clear ho2 hg2 hrow hT hb2 hw4
              generalize nth p i = px at *)
            rw [unhide HW4]
            refine (unhide C1).mono ?_
            rintro e w5 ⟨rfl, hb5⟩
            have HB5 := hide ((unhide HB4).trans (hb5.mono (unhide HB4).size))
            clear hb5 u0 u1 w0 w1 k1
            go_wp2
            go_roundw
            case rel => exact ⟨HB5, k + 1, by omega, by go_num, by rw [unhide HN], by rw [unhide HN]⟩
            case measure => simp [intOf]; omega
        · obtain rfl : ln = k := by omega
          rw [← unhide HMV]
          rcases unhide HBS l0 ln with hm1 | ⟨t', t1, t2⟩
          · rw [← unhide HMV] at hm1
            rw [hm1]
            have HO2 : Hid (o = nxF G p (n - (i + 1)) (i + 1)) := by show _ = _; rw [unhide HOr, nxF_no hlt (by rw [hm1]; decide)]
            clear hm1
            go_wp2
            go_roundw
            case rel => exact ⟨HBr, i + 1, by omega, by go_num, HO2⟩
            case measure => simp [intOf]; omega
          · rw [← unhide HMV] at t2
            rw [t2]
            have HO2 : Hid (o = some (p.set i t')) := by show _ = _; rw [unhide HOr, nxF_yes hlt (by rw [t2]; omega), t2]
            have hb0 : Below wr.heap.size wr (wr.alloc (.cells #[] 3)) := by go_grown
            have h1 := ((unhide HPW).later (unhide HBr)).later hb0
            have HI1 := hide h1
            have HB0 := hide hb0
            have HE := hide (own_empty wr wr.heap.size (Nat.le_refl _))
            clear h1 hb0 t2
            go_wp2_with (
              at_builtin
              refine wpList_append_ints _ rfl _ _ rfl wr.heap.size _ 0 [] rfl (unhide HE) _ n pc p rfl (unhide HI1) (by omega) (by simp) ?_
              intro v2 w3 ho2 hg2
              rw [Nat.zero_add, List.nil_append] at ho2
              obtain ⟨g, cap, rfl, g1, g2, g3, g4, hrow, hT⟩ := owns_row ho2 n1
              have hb2 := (unhide HB0).trans ((Below.refl wr.heap.size _).grown hg2 (by simp) (fun k hk => ((unhide HE).lt k hk).1))
              have HB3 := hide ((unhide HBr).trans (hb2.mono (unhide HBr).size))
              have hWg : W.heap.size ≤ g := Nat.le_trans (unhide HBr).size g3
              obtain ⟨r1, r2, r3, -⟩ := hrow.at hlt
              have HPO : Hid (NxPost o n w (.returned (.slice (some ⟨g, 0, none⟩) n cap)) (w3.setCell ⟨g, i, none⟩ (.int .i64 (t' : Int)))) := by
                refine ⟨(unhide HBT _ ((unhide HB3).setCell (p := ⟨g, i, none⟩) hWg _)), Or.inr ⟨p.set i t', g, cap, unhide HO2, rfl, Nat.le_trans (unhide HBW).size hWg, ?_, hT.set⟩⟩
                exact (hrow.set hlt (f' := upd (nth p) i t') (fun j hj hne => by rw [upd_ne hne]) (by rw [upd_at])).ints ((unhide HPL i t' hlt).1).symm g1 g2 (fun j hj => (unhide HPL i t' hlt).2 j)
              have hgm := g2
              unfold maxLen at hgm
              clear ho2 hg2 hrow hT hb2
              generalize nth p i = px at *)
            go_ret
            exact unhide HPO
    · obtain rfl : n = i := by omega
      have HBX := hide (unhide HBT _ (unhide HBr))
      have HO2 : Hid (o = none) := by show _ = _; rw [unhide HOr, nxF_end (by omega)]
      go_wp2
      go_ret
      exact ⟨unhide HBX, Or.inl ⟨unhide HO2, rfl⟩⟩
end Go.Proofs.Ytcannknicfnkdaa
