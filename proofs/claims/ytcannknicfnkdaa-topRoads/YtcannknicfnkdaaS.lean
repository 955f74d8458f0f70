import Derived.Test.YtcannknicfnkdaaQ
namespace Go.Proofs.Ytcannknicfnkdaa
open Go.RowKit
set_option maxHeartbeats 1000000 in
theorem same_any (a a' : Option Addr) (n c n' c' : Nat) (l m : List Int) (w : World) (h : Ints w a n c l) (h' : Ints w a' n' c' m) :
    Calls Try.prog 20 #[.slice a n c, .slice a' n' c'] w fun e w' => e = .returned (.bool (decide (l = m))) ∧ Below w.heap.size w w' := by
  obtain ⟨hn, hc, hm, h⟩ := h
  obtain ⟨hn', hc', hm', h'⟩ := h'
  unfold maxLen at hm hm'
  have HN : Hid (n = l.length) := hn
  have HN' : Hid (n' = m.length) := hn'
  clear hn hn'
  by_cases hnn : n = n'
  · subst hnn
    have HL : Hid (decide (l = m) = eqFrom l m 0) := (eqFrom_eq (HN.out.symm.trans HN'.out)).symm
    rcases h with h0 | ⟨b, off, rfl, hb, hcell⟩
    · subst h0
      go_enter Try.func20, Try.ntmps20
      go_wp2
      refine wp_loop_rounds 1 ?_
      rw [rounds_succ]
      go_wp2
      go_ret
      exact ⟨ret_bool (by rw [HL.out, eqFrom_end (by have := HN.out; omega)]), Below.refl _ _⟩
    · rcases h' with h0 | ⟨b', off', rfl, hb', hcell'⟩
      · subst h0
        go_enter Try.func20, Try.ntmps20
        go_wp2
        refine wp_loop_rounds 1 ?_
        rw [rounds_succ]
        go_wp2
        go_ret
        exact ⟨ret_bool (by rw [HL.out, eqFrom_end (by have := HN.out; omega)]), Below.refl _ _⟩
      · go_enter Try.func20, Try.ntmps20
        go_wp2
        go_loopw [5] (fun i wr => Below w.heap.size w wr ∧ ∃ k : Nat, k ≤ n ∧ i = .int .i64 k ∧ eqFrom l m 0 = eqFrom l m k) (fun i _ => n - (intOf i).toNat)
        case atStart => exact ⟨Below.refl _ _, 0, Nat.zero_le _, rfl, rfl⟩
        case round =>
          obtain ⟨hbr, k, hk, rfl, hn⟩ := hrel
          have HI : Hid (eqFrom l m 0 = eqFrom l m k) := hn
          clear hn
          by_cases hlt : k < n
          · have hck := (hbr.cell (p := ⟨b, off + k, none⟩) hb).trans (hcell k hlt)
            have hck' := (hbr.cell (p := ⟨b', off' + k, none⟩) hb').trans (hcell' k hlt)
            clear hcell hcell'
            by_cases q : l[k]?.getD 0 = m[k]?.getD 0
            · have HQ : Hid (l[k]?.getD 0 = m[k]?.getD 0) := q
              rw [← q] at hck'
              clear q
              go_wp2
              go_quiet (fail)
              go_wp2
              go_roundw
              case rel => exact ⟨hbr.trans (below_drewN _ _ _), k+1, by omega, by go_num, by rw [HI.out]; exact eqFrom_yes (by have := HN.out; omega) HQ.out⟩
              case measure => simp [intOf]; omega
            · go_wp2
              go_quiet (fail)
              go_wp2
              go_ret
              refine ⟨ret_bool ?_, hbr.trans (below_drewN _ _ _)⟩
              rw [HL.out, HI.out]; exact (eqFrom_no (by have := HN.out; omega) q).symm
          · go_wp2
            go_ret
            exact ⟨ret_bool (by rw [HL.out, HI.out, eqFrom_end (by have := HN.out; omega)]), hbr⟩
  · have HL : Hid (decide (l = m) = false) := decide_eq_false (fun e => hnn (by rw [HN.out, HN'.out, e]))
    have hnn' : ¬ (n : Int) = (n' : Int) := by omega
    go_enter Try.func20, Try.ntmps20
    go_wp2
    go_ret
    exact ⟨ret_bool HL.out.symm, Below.refl _ _⟩
theorem kE_ok {n : Nat} : ∀ {L : List Sl}, (∀ s ∈ L, s.ln = n ∧ s.ints.any badK = false) → kE n L = 0
  | [], _ => rfl
  | s :: t, h => by
    have a := h s (List.mem_cons_self ..)
    unfold kE
    rw [if_pos a.1, if_neg (by rw [a.2]; decide)]
    exact kE_ok (fun x hx => h x (List.mem_cons_of_mem _ hx))
theorem cE_ok {m : Nat} : ∀ {L : List Sl}, (∀ s ∈ L, ¬ (s.ln < 1 ∨ 5 < s.ln) ∧ s.ints.any (badC m) = false) → cE m L = 0
  | [], _ => rfl
  | s :: t, h => by
    have a := h s (List.mem_cons_self ..)
    unfold cE
    rw [if_neg a.1, if_neg (by rw [a.2]; decide)]
    exact cE_ok (fun x hx => h x (List.mem_cons_of_mem _ hx))
theorem slAt_of {L : List Sl} {s : Sl} (h : s ∈ L) : ∃ j, j < L.length ∧ slAt L j = s := by
  obtain ⟨j, hj, e⟩ := List.getElem_of_mem h
  exact ⟨j, hj, by unfold slAt; rw [List.getElem?_eq_getElem hj, e]; rfl⟩
theorem Rds.zero {C K : List Sl} {n m : Nat} (h : Rds C K n m) (hC : ∀ s ∈ C, s.ln = s.ints.length) (hK : ∀ s ∈ K, s.ln = s.ints.length) : rE C K = 0 := by
  have h1 := h.lC
  have h2 := h.lK
  have n1 := h.n1
  have n5 := h.n5
  have m6 := h.m6
  unfold rE
  rw [if_neg (by omega), h1, h2, kE_ok, if_pos rfl, cE_ok]
  · intro s hs
    obtain ⟨j, hj, rfl⟩ := slAt_of hs
    have a := h.cl j (by omega)
    refine ⟨by omega, any_no fun q hq => badC_no ?_⟩
    have b := h.cb j (by omega) q (by rw [hC _ hs]; exact hq)
    unfold nth at b
    omega
  · intro s hs
    obtain ⟨j, hj, rfl⟩ := slAt_of hs
    refine ⟨h.kl j (by omega), any_no fun q hq => badK_no ?_⟩
    have b := h.ok j (by omega) q (by rw [← h.kl j (by omega), hK _ hs]; exact hq)
    unfold co nth at b
    omega
theorem Rds.azero {C K : List Sl} {n m : Nat} (h : Rds C K n m) (hC : ∀ s ∈ C, s.ln = s.ints.length) (hK : ∀ s ∈ K, s.ln = s.ints.length) {p : List Int} (hp : OkP C n p) : aE C K p = 0 :=
  aE_o (h.zero hC hK) (by rw [hp.1, h.lC]) (fun i hi => by have := hp.2 i (by rw [← hp.1]; exact hi); omega)
/-- What Settle answers, as TopRoads looks at it. -/
theorem SPost.look {C K : List Sl} {n m : Nat} {p : List Int} {w : World} {v : Value} (h : SPost C K n m p w v) (hR : Rds C K n m) (hp : OkP C n p) : ∃ va vc LL q, v = .slice va LL.length vc ∧ Lsts w va LL.length vc LL ∧ 1 ≤ LL.length ∧ LL.length ≤ 60000 ∧ (slAt LL 0).ints = p ∧ (slAt LL (LL.length - 1)).ints = q ∧ (slAt LL (LL.length - 1)).ln = n ∧ OkP C n q ∧ nx C K n m q = none := by
  obtain ⟨va, vc, LL, M, q, a, b, c, d, e⟩ := h
  have hl : LL.length = M.length + 1 := by have := congrArg List.length c; simpa [lists] using this
  have h3 := d.len hp hR.ok hR.n5 hR.m6
  have h4 := Path.ok hp M.length q (by have := d M.length (by simp); simpa using this)
  have key : ∀ j x, (M ++ [q])[j]? = some x → (slAt LL j).ints = x := fun j x hx => by
    rw [← c] at hx
    unfold lists at hx
    rw [List.getElem?_map] at hx
    unfold slAt
    cases hy : LL[j]? with
    | none => rw [hy] at hx; cases hx
    | some s => rw [hy] at hx; simpa using hx
  have h5 : (slAt LL (LL.length - 1)).ints = q := key _ _ (by rw [hl, Nat.add_sub_cancel]; simp)
  have h6 : (slAt LL 0).ints = p := by
    have h0 := d 0 (by simp)
    have h00 : some p = some ((M ++ [q])[0]?.getD []) := h0
    cases hz : (M ++ [q])[0]? with
    | none => rw [List.getElem?_eq_none_iff] at hz; simp at hz
    | some x =>
      rw [hz] at h00
      rw [key 0 x hz]
      simpa using h00.symm
  refine ⟨va, vc, LL, q, a, b, by omega, by simp at h3; omega, h6, h5, ?_, h4.1, e⟩
  rw [b.lens _ (slAt_mem (show LL.length - 1 < LL.length by omega)), h5]
  exact h4.1.1
set_option maxRecDepth 100000 in
set_option maxHeartbeats 16000000 in
theorem top_any (a : Option Addr) (rn c : Nat) (l : List Int) (pl rdv : Int) (ta : Option Addr) (tn tc : Nat) (tl : List Int) (who kk : Int) (w : World) (h : Ints w a rn c l) (hR : ∀ x ∈ l, InR x) (h' : Ints w ta tn tc tl) (hR' : ∀ x ∈ tl, InR x) (hpl : InR pl) (hrdv : InR rdv) (hwho : InR who) (hkk : InR kk) (hrb : rn ≤ 140737488351232) (htb : tn ≤ 140737488351232) :
    Calls Try.prog 4 #[.slice a rn c, .int .i64 pl, .int .i64 rdv, .slice ta tn tc, .int .i64 who, .int .i64 kk] w fun e w' => e = .returned (.bool true) ∧ Below w.heap.size w w' := by
  have r1 := h.2.1
  have r2 := h.2.2.1
  have t1 := h'.2.1
  have t2 := h'.2.2.1
  unfold maxLen at r2 t2
  by_cases hbig : 256 < rn + tn
  · have hb1 : decide (256 < (rn : Int) + (tn : Int)) = true := by simp; omega
    clear h h' hR hR'
    go_enter Try.func4, Try.ntmps4
    go_wp2
    go_ret
    exact ⟨rfl, Below.refl _ _⟩
  · obtain ⟨n, hn⟩ : ∃ n : Nat, n = 1 + pkN pl 4 := ⟨_, rfl⟩
    obtain ⟨m, hm⟩ : ∃ m : Nat, m = 1 + pkN rdv 5 := ⟨_, rfl⟩
    have hn4 := pkN_lt pl (n := 4) (by omega)
    have hm5 := pkN_lt rdv (n := 5) (by omega)
    have C1 := pick_val pl 4 hpl (by omega) (by omega) w
    have C2 := pick_val rdv 5 hrdv (by omega) (by omega) w
    have n1 : 1 ≤ n := by omega
    have n4 : n ≤ 4 := by omega
    have m1 : 1 ≤ m := by omega
    have m5 : m ≤ 5 := by omega
    obtain ⟨u1, hu1⟩ : ∃ u, u = pkN pl 4 := ⟨_, rfl⟩
    obtain ⟨u2, hu2⟩ : ∃ u, u = pkN rdv 5 := ⟨_, rfl⟩
    rw [← hu1] at C1 hn hn4
    rw [← hu2] at C2 hm hm5
    have e1 : (1 : Int) + (u1 : Int) = (n : Int) := by omega
    have e2 : (1 : Int) + (u2 : Int) = (m : Int) := by omega
    have C1 := hide C1
    have C2 := hide C2
    have C3 := hide (roadsOf_any a rn c l n m w h hR (by omega) n1 n4 m1 m5)
    have HAT : Hid (∀ W, Below w.heap.size w W → ∀ k, k ≤ 1000 → Calls Try.prog 19 #[.slice ta tn tc, .int .i64 (k : Nat)] W fun e w' => e = .returned (.int .i64 (atV tl k)) ∧ w' = W) := fun W hW k hk => at_val ta tn tc tl k W (h'.later hW) hk (by omega)
    have HPK : Hid (∀ W k N, 0 < N → N ≤ 3000 → Calls Try.prog 17 #[.int .i64 (atV tl k), .int .i64 (N : Nat)] W fun e w' => e = .returned (.int .i64 (pkN (atV tl k) N)) ∧ w' = W) := fun W k N h0 h1 => pick_val (atV tl k) N (atV_in hR' k) h0 h1 W
    have HPW : Hid (∀ W N, 0 < N → N ≤ 3000 → Calls Try.prog 17 #[.int .i64 who, .int .i64 (N : Nat)] W fun e w' => e = .returned (.int .i64 (pkN who N)) ∧ w' = W) := fun W N h0 h1 => pick_val who N hwho h0 h1 W
    have HPX : Hid (∀ W N, 0 < N → N ≤ 3000 → Calls Try.prog 17 #[.int .i64 kk, .int .i64 (N : Nat)] W fun e w' => e = .returned (.int .i64 (pkN kk N)) ∧ w' = W) := fun W N h0 h1 => pick_val kk N hkk h0 h1 W
    clear hn hm hu1 hu2 h h' hR hR' hpl hrdv hwho hkk
    unfold rV at C3
    have hb1 : decide (256 < (rn : Int) + (tn : Int)) = false := by simp; omega
    go_enter Try.func4, Try.ntmps4
    go_wp2_with fail
    refine (unhide C1).mono ?_
    rintro e w2 ⟨rfl, hw2⟩
    subst w2
    go_wp2_with fail
    refine (unhide C2).mono ?_
    rintro e w2 ⟨rfl, hw2⟩
    subst w2
    go_wp2_with fail
    refine (unhide C3).mono ?_
    rintro e w2 ⟨ca, cc, C, ka, kc, K, rfl, hC, hK, hRd, hbw⟩
    obtain ⟨W, hW, hbW, hlt0, hbox⟩ := box_cells (w := w2) ca n cc ka m kc
    have HW := hide hW
    have HBX0 := hide hbox
    have HBT := hide (fun (wr : World) (hb : Below W.heap.size W wr) => Below.trans hbw (((hbW.trans (hb.mono hbW.size))).mono hbw.size))
    have hCW := hC.later hbW
    have hKW := hK.later hbW
    have HAZ := hide (fun (q : List Int) (hq : OkP C n q) => hRd.azero hC.lens hK.lens hq)
    have C7 : Hid (∀ wr qa qc q, Below W.heap.size W wr → Ints wr qa n qc q → OkP C n q → Calls Try.prog 7 #[.agg #[.slice ca n cc, .slice ka m kc], .slice qa n qc] wr fun e w' => ∃ va vc, e = .returned (two (.slice va n vc) 0) ∧ Ints w' va n vc (lF n (fun i => cs C K n q i m)) ∧ Below wr.heap.size wr w') := fun wr qa qc q hb hq hO => cost7_ok ca n cc C ka m kc K qa qc q wr (hCW.later hb) (hKW.later hb) hq hRd hO (unhide HAZ q hO)
    have C8 : Hid (∀ wr qa qc q, Below W.heap.size W wr → Ints wr qa n qc q → OkP C n q → Calls Try.prog 8 #[.agg #[.slice ca n cc, .slice ka m kc], .slice qa n qc] wr fun e w' => e = .returned (two (.int .i64 (hg C K n q m)) 0) ∧ Below wr.heap.size wr w') := fun wr qa qc q hb hq hO => height_ok ca n cc C ka m kc K qa qc q wr (hCW.later hb) (hKW.later hb) hq hRd hO (unhide HAZ q hO)
    have C9 : Hid (∀ wr qa qc q, Below W.heap.size W wr → Ints wr qa n qc q → OkP C n q → Calls Try.prog 9 #[.agg #[.slice ca n cc, .slice ka m kc], .slice qa n qc] wr fun e w' => ∃ v, e = .returned (two v 0) ∧ SPost C K n m q w' v ∧ Below wr.heap.size wr w') := fun wr qa qc q hb hq hO => settle_ok ca n cc C ka m kc K qa qc q wr (hCW.later hb) (hKW.later hb) hq hRd hO (unhide HAZ q hO)
    have HCB : Hid (∃ cb co', ca = some ⟨cb, co', none⟩ ∧ ∀ i, i < n → (slAt C i).ln ≤ 5 ∧ 1 ≤ (slAt C i).ln ∧ (slAt C i).ln ≤ (slAt C i).lc ∧ (slAt C i).lc ≤ 2 ^ 63 - 1 ∧ ∀ wr, Below W.heap.size W wr → wr.cell? ⟨cb, co' + i, none⟩ = some (.slice (slAt C i).la (slAt C i).ln (slAt C i).lc)) := by
      obtain ⟨cb, co', e, hcb, hcc⟩ := hCW.cellAt n1
      exact ⟨cb, co', e, fun i hi => ⟨(hRd.cl i hi).2, (hRd.cl i hi).1, (hCW.mem hi).2.1, (hCW.mem hi).2.2.1, fun wr hb => (hb.cell (p := ⟨cb, co' + i, none⟩) hcb).trans (hcc i hi)⟩⟩
    have c1 := hC.2.1
    have c2 := hC.2.2.1
    have q1 := hK.2.1
    have q2 := hK.2.2.1
    unfold maxLen at c2 q2
    have HRd := hide hRd
    have HBw := hide hbw
    have HBW := hide hbW
    obtain ⟨cb, co', eca, hcb⟩ := unhide HCB
    subst eca
    have HCB := hide hcb
    clear hC hK hW hlt0 hbox hCW hKW hcb hRd e1 e2 hb1 C1 C2 C3
    go_wp2_with fail
    rw [unhide HW]
    unfold two at *
    clear hbw hbW
    go_loopw [14, 15] (fun v i wr => Hid (Below W.heap.size W wr) ∧ ∃ (k : Nat) (p : List Int), k ≤ n ∧ i = .int .i64 k ∧ Hid (wr.ownsRow W.heap.size 3 1 v k (intVals p)) ∧ Hid (∀ j, j < k → 0 ≤ nth p j ∧ nth p j < (slAt C j).ln)) (fun _ i _ => n - (intOf i).toNat)
    case atStart => exact ⟨Below.refl _ _, 0, [], Nat.zero_le _, rfl, World.ownsRow_nil _ _ _ _, fun j hj => by omega⟩
    case round =>
      obtain ⟨HBr, i, p, hi, rfl, HR, HPP⟩ := hrel
      by_cases hlt : i < n
      · obtain ⟨l5, l1, l2, l3, hcell⟩ := unhide HCB i hlt
        have HBX := hide (Below.trans (unhide HBw) (((unhide HBW).trans ((unhide HBr).mono (unhide HBW).size)).mono (unhide HBw).size))
        have hbdr : Below wr.heap.size wr wr.drew := (Below.refl _ _).drew
        have hBd := (unhide HBr).trans (hbdr.mono (unhide HBr).size)
        have k1 := hcell _ hBd
        have w0 := (unhide HBX0 _ hBd).1
        have w1 := (unhide HBX0 _ hBd).2
        have k1r := hcell _ (unhide HBr)
        have w0r := (unhide HBX0 _ (unhide HBr)).1
        have w1r := (unhide HBX0 _ (unhide HBr)).2
        obtain ⟨ln, eln⟩ : ∃ ln, (slAt C i).ln = ln := ⟨_, rfl⟩
        obtain ⟨y, hy⟩ : ∃ y, y = atV tl i := ⟨_, rfl⟩
        obtain ⟨z, hz⟩ : ∃ z : Nat, z = pkN y ln := ⟨_, rfl⟩
        have hzl := pkN_lt y (n := ln) (by omega)
        rw [← hz] at hzl
        have C3 := unhide HAT wr.drew ((unhide HBX).trans (hbdr.mono (unhide HBX).size)) i (by omega)
        have C4 := unhide HPK wr.drew i ln (by omega) (by omega)
        rw [← hy, ← hz] at C4
        rw [← hy] at C3
        have C3 := hide C3
        have C4 := hide C4
        have hbal : Below wr.heap.size wr (wr.alloc (.cells #[.int .i64 (z : Int)] 3)).drew := (show Below wr.heap.size wr (wr.alloc (.cells #[.int .i64 (z : Int)] 3)) by go_grown).drew
        have HO2 := hide (owns_later (unhide HR) hbal)
        have HBAL := hide hbal
        have hszd : W.heap.size ≤ (wr.alloc (.cells #[.int .i64 (z : Int)] 3)).drew.heap.size := Nat.le_trans (unhide HBr).size hbal.size
        have hpl : p.length = i := by have := (unhide HR).1; rw [intVals_len] at this; omega
        have HNP : Hid (∀ j, j < i + 1 → 0 ≤ nth (p ++ [(z : Int)]) j ∧ nth (p ++ [(z : Int)]) j < (slAt C j).ln) := fun j hj => by
          by_cases e : j < i
          · have := unhide HPP j e
            unfold nth at this ⊢
            rw [List.getElem?_append_left (by omega)]
            exact this
          · obtain rfl : j = i := by omega
            unfold nth
            rw [List.getElem?_append_right (by omega), hpl, Nat.sub_self]
            rw [eln]
            show 0 ≤ (z : Int) ∧ (z : Int) < (ln : Int)
            omega
        rw [eln] at l5 l1 l2 k1 k1r
        generalize (slAt C i).la = la at *
        generalize (slAt C i).lc = lc at *
        clear hcell hy hz hbdr hbal hBd eln hpl
        go_wp2_with fail
        go_region_law (first
          | (refine step_at _ rfl (.tmp 54) (.tmp 55) rfl (.slice ta tn tc) (.int .i64 (i : Int)) (.int .i64 y) (by simp [Act.eval, Act.put]) (by simp [Act.eval, Act.put]) (unhide C3) ?_)
          | (refine step_pick _ rfl (.tmp 56) (.tmp 62) rfl (.int .i64 y) (.int .i64 (ln : Int)) (.int .i64 (z : Int)) (by simp [Act.eval, Act.put]) (by simp [Act.eval, Act.put]) (unhide C4) ?_)
          | (refine step_append_int1 _ rfl (.tmp 53) (.tmp 64) rfl W.heap.size _ i p (by simp [Act.eval]) (unhide HO2) wr.heap.size 1 (z : Int) (by simp [Act.eval]) (by simp) (by omega) hszd ?_; intro v2 w3 ho2 hg2 _))
        all_goals
          go_wp2_with fail
          go_roundw
          case rel =>
            have hb5 := ((Below.refl W.heap.size _).grown hg2 hszd (fun q hq => ((unhide HO2).lt q hq).1))
            exact ⟨((unhide HBr).trans ((unhide HBAL).mono (unhide HBr).size)).trans hb5, i + 1, p ++ [(z : Int)], by omega, by go_num, ho2, HNP⟩
          case measure => simp [intOf]; omega
      · obtain rfl : n = i := by omega
        have hpl : p.length = n := by have := (unhide HR).1; rw [intVals_len] at this; omega
        have HO : Hid (OkP C n p) := ⟨hpl, unhide HPP⟩
        obtain ⟨g0, cap0, ev, g01, g02, g03, g04, hrow0, hT0⟩ := owns_row (unhide HR) n1
        subst ev
        have HI0 : Hid (Ints wr (some ⟨g0, 0, none⟩) n cap0 p) := hrow0.ints hpl.symm g01 g02 (fun j hj => rfl)
        have hg02 := g02
        unfold maxLen at hg02
        obtain ⟨i0, hi0⟩ : ∃ i0, i0 = pkN who n := ⟨_, rfl⟩
        have hi0n := pkN_lt who (n := n) (by omega)
        have CW := unhide HPW wr n (by omega) (by omega)
        rw [← hi0] at CW hi0n
        obtain ⟨l5, l1, l2, l3, hcell⟩ := unhide HCB i0 hi0n
        obtain ⟨ln, eln⟩ : ∃ ln, (slAt C i0).ln = ln := ⟨_, rfl⟩
        obtain ⟨z, hz⟩ : ∃ z : Nat, z = pkN kk ln := ⟨_, rfl⟩
        have hzl := pkN_lt kk (n := ln) (by omega)
        have CX : Hid (∀ W', Calls Try.prog 17 #[.int .i64 kk, .int .i64 (ln : Int)] W' fun e w' => e = .returned (.int .i64 (z : Int)) ∧ w' = W') := fun W' => by rw [hz]; exact unhide HPX W' ln (by omega) (by omega)
        rw [← hz] at hzl
        have HOQ : Hid (OkP C n (p.set i0 z)) := (unhide HO).set hi0n (by omega) (by rw [eln]; omega)
        have HROS : Hid (hg C K n (p.set i0 z) m - hg C K n p m = cs C K n (p.set i0 z) i0 m - cs C K n p i0 m) := rosenthal C K n p (p.set i0 z) i0 hi0n (fun j hj hne => by rw [nth_set (by rw [hpl]; exact hi0n), if_neg hne]) m
        have HPL : Hid (∀ x : Int, (p.set i0 x).length = n ∧ ∀ j, upd (nth p) i0 x j = nth (p.set i0 x) j) := fun x => ⟨by rw [List.length_set]; exact hpl, nth_upd (by rw [hpl]; exact hi0n)⟩
        have CW := hide CW
        rw [eln] at l5 l1 l2 hcell
        generalize (slAt C i0).la = la at *
        generalize (slAt C i0).lc = lc at *
        have HCELL := hide hcell
        have hb0 : Below wr.heap.size wr (wr.alloc (.cells #[] 3)) := by go_grown
        have HI1 := hide ((unhide HI0).later hb0)
        have HB0 := hide hb0
        have HE := hide (own_empty wr wr.heap.size (Nat.le_refl _))
        clear hi0 hz eln hrow0 hT0 hpl hb0 HR HPP HPW HPX HAT HPK
        go_wp2_with fail
        refine (unhide CW).mono ?_
        rintro e w3 ⟨rfl, hw3⟩
        subst w3
        go_wp2_with (
          at_builtin
          refine wpList_append_ints _ rfl _ _ rfl wr.heap.size _ 0 [] rfl (unhide HE) _ n cap0 p rfl (unhide HI1) (by omega) (by simp) ?_
          intro v2 w3 ho2 hg2
          rw [Nat.zero_add, List.nil_append] at ho2
          obtain ⟨g, cap, rfl, g1, g2, g3, g4, hrow, hT⟩ := owns_row ho2 n1
          have hb2 := (unhide HB0).trans ((Below.refl wr.heap.size _).grown hg2 (by simp) (fun k hk => ((unhide HE).lt k hk).1))
          have HB3 := hide ((unhide HBr).trans (hb2.mono (unhide HBr).size))
          have HI3 := hide ((unhide HI0).later hb2)
          have hWg : W.heap.size ≤ g := Nat.le_trans (unhide HBr).size g3
          obtain ⟨r1, r2, r3, -⟩ := hrow.at hi0n
          have v0 := (unhide HBX0 _ (unhide HB3)).1
          have v1 := (unhide HBX0 _ (unhide HB3)).2
          have vc := unhide HCELL _ (unhide HB3)
          have HG0 : Hid (g0 < g) := Nat.lt_of_lt_of_le g04 g3
          have HRW := hide hrow
          have hgm := g2
          unfold maxLen at hgm
          clear ho2 hg2 hrow hT hb2)
        refine (unhide CX _).mono ?_
        rintro e w4 ⟨rfl, hw4⟩
        subst w4
        have HR4 : Hid (Row wr.heap.size (w3.setCell ⟨g, i0, none⟩ (.int .i64 (z : Int))) (some ⟨g, 0, none⟩) n (upd (nth p) i0 z)) := (unhide HRW).set hi0n (fun j hj hne => by rw [upd_ne hne]) (by rw [upd_at])
        obtain ⟨w4, hw4⟩ : ∃ w4, w3.setCell ⟨g, i0, none⟩ (.int .i64 (z : Int)) = w4 := ⟨_, rfl⟩
        rw [hw4] at HR4
        have HB4 : Hid (Below W.heap.size W w4) := by show Below _ _ _; rw [← hw4]; exact (unhide HB3).setCell (p := ⟨g, i0, none⟩) hWg _
        have HIq : Hid (Ints w4 (some ⟨g, 0, none⟩) n cap (p.set i0 z)) := (unhide HR4).ints ((unhide HPL z).1).symm g1 g2 (fun j hj => (unhide HPL z).2 j)
        have HIp : Hid (Ints w4 (some ⟨g0, 0, none⟩) n cap0 p) := by show Ints _ _ _ _ _; rw [← hw4]; exact (unhide HI3).other (fun b o e => by cases e; have := unhide HG0; omega)
        have HW4 := hide hw4
        have u0 := (unhide HBX0 _ (unhide HB4)).1
        have u1 := (unhide HBX0 _ (unhide HB4)).2
        rw [← hw4] at u0 u1
        have CA := hide (unhide C7 w4 _ _ _ (unhide HB4) (unhide HIp) (unhide HO))
        clear hw4 HR4 HRW
        go_wp2_with fail
        rw [unhide HW4]
        refine (unhide CA).mono ?_
        rintro e w5 ⟨xa, xc, rfl, hIx, hb5⟩
        have HB5 := hide ((unhide HB4).trans (hb5.mono (unhide HB4).size))
        have HIp := hide ((unhide HIp).later hb5)
        have HIq := hide ((unhide HIq).later hb5)
        have HIx := hide hIx
        clear hIx
        clear hb5 u0 u1 CA HB4
        have u0 := (unhide HBX0 _ (unhide HB5)).1
        have u1 := (unhide HBX0 _ (unhide HB5)).2
        have CA := hide (unhide C7 w5 _ _ _ (unhide HB5) (unhide HIq) (unhide HOQ))
        go_wp2_with fail
        refine (unhide CA).mono ?_
        rintro e w6 ⟨ya, yc, rfl, hIy, hb6⟩
        have HB6 := hide ((unhide HB5).trans (hb6.mono (unhide HB5).size))
        have HIp := hide ((unhide HIp).later hb6)
        have HIq := hide ((unhide HIq).later hb6)
        have HIx := hide ((unhide HIx).later hb6)
        have HIy := hide hIy
        clear hIy
        clear hb6 u0 u1 CA HB5
        have u0 := (unhide HBX0 _ (unhide HB6)).1
        have u1 := (unhide HBX0 _ (unhide HB6)).2
        have CA := hide (unhide C8 w6 _ _ _ (unhide HB6) (unhide HIp) (unhide HO))
        go_wp2_with fail
        refine (unhide CA).mono ?_
        rintro e w7 ⟨rfl, hb7⟩
        have HB7 := hide ((unhide HB6).trans (hb7.mono (unhide HB6).size))
        have HIp := hide ((unhide HIp).later hb7)
        have HIq := hide ((unhide HIq).later hb7)
        have HIx := hide ((unhide HIx).later hb7)
        have HIy := hide ((unhide HIy).later hb7)
        clear hb7 u0 u1 CA HB6
        have u0 := (unhide HBX0 _ (unhide HB7)).1
        have u1 := (unhide HBX0 _ (unhide HB7)).2
        have CA := hide (unhide C8 w7 _ _ _ (unhide HB7) (unhide HIq) (unhide HOQ))
        go_wp2_with fail
        refine (unhide CA).mono ?_
        rintro e w8 ⟨rfl, hb8⟩
        have HB8 := hide ((unhide HB7).trans (hb8.mono (unhide HB7).size))
        have HIp := hide ((unhide HIp).later hb8)
        have HIx := hide ((unhide HIx).later hb8)
        have HIy := hide ((unhide HIy).later hb8)
        clear hb8 u0 u1 CA HB7
        have u0 := (unhide HBX0 _ (unhide HB8)).1
        have u1 := (unhide HBX0 _ (unhide HB8)).2
        obtain ⟨xb, xo, exa, hxb, hxc⟩ := (unhide HIx).nth n1
        obtain ⟨yb, yo, eya, hyb, hyc⟩ := (unhide HIy).nth n1
        have hxi := hxc i0 hi0n
        have hyi := hyc i0 hi0n
        rw [lF_at hi0n] at hxi hyi
        have hx1 := (unhide HIx).2.1
        have hx2 := (unhide HIx).2.2.1
        have hy1 := (unhide HIy).2.1
        have hy2 := (unhide HIy).2.2.1
        unfold maxLen at hx2 hy2
        subst exa eya
        have bX := cs_bd (C := C) (unhide HRd).ok p i0 hi0n m (Nat.le_refl _)
        have bY := cs_bd (C := C) (unhide HRd).ok (p.set i0 z) i0 hi0n m (Nat.le_refl _)
        have bM := hg_bd (C := C) (unhide HRd).ok p (by omega) m (Nat.le_refl _)
        have bN := hg_bd (C := C) (unhide HRd).ok (p.set i0 z) (by omega) m (Nat.le_refl _)
        have hros := unhide HROS
        have C9p := hide (fun w9 hb hI => unhide C9 w9 (some ⟨g0, 0, none⟩) cap0 p hb hI (unhide HO))
        have HSN : Hid (∀ la0 ln0 lc0 w9, Ints w9 la0 ln0 lc0 p → Ints w9 (some ⟨g0, 0, none⟩) n cap0 p → Calls Try.prog 20 #[.slice la0 ln0 lc0, .slice (some ⟨g0, 0, none⟩) n cap0] w9 fun e w' => e = .returned (.bool true) ∧ Below w9.heap.size w9 w') := fun la0 ln0 lc0 w9 h1 h2 => by
          have := same_any la0 (some ⟨g0, 0, none⟩) ln0 lc0 n cap0 p p w9 h1 h2
          rw [decide_eq_true rfl] at this
          exact this
        clear hxc hyc HIx HIy HROS HOQ HPL CX HIq
        generalize cs C K n p i0 m = X at *
        generalize cs C K n (p.set i0 z) i0 m = Y at *
        generalize hg C K n p m = Mh at *
        generalize hg C K n (p.set i0 z) m = Nh at *
        have hbe : ((Y - X) == (Nh - Mh)) = true := by simp; omega
        have hwY : IntKind.i64.wrap (Y - X) = Y - X := wrap_in _ (by omega) (by omega)
        have hwN : IntKind.i64.wrap (Nh - Mh) = Nh - Mh := wrap_in _ (by omega) (by omega)
        clear hros
        go_wp2_with fail
        go_quiet (fail)
        have HB9 : Hid (Below W.heap.size W (w8.drewN nq)) := (unhide HB8).trans (below_drewN _ _ _)
        have HIp := hide ((unhide HIp).later (below_drewN _ _ nq))
        clear u0 u1 hxi hyi
        obtain ⟨w9, hw9⟩ : ∃ w9, w8.drewN nq = w9 := ⟨_, rfl⟩
        rw [hw9] at HB9 HIp
        rw [hw9]
        clear hw9
        have u0 := (unhide HBX0 _ (unhide HB9)).1
        have u1 := (unhide HBX0 _ (unhide HB9)).2
        have CA := hide (unhide C9p w9 (unhide HB9) (unhide HIp))
        go_wp2_with fail
        refine (unhide CA).mono ?_
        rintro e wa ⟨vl, rfl, hsp, hba⟩
        have HBa := hide ((unhide HB9).trans (hba.mono (unhide HB9).size))
        have HIp := hide ((unhide HIp).later hba)
        obtain ⟨va, vc, LL, q, rfl, hL, len1, len2, hl0, hlq, hln, hOq, hnx⟩ := hsp.look (unhide HRd) (unhide HO)
        have hv1 := hL.2.1
        have hv2 := hL.2.2.1
        unfold maxLen at hv2
        obtain ⟨lb, lo, eva, hlb, hlc⟩ := hL.cellAt len1
        subst eva
        have hc0 := hlc 0 len1
        have hcL := hlc (LL.length - 1) (by omega)
        have hI0 := hL.mem (k := 0) len1
        have hIL := hL.mem (k := LL.length - 1) (by omega)
        rw [hl0] at hI0
        rw [hlq, hln] at hIL
        rw [hln] at hcL
        have h01 := hI0.2.1
        have h02 := hI0.2.2.1
        unfold maxLen at h02
        obtain ⟨z0, ez0⟩ : ∃ s, s = slAt LL 0 := ⟨_, rfl⟩
        rw [← ez0] at hc0 hI0 h01 h02
        obtain ⟨z1, ez1⟩ : ∃ s, s = slAt LL (LL.length - 1) := ⟨_, rfl⟩
        rw [← ez1] at hcL hIL
        obtain ⟨a0, n0, e0, f0⟩ := z0
        obtain ⟨aq, nq', cq, fq⟩ := z1
        simp only at hc0 hI0 h01 h02 hcL hIL
        rw [Nat.add_zero] at hc0
        obtain ⟨L1, eL1⟩ : ∃ L1, LL.length - 1 = L1 := ⟨_, rfl⟩
        obtain ⟨len, eL⟩ : ∃ len, LL.length = len := ⟨_, rfl⟩
        rw [eL1] at hcL
        rw [eL] at hv1 len1 len2
        rw [eL]
        have hL1 : L1 < len := by omega
        have hwr : IntKind.i64.wrap ((len : Int) - 1) = (L1 : Int) := by rw [wrap_in _ (by omega) (by omega)]; omega
        have hlz : ((len : Int) == 0) = false := by simp; omega
        have HIL := hide hIL
        have HNX := hide hnx
        have HOq := hide hOq
        have CS := hide (unhide HSN a0 n0 e0 wa hI0 (unhide HIp))
        have C7q := hide (fun wb hb hI => unhide C7 wb aq cq q hb hI (unhide HOq))
        have hcq1 := hIL.2.1
        have hcq2 := hIL.2.2.1
        unfold maxLen at hcq2
        have HCL : Hid (∀ wb, Below wa.heap.size wa wb → wb.cell? ⟨lb, lo + L1, none⟩ = some (.slice aq n cq)) := fun wb hb => (hb.cell (p := ⟨lb, lo + L1, none⟩) hlb).trans hcL
        clear hba u0 u1 CA HB9 hsp HB8 hL hlc hI0 hl0 hlq hln ez0 ez1 eL eL1 hnx hOq hIL hlb hcL HSN C9p
        go_wp2_with fail
        refine (unhide CS).mono ?_
        rintro e wb ⟨rfl, hbb⟩
        have HBb := hide ((unhide HBa).trans (hbb.mono (unhide HBa).size))
        have hcL := unhide HCL _ hbb
        have HIL := hide ((unhide HIL).later hbb)
        clear hbb CS HCL hc0 HBa
        have u0 := (unhide HBX0 _ (unhide HBb)).1
        have u1 := (unhide HBX0 _ (unhide HBb)).2
        have CA := hide (unhide C7q wb (unhide HBb) (unhide HIL))
        go_wp2_with fail
        refine (unhide CA).mono ?_
        rintro e wc ⟨za, zc, rfl, hIz, hbc⟩
        have HBc := hide ((unhide HBb).trans (hbc.mono (unhide HBb).size))
        have HIL := hide ((unhide HIL).later hbc)
        have HIz := hide hIz
        obtain ⟨zb, zo, eza, hzb, hzc⟩ := hIz.nth n1
        have hz1 := hIz.2.1
        have hz2 := hIz.2.2.1
        unfold maxLen at hz2
        subst eza
        have HZC : Hid (∀ wr, Below wc.heap.size wc wr → ∀ i, i < n → wr.cell? ⟨zb, zo + i, none⟩ = some (.int .i64 (cs C K n q i m))) := fun wr hb i hi => by
          rw [(hb.cell (p := ⟨zb, zo + i, none⟩) hzb), hzc i hi, lF_at hi]
        have HOS : Hid (∀ i, i < n → ∀ k : Nat, k < (slAt C i).ln → OkP C n (q.set i k)) := fun i hi k hk => (unhide HOq).set hi (by omega) (by omega)
        have HLE : Hid (∀ i, i < n → ∀ k : Nat, k < (slAt C i).ln → cs C K n q i m ≤ cs C K n (q.set i k) i m) := fun i hi k hk => nx_none (unhide HNX) hi hk
        have HQL : Hid (∀ (i : Nat) (x : Int), i < n → (q.set i x).length = n ∧ ∀ j, upd (nth q) i x j = nth (q.set i x) j) := fun i x hi => ⟨by rw [List.length_set]; exact (unhide HOq).1, nth_upd (by rw [(unhide HOq).1]; exact hi)⟩
        clear hbc u0 u1 CA HBb hcL hIz hzc hzb HIz C7q
        clear hbe hwY hwN bX bY bM bN
        go_wp2
        go_loopw [28, 29, 30, 31, 32] (fun i' _ _ _ _ wr => Hid (Below wc.heap.size wc wr) ∧ ∃ i : Nat, i ≤ n ∧ i' = .int .i64 i) (fun i' _ _ _ _ _ => n - (intOf i').toNat)
        case atStart => exact ⟨Below.refl _ _, 0, Nat.zero_le _, rfl⟩
        case round =>
          obtain ⟨HBs, i, hi, rfl⟩ := hrel
          by_cases hlt : i < n
          · obtain ⟨j5, j1, j2, j3, hcell⟩ := unhide HCB i hlt
            have HCELL := hide hcell
            have HOS := hide (unhide HOS i hlt)
            have HLE := hide (unhide HLE i hlt)
            clear hcell
            obtain ⟨S, eS⟩ : ∃ S, S = slAt C i := ⟨_, rfl⟩
            rw [← eS] at HCELL HOS HLE j5 j1 j2 j3
            clear eS
            obtain ⟨sla, sln, slc, sli⟩ := S
            simp only at HCELL HOS HLE j5 j1 j2 j3
            go_wp2
            go_loopw [29, 30, 31, 32] (fun k' _ _ _ wr => Hid (Below wc.heap.size wc wr) ∧ ∃ k : Nat, k ≤ sln ∧ k' = .int .i64 k) (fun k' _ _ _ _ => sln - (intOf k').toNat)
            case atStart => exact ⟨HBs, 0, Nat.zero_le _, rfl⟩
            case round =>
              clear HBs
              obtain ⟨HBs, k, hk, rfl⟩ := hrel
              have HBx := hide ((unhide HBc).trans ((unhide HBs).mono (unhide HBc).size))
              have u0 := (unhide HBX0 _ (unhide HBx)).1
              have u1 := (unhide HBX0 _ (unhide HBx)).2
              have hce := unhide HCELL _ (unhide HBx)
              by_cases hlk : k < sln
              · have hb0 : Below wr.heap.size wr (wr.alloc (.cells #[] 3)) := by go_grown
                have HI1 := hide (((unhide HIL).later (unhide HBs)).later hb0)
                have HB0 := hide hb0
                have HE := hide (own_empty wr wr.heap.size (Nat.le_refl _))
                have hle := unhide HLE k hlk
                have bZ := cs_bd (C := C) (unhide HRd).ok q i hlt m (Nat.le_refl _)
                obtain ⟨Z, eZ⟩ : ∃ Z, Z = cs C K n q i m := ⟨_, rfl⟩
                obtain ⟨Y2, eY⟩ : ∃ Y, Y = cs C K n (q.set i k) i m := ⟨_, rfl⟩
                rw [← eZ, ← eY] at hle
                have HEZ := hide eZ
                have HEY := hide eY
                clear hb0 eZ eY bZ
                go_wp2_with (
                  at_builtin
                  refine wpList_append_ints _ rfl _ _ rfl wr.heap.size _ 0 [] rfl (unhide HE) _ n cq q rfl (unhide HI1) (by omega) (by simp) ?_
                  intro v2 wd ho2 hg2
                  rw [Nat.zero_add, List.nil_append] at ho2
                  obtain ⟨gg, cap2, rfl, y1, y2, y3, y4, hrow, hT⟩ := owns_row ho2 n1
                  have hb2 := (unhide HB0).trans ((Below.refl wr.heap.size _).grown hg2 (by simp) (fun k hk => ((unhide HE).lt k hk).1))
                  have HB3 := hide ((unhide HBs).trans (hb2.mono (unhide HBs).size))
                  have hWg2 : wc.heap.size ≤ gg := Nat.le_trans (unhide HBs).size y3
                  obtain ⟨s1, s2, s3, -⟩ := hrow.at hlt
                  have HR4 : Hid (Row wr.heap.size (wd.setCell ⟨gg, i, none⟩ (.int .i64 (k : Int))) (some ⟨gg, 0, none⟩) n (upd (nth q) i k)) := hrow.set hlt (fun j hj hne => by rw [upd_ne hne]) (by rw [upd_at])
                  obtain ⟨we, hwe⟩ : ∃ we, wd.setCell ⟨gg, i, none⟩ (.int .i64 (k : Int)) = we := ⟨_, rfl⟩
                  rw [hwe] at HR4
                  have HB4 : Hid (Below wc.heap.size wc we) := by show Below _ _ _; rw [← hwe]; exact (unhide HB3).setCell (p := ⟨gg, i, none⟩) hWg2 _
                  have HBy := hide ((unhide HBc).trans ((unhide HB4).mono (unhide HBc).size))
                  have HI4 : Hid (Ints we (some ⟨gg, 0, none⟩) n cap2 (q.set i k)) := (unhide HR4).ints ((unhide HQL i k hlt).1).symm y1 y2 (fun j hj => (unhide HQL i k hlt).2 j)
                  have CZ := hide (unhide C7 we _ cap2 _ (unhide HBy) (unhide HI4) (unhide HOS k hlk))
                  have HWE := hide hwe
                  have x0 := (unhide HBX0 _ (unhide HBy)).1
                  have x1 := (unhide HBX0 _ (unhide HBy)).2
                  rw [← hwe] at x0 x1
                  have hgm2 := y2
                  unfold maxLen at hgm2
                  clear ho2 hg2 hrow hT hb2 hwe
                  generalize nth q i = px at *)
                rw [unhide HWE]
                refine (unhide CZ).mono ?_
                rintro e wf ⟨fa, fc, rfl, hIf, hbf⟩
                have HBf := hide ((unhide HB4).trans (hbf.mono (unhide HB4).size))
                obtain ⟨fb, fo, efa, hfb, hfc⟩ := hIf.nth n1
                have hf1 := hIf.2.1
                have hf2 := hIf.2.2.1
                unfold maxLen at hf2
                subst efa
                have hfi := hfc i hlt
                rw [lF_at hlt, ← unhide HEY] at hfi
                have hzi := unhide HZC _ (unhide HBf) i hlt
                rw [← unhide HEZ] at hzi
                have hdd : decide (Y2 < Z) = false := by simp; omega
                clear hbf hIf hfc u0 u1 hce x0 x1 CZ hfb
                go_wp2_with fail
                go_quiet (fail)
                go_wp2
                go_roundw
                case rel => exact ⟨(unhide HBf).trans (below_drewN _ _ _), k + 1, by omega, by go_num⟩
                case measure => simp [intOf]; omega
              · obtain rfl : sln = k := by omega
                go_wp2
                go_roundw
                case rel => exact ⟨HBs, i + 1, by omega, by go_num⟩
                case measure => simp [intOf]; omega
          · obtain rfl : n = i := by omega
            have HBZ := hide (unhide HBT _ ((unhide HBc).trans ((unhide HBs).mono (unhide HBc).size)))
            go_wp2
            go_ret
            exact ⟨rfl, unhide HBZ⟩
end Go.Proofs.Ytcannknicfnkdaa
