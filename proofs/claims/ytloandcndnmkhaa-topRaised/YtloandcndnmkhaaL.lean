import Derived.Test.YtloandcndnmkhaaK
namespace Go.Proofs.Ytloandcndnmkhaa
open Go.RowKit
/-- How long the raised order is after i rounds. -/
def lnR (a t i : Nat) : Nat := if t < i ∧ i ≤ a then i + 1 else i
set_option maxRecDepth 100000 in
set_option maxHeartbeats 16000000 in
theorem topRaised_any (a : Option Addr) (m c : Nat) (raw : List Int) (xn xm xw xu : Int) (w : World) (h : Ints w a m c raw) (hr : ∀ z ∈ raw, InR z) (hxn : InR xn) (hxm : InR xm) (hxw : InR xw) (hxu : InR xu) :
    Calls Try.prog 6 #[.slice a m c, .int .i64 xn, .int .i64 xm, .int .i64 xw, .int .i64 xu] w fun e w' => e = .returned (.bool true) ∧ Below w.heap.size w w' := by
  have h1 := h.2.1
  have h2 := h.2.2.1
  unfold maxLen at h2
  by_cases h512 : 512 < m
  · have d1 : decide (512 < (m : Int)) = true := decide_eq_true (by omega)
    clear h
    go_enter Try.func6, Try.ntmps6
    go_wp2
    go_ret
    exact ⟨rfl, Below.refl _ _⟩
  have d1 : decide (512 < (m : Int)) = false := decide_eq_false (by omega)
  have HI := hide h
  have HR := hide hr
  clear h hr
  have CN := hide (fun W => pick_any xn 5 hxn (by omega) (by omega) W)
  have CM := hide (fun W => pick_any xm 8 hxm (by omega) (by omega) W)
  go_enter Try.func6, Try.ntmps6
  go_wp2_with fail
  refine (unhide CN _).mono ?_
  rintro e w1 ⟨kn, hkn, rfl, hw1⟩
  subst w1
  obtain ⟨n, hn⟩ : ∃ n, 1 + kn = n := ⟨_, rfl⟩
  have z1 : (1 : Int) + (kn : Int) = (n : Int) := by omega
  have hn6 : n ≤ 6 := by omega
  have hn1 : 0 < n := by omega
  clear hn CN
  go_wp2_with fail
  refine (unhide CM _).mono ?_
  rintro e w1 ⟨km, hkm, rfl, hw1⟩
  subst w1
  obtain ⟨k, hk⟩ : ∃ k, 1 + km = k := ⟨_, rfl⟩
  have z2 : (1 : Int) + (km : Int) = (k : Int) := by omega
  have hk9 : k ≤ 9 := by omega
  have hk1 : 0 < k := by omega
  clear hk CM
  go_wp2_with fail
  refine (ballots_any a m c raw n k w (unhide HI) (unhide HR) (by omega) hn6 hk9).mono ?_
  rintro e w2 ⟨la, lc, L, rfl, hL, hLp, hb2⟩
  have hg : Good n L := good_made hn1 hn6 (by have := hL.1; omega) hLp
  have HG := hide hg
  have HL := hide hL
  have HLP := hide hLp
  have HN := hide hL.1
  have hl1 := hL.2.1
  have hl2 := hL.2.2.1
  unfold maxLen at hl2
  have CS := hide (schulze_any n la k lc L w2 hL hg)
  clear hL hLp hg
  go_wp2_with fail
  refine (unhide CS).mono ?_
  rintro e w3 ⟨sa, sc, rfl, hS, hb3⟩
  unfold two
  have HSN : Hid (∀ z ∈ schL (fw (prf L L.length) n) n n, ∃ i : Nat, i < n ∧ z = i ∧ ∀ j, j < n → fw (prf L L.length) n j i ≤ fw (prf L L.length) n i j) := fun z hz => (schL_mem n).1 hz
  have hsn : 0 < (schL (fw (prf L L.length) n) n n).length := by
    obtain ⟨x, hx, hm⟩ := some_sch (p := prf L L.length) (n := n) (fun u v => (prf_le (unhide HG) u v L.length (Nat.le_refl _)).1) n hn1 (Nat.le_refl _)
    exact List.length_pos_of_mem ((schL_mem n).2 ⟨x, hx, rfl, hm⟩)
  have hs6 : (schL (fw (prf L L.length) n) n n).length ≤ 6 := Nat.le_trans (schL_len _ n n) hn6
  generalize hSL : schL (fw (prf L L.length) n) n n = SL at *
  have HSL := hide hSL
  clear hSL
  have hs1 := hS.2.1
  have hs2 := hS.2.2.1
  unfold maxLen at hs2
  obtain ⟨ns, hns⟩ : ∃ ns, SL.length = ns := ⟨_, rfl⟩
  rw [hns] at hsn hs6 hS hs1 ⊢
  have HNS := hide hns
  clear hns
  obtain ⟨bS, oS, hSa, hbS, hcS⟩ := hS.cellAt hsn
  subst hSa
  have hnz : ((ns : Int) == 0) = false := by simp; omega
  have CU := hide (fun W => pick_val xu ns hxu hsn (by omega) W)
  have hpu := pk_lt xu hsn
  generalize pk xu ns = pu at *
  have hcx := hcS pu hpu
  obtain ⟨x, hxn', hxe, hxs⟩ := unhide HSN (SL[pu]?.getD 0) (getD_mem (by have := unhide HNS; omega))
  rw [hxe] at hcx
  have HXS := hide hxs
  clear hcS hxe hxs HSN
  go_wp2_with fail
  refine (unhide CU _).mono ?_
  rintro e w4 ⟨rfl, hw4⟩
  subst w4
  have CW := hide (fun W => pick_val xw k hxw hk1 (by omega) W)
  have hpw := pk_lt xw hk1
  generalize pk xw k = i0 at *
  have hL3 := (unhide HL).later hb3
  have hi0 : i0 < L.length := by have := unhide HN; omega
  obtain ⟨bL, oL, hLa, hbL, hcL⟩ : ∃ b off, la = some ⟨b, off, none⟩ ∧ b < w3.heap.size ∧ ∀ j, j < k →
      w3.cell? ⟨b, off + j * 2, none⟩ = some (.int .i64 (balAt L j).count) ∧
      w3.cell? ⟨b, off + j * 2 + 1, none⟩ = some (.slice (balAt L j).oa (balAt L j).on (balAt L j).oc) := by
    rcases hL3.2.2.2.2 with hz | hrow
    · omega
    · exact hrow
  subst hLa
  obtain ⟨x1, x2⟩ := hcL i0 hpw
  have hIn := hL3.at hi0
  have hord := ((unhide HG).2.2.2 i0 hi0).1
  have hon : (balAt L i0).on = n := by rw [hIn.1]; exact ord_len hord
  obtain ⟨ap, hap, hai, hao⟩ := ord_place hord hxn'
  have HORD := hide hord
  have HAI := hide hai
  have CPL := hide (fun W (hb : Below w3.heap.size w3 W) => place_any (balAt L i0).oa (balAt L i0).on (balAt L i0).oc (balAt L i0).order x W (hIn.later hb))
  rw [hai] at CPL
  rw [hon] at x2 CPL hIn
  obtain ⟨bO, oO, hO, hbO, hcO⟩ := hIn.cellAt hn1
  have hoc := hIn.2.1
  have hom := hIn.2.2.1
  unfold maxLen at hom
  have HCO := hide hcO
  have HL3 := hide hL3
  have CTO := hide (fun W => pick_val xu (ap + 1) hxu (by omega) (by omega) W)
  have hto := pk_lt xu (show 0 < ap + 1 by omega)
  rw [show ((ap + 1 : Nat) : Int) = (ap : Int) + 1 by omega] at CTO
  generalize pk xu (ap + 1) = tt at *
  rw [hO] at x2 CPL
  generalize (balAt L i0).oc = oc at *
  clear hcL hL3 hIn hord hai hcO
  go_wp2_with fail
  refine (unhide CW _).mono ?_
  rintro e w4 ⟨rfl, hw4⟩
  subst w4
  go_wp2_with fail
  obtain ⟨cn, hcn⟩ : ∃ y, y = (balAt L i0).count := ⟨_, rfl⟩
  rw [← hcn]
  obtain ⟨wB, hwB⟩ : ∃ y, y = w3.alloc (.cells #[.int .i64 cn, .slice (some ⟨bO, oO, none⟩) n oc] 44) := ⟨_, rfl⟩
  have hBB : Below w3.heap.size w3 wB := by rw [hwB]; go_grown
  have hszB : wB.heap.size = w3.heap.size + 1 := by rw [hwB]; simp
  have hx0 : wB.cell? ⟨w3.heap.size, 0, none⟩ = some (.int .i64 cn) := by rw [hwB]; simp
  have hx1 : wB.cell? ⟨w3.heap.size, 1, none⟩ = some (.slice (some ⟨bO, oO, none⟩) n oc) := by rw [hwB]; simp
  rw [← hwB]
  have HCN := hide hcn
  obtain ⟨Bx, hBx⟩ : ∃ b, w3.heap.size = b := ⟨_, rfl⟩
  rw [hBx] at hx0 hx1 ⊢
  have HX := hide (And.intro hx0 hx1)
  have HSZ := hide hszB
  have HBX := hide hBx
  have hBxs : Bx < wB.heap.size := by omega
  refine (unhide CPL _ hBB).mono ?_
  rintro e w4 ⟨rfl, hw4⟩
  subst w4
  clear hx0 hx1 hwB hszB hBx hcn x1 x2
  go_wp2_with fail
  refine (unhide CTO _).mono ?_
  rintro e w4 ⟨rfl, hw4⟩
  subst w4
  have HCB : Hid (∀ W, Below wB.heap.size wB W → W.cell? ⟨Bx, 0, none⟩ = some (.int .i64 cn) ∧ W.cell? ⟨Bx, 1, none⟩ = some (.slice (some ⟨bO, oO, none⟩) n oc) ∧ ∀ j, j < n → W.cell? ⟨bO, oO + j, none⟩ = some (.int .i64 ((balAt L i0).order[j]?.getD 0))) := fun W hW => by
    have hb := hBB.trans (hW.mono hBB.size)
    exact ⟨(hW.cell (p := ⟨Bx, 0, none⟩) hBxs).trans (unhide HX).1, (hW.cell (p := ⟨Bx, 1, none⟩) hBxs).trans (unhide HX).2, fun j hj => (hb.cell (p := ⟨bO, oO + j, none⟩) hbO).trans (unhide HCO j hj)⟩
  have HAO := hide hao
  have HHO := hide hO
  clear hao hO
  generalize hod : (balAt L i0).order = od at *
  have HOD := hide hod
  clear hod
  go_wp2_with fail
  go_loopw [19, 18] (fun i v wr => Below wB.heap.size wB wr ∧ ∃ q : Nat, q ≤ n ∧ i = .int .i64 q ∧ wr.ownsRow wB.heap.size 3 1 v (lnR ap tt q) (intVals ((rL od x ap tt n).take (lnR ap tt q)))) (fun i _ _ => n - (intOf i).toNat)
  case atStart => exact ⟨Below.refl _ _, 0, Nat.zero_le _, rfl, by unfold lnR; rw [if_neg (by omega)]; exact World.ownsRow_nil _ _ _ _⟩
  case round =>
    obtain ⟨hbr, q, hq, rfl, hown⟩ := hrel
    by_cases hlt : q < n
    · have HO := hide hown
      clear hown
      have hlq : lnR ap tt q ≤ q + 1 := by unfold lnR; by_cases cc : tt < q ∧ q ≤ ap <;> simp [cc]
      have HNE : Hid (q ≠ ap → od[q]?.getD 0 ≠ x) := fun hne e => by
        have := idx_uniq (ord_nodup (unhide HORD)) (i := q) (by rw [ord_len (unhide HORD)]; exact hlt) e
        have := unhide HAI
        omega
      have HEQ : Hid (q = ap → od[q]?.getD 0 = x) := fun e => by rw [e]; exact unhide HAO
      have HRD : Hid (∀ z, z < n → (rL od x ap tt n).take (z + 1) = (rL od x ap tt n).take z ++ [rAt od x ap tt z]) := fun z hz => rL_take _ _ _ _ hz
      have HRA : Hid (∀ z, rAt od x ap tt z = if z < tt then od[z]?.getD 0 else if z = tt then (x : Int) else if z ≤ ap then od[z - 1]?.getD 0 else od[z]?.getD 0) := fun z => rfl
      obtain ⟨y, hy⟩ : ∃ y, y = od[q]?.getD 0 := ⟨_, rfl⟩
      have HCQ : Hid (∀ W, Below wB.heap.size wB W → W.cell? ⟨Bx, 1, none⟩ = some (.slice (some ⟨bO, oO, none⟩) n oc) ∧ W.cell? ⟨bO, oO + q, none⟩ = some (.int .i64 y)) := fun W hW => by
        obtain ⟨_, c1, cj⟩ := unhide HCB W hW
        exact ⟨c1, by rw [hy]; exact cj q hlt⟩
      rw [← hy] at HNE HEQ
      have HY := hide hy
      clear hy
      obtain ⟨c1, cq⟩ := unhide HCQ wr hbr
      by_cases hqt : q = tt
      · have hqt2 : ((q : Int) == (tt : Int)) = true := by simp; omega
        have e0 : lnR ap tt q = q := by unfold lnR; rw [if_neg (by omega)]
        have HT1 : Hid ((rL od x ap tt n).take (q + 1) = (rL od x ap tt n).take q ++ [(x : Int)]) := by
          show _ = _
          rw [unhide HRD q hlt, unhide HRA q, if_neg (by omega), if_pos hqt]
        rw [e0] at HO
        clear e0
        by_cases hqa : q = ap
        · have hvb : (y != (x : Int)) = false := by simp [unhide HEQ hqa]
          have e1 : Hid (lnR ap tt (q + 1) = q + 1) := by show _ = _; unfold lnR; rw [if_neg (by omega)]
          clear hqt hqa
          go_wp2_with (at_builtin; refine wpList_append_int _ rfl _ _ rfl wB.heap.size _ _ _ rfl ((unhide HO).alloc _) wr.heap.size (x : Int) rfl (by simp) (by omega) (by have := hbr.size; simp; omega) ?_; intro v2 w2 ho2 hg2; have hb5 := hbr.trans (((Below.refl wB.heap.size wr).alloc hbr.size (.cells #[.int .i64 (x : Int)] 3)).grown hg2 (by have := hbr.size; simp; omega) (fun q hq => ((unhide HO).lt q hq).1)); obtain ⟨c1b, cqb⟩ := unhide HCQ w2 hb5)
          go_roundw
          case rel =>
            refine ⟨hb5, q + 1, by omega, by go_num, ?_⟩
            rw [unhide e1, unhide HT1, intVals_append]
            exact ho2
          case measure => simp [intOf]; omega
        · have hvb : (y != (x : Int)) = true := by simpa using unhide HNE hqa
          have e1 : Hid (lnR ap tt (q + 1) = q + 1 + 1) := by show _ = _; unfold lnR; rw [if_pos (by omega)]
          have HT2 : Hid ((rL od x ap tt n).take (q + 1 + 1) = (rL od x ap tt n).take (q + 1) ++ [y]) := by
            show _ = _
            rw [unhide HRD (q + 1) (by omega), unhide HRA (q + 1), if_neg (by omega), if_neg (by omega), if_pos (by omega), Nat.add_sub_cancel, ← unhide HY]
          clear hqt hqa
          go_wp2_with (first
            | (at_builtin; refine wpList_append_int _ rfl _ _ rfl wB.heap.size _ _ _ rfl ((unhide HO).alloc _) wr.heap.size (x : Int) rfl (by simp) (by omega) (by have := hbr.size; simp; omega) ?_; intro v2 w2 ho2 hg2; have hb5 := hbr.trans (((Below.refl wB.heap.size wr).alloc hbr.size (.cells #[.int .i64 (x : Int)] 3)).grown hg2 (by have := hbr.size; simp; omega) (fun q hq => ((unhide HO).lt q hq).1)); obtain ⟨c1b, cqb⟩ := unhide HCQ w2 hb5)
            | (at_builtin; refine wpList_append_int _ rfl _ _ rfl wB.heap.size _ _ _ rfl (ho2.alloc _) w2.heap.size y rfl (by simp) (by omega) (by have := hb5.size; simp; omega) ?_; intro v3 w6 ho3 hg3; have hb6 := hb5.trans (((Below.refl wB.heap.size w2).alloc hb5.size (.cells #[.int .i64 y] 3)).grown hg3 (by have := hb5.size; simp; omega) (fun q hq => (ho2.lt q hq).1))))
          go_roundw
          case rel =>
            refine ⟨hb6, q + 1, by omega, by go_num, ?_⟩
            rw [unhide e1, unhide HT2, unhide HT1, intVals_append, intVals_append]
            exact ho3
          case measure => simp [intOf]; omega
      · have hqt2 : ((q : Int) == (tt : Int)) = false := by simp; omega
        by_cases hqa : q = ap
        · have hvb : (y != (x : Int)) = false := by simp [unhide HEQ hqa]
          have e1 : Hid (lnR ap tt (q + 1) = lnR ap tt q) := by
            show _ = _
            unfold lnR
            rw [if_neg (by omega), if_pos (by omega)]
          clear hqt hqa
          go_wp2_with fail
          go_roundw
          case rel => exact ⟨hbr, q + 1, by omega, by go_num, by rw [unhide e1]; exact unhide HO⟩
          case measure => simp [intOf]; omega
        · have hvb : (y != (x : Int)) = true := by simpa using unhide HNE hqa
          have e1 : Hid (lnR ap tt (q + 1) = lnR ap tt q + 1) := by
            show _ = _
            unfold lnR
            by_cases cc : tt < q ∧ q ≤ ap
            · rw [if_pos (by omega), if_pos cc]
            · rw [if_neg (by omega), if_neg cc]
          have HT2 : Hid ((rL od x ap tt n).take (lnR ap tt q + 1) = (rL od x ap tt n).take (lnR ap tt q) ++ [y]) := by
            show _ = _
            by_cases cc : tt < q ∧ q ≤ ap
            · have e0 : lnR ap tt q = q + 1 := by unfold lnR; rw [if_pos cc]
              rw [e0, unhide HRD (q + 1) (by omega), unhide HRA (q + 1), if_neg (by omega), if_neg (by omega), if_pos (by omega), Nat.add_sub_cancel, ← unhide HY]
            · have e0 : lnR ap tt q = q := by unfold lnR; rw [if_neg cc]
              rw [e0, unhide HRD q hlt, unhide HRA q]
              by_cases c2 : q < tt
              · rw [if_pos c2, ← unhide HY]
              · rw [if_neg c2, if_neg (by omega), if_neg (by omega), ← unhide HY]
          clear hqt hqa
          go_wp2_with (at_builtin; refine wpList_append_int _ rfl _ _ rfl wB.heap.size _ _ _ rfl ((unhide HO).alloc _) wr.heap.size y rfl (by simp) (by omega) (by have := hbr.size; simp; omega) ?_; intro v2 w2 ho2 hg2; have hb5 := hbr.trans (((Below.refl wB.heap.size wr).alloc hbr.size (.cells #[.int .i64 y] 3)).grown hg2 (by have := hbr.size; simp; omega) (fun q hq => ((unhide HO).lt q hq).1)))
          go_roundw
          case rel =>
            refine ⟨hb5, q + 1, by omega, by go_num, ?_⟩
            rw [unhide e1, unhide HT2, intVals_append]
            exact ho2
          case measure => simp [intOf]; omega
    · obtain rfl : n = q := by omega
      have e1 : lnR ap tt n = n := by unfold lnR; rw [if_neg (by omega)]
      rw [e1, List.take_of_length_le (by rw [rL_len]; exact Nat.le_refl _)] at hown
      clear e1
      obtain ⟨ra, rc, hv, hRI, hRg⟩ := Ints.of_owns hown (by omega)
      subst hv
      obtain ⟨c0, c1, _⟩ := unhide HCB wr hbr
      have hr1 := hRI.2.1
      have hr2 := hRI.2.2.1
      unfold maxLen at hr2
      have HRI := hide hRI
      have HRG := hide hRg
      have dnn : decide ((n : Int) < (n : Int)) = false := decide_eq_false (by omega)
      clear hown hRI hRg
      have hLr : Bals wr (some ⟨bL, oL, none⟩) k lc L := (unhide HL3).later (hBB.trans (hbr.mono hBB.size))
      have HLR := hide hLr
      have HLA : Hid (Bals (wr.alloc (.cells #[] 44)) (some ⟨bL, oL, none⟩) k lc L) := hLr.later (by go_grown)
      have CW2 := CW
      clear hLr
      have hd : ((tt : Int) == (n : Int) - 1) = decide (tt + 1 = n) := by
        by_cases cc : tt + 1 = n
        · rw [decide_eq_true cc]; simp; omega
        · rw [decide_eq_false cc]; simp; omega
      have hn0 : (1 : Int) ≤ (n : Int) := by omega
      cases hdd : decide (tt + 1 = n) <;> rw [hdd] at hd <;>
      · go_wp2_with (at_builtin; refine wpList_append_bals _ rfl _ _ rfl wr.heap.size _ 0 [] rfl (own_emptyB _ _ (Nat.le_refl _)) (some ⟨bL, oL, none⟩) k lc L rfl (unhide HLA) (by omega) (by simp) ?_; intro v9 w9 ho9 hg9)
        simp only [Nat.zero_add, List.nil_append] at ho9
        have hb79 : Below wr.heap.size wr w9 := ((Below.refl wr.heap.size wr).alloc (Nat.le_refl _) (.cells #[] 44)).grown hg9 (by simp) (fun q hq => by cases hq; exact Nat.le_refl _)
        have ho9k := ho9
        rcases ho9.2 with ⟨_, h0⟩ | ⟨g, cap, cur, hv9, hbg, hgg, hnc, hcm, hcs, htake⟩
        · omega
        subst hv9
        have hgs : g < w9.heap.size := (Array.getElem?_eq_some_iff.1 hgg).1
        have HCE : Hid (∀ j, j < k → w9.cell? ⟨g, j * 2, none⟩ = some (.int .i64 (balAt L j).count) ∧ w9.cell? ⟨g, j * 2 + 1, none⟩ = some (.slice (balAt L j).oa (balAt L j).on (balAt L j).oc)) := fun j hj => by
          obtain ⟨h1, h2⟩ := flatB_at L j (by have := unhide HN; omega)
          exact ⟨by rw [ho9k.cellAt (j * 2) (by omega)]; exact h1, by rw [ho9k.cellAt (j * 2 + 1) (by omega)]; exact h2⟩
        have hf0 : w9.drew.frozen? ⟨g, i0 * 2, none⟩ = false := by show w9.frozen? _ = false; simp [World.frozen?, hgg]
        have hf1 : w9.drew.frozen? ⟨g, i0 * 2 + 1, none⟩ = false := by show w9.frozen? _ = false; simp [World.frozen?, hgg]
        obtain ⟨ce0, ce1⟩ := unhide HCE i0 hpw
        have cd0 : w9.drew.cell? ⟨g, i0 * 2, none⟩ = some (.int .i64 (balAt L i0).count) := ce0
        have cd1 : w9.drew.cell? ⟨g, i0 * 2 + 1, none⟩ = some (.slice (balAt L i0).oa (balAt L i0).on (balAt L i0).oc) := ce1
        have cx0 : w9.drew.cell? ⟨Bx, 0, none⟩ = some (.int .i64 cn) := (hb79.cell (p := ⟨Bx, 0, none⟩) (by have := hbr.size; show Bx < _; omega)).trans c0
        have HBS := hide (Bals.set (i0 := i0) (s := ⟨cn, ra, n, rc, rL od x ap tt n⟩) (unhide HLR) hb79 hbg hgs (fun j hj => unhide HCE j hj) hnc hcm hpw ((unhide HRI).later hb79) ((unhide HRG).imp id fun ⟨g', q1, q2, q3⟩ => ⟨g', 0, q3, by omega⟩))
        obtain ⟨hg2, hs2⟩ := raise_one (unhide HG) hi0 hxn' (g := ⟨cn, ra, n, rc, rL od x ap tt n⟩) (a := ap) (t := tt) (by show rL od x ap tt n = _; rw [unhide HOD]) (unhide HCN) (by rw [unhide HOD]; exact unhide HAI) (by omega) (unhide HXS)
        have C16 := hide (schulze_any n (some ⟨g, 0, none⟩) k cap (L.set i0 ⟨cn, ra, n, rc, rL od x ap tt n⟩) _ ((unhide HBS).later (Below.refl _ _).drew) hg2)
        have HMEM : Hid ((x : Int) ∈ schL (fw (prf (L.set i0 ⟨cn, ra, n, rc, rL od x ap tt n⟩) (L.set i0 ⟨cn, ra, n, rc, rL od x ap tt n⟩).length) n) n n) := (schL_mem n).2 ⟨x, hxn', rfl, hs2⟩
        have HBW : Hid (Below wr.heap.size wr ((w9.setCell ⟨g, i0 * 2, none⟩ (.int .i64 cn)).setCell ⟨g, i0 * 2 + 1, none⟩ (.slice ra n rc))) := (hb79.setCell (p := ⟨g, i0 * 2, none⟩) hbg _).setCell (p := ⟨g, i0 * 2 + 1, none⟩) hbg _
        unfold SchPost two at C16
        generalize schL (fw (prf (L.set i0 ⟨cn, ra, n, rc, rL od x ap tt n⟩) (L.set i0 ⟨cn, ra, n, rc, rL od x ap tt n⟩).length) n) n n = TL at *
        unfold maxLen at hcm
        clear ho9 hg9 hgg hcs htake ce0 ce1 ho9k hs2 hg2
        generalize (balAt L i0).oa = q1 at cd1
        generalize (balAt L i0).on = q2 at cd1
        generalize (balAt L i0).oc = q3 at cd1
        generalize (balAt L i0).count = q4 at cd0
        have cs1 : (w9.setCell ⟨g, i0 * 2, none⟩ (.int .i64 cn)).cell? ⟨g, i0 * 2 + 1, none⟩ = some (.slice q1 q2 q3) := by
          rw [World.cell?_setCell_other _ _ _ _ (fun hh => by have := congrArg Addr.off hh; simp at this)]; exact cd1
        have cs2 : (w9.setCell ⟨g, i0 * 2, none⟩ (.int .i64 cn)).drew.cell? ⟨g, i0 * 2 + 1, none⟩ = some (.slice q1 q2 q3) := cs1
        have cs3 : (w9.drew.setCell ⟨g, i0 * 2, none⟩ (.int .i64 cn)).cell? ⟨g, i0 * 2 + 1, none⟩ = some (.slice q1 q2 q3) := cs1
        have cs4 : (w9.setCell ⟨g, i0 * 2, none⟩ (.int .i64 cn)).frozen? ⟨g, i0 * 2 + 1, none⟩ = false := by rw [World.frozen?_setCell]; exact hf1
        have CWD := hide (unhide CW w9.drew)
        refine wp_region_still_tail 9 (by kernel_rfl) (by kernel_rfl) ?_
        simp only [List.take_succ_cons, List.take_zero, List.drop_succ_cons, List.drop_zero]
        show wpStill Try.prog _ w9.drew (fun a' => wpList Try.prog _ _ _ a' w9.drew) _ _
        repeat (first | still_step | still_call (unhide CWD))
        refine wpStill_nil ?_
        go_wp2_with fail
        refine (unhide C16).mono ?_
        rintro e w11 ⟨ta, tc, rfl, hTI, hb11⟩
        have hW11 : Below wr.heap.size wr w11 := (unhide HBW).trans (((Below.refl _ _).drew.trans hb11).mono (unhide HBW).size)
        have CI := in_any ta TL.length tc TL (x : Int) w11 hTI
        have hin : 0 ≤ idxFrom TL (x : Int) 0 := by
          obtain ⟨i, _, q2, _⟩ := idx_of (unhide HMEM)
          omega
        rw [decide_eq_true hin] at CI
        have CI := hide CI
        generalize TL.length = tn at *
        go_wp2_with fail
        refine (unhide CI).mono ?_
        rintro e w12 ⟨rfl, hw12⟩
        subst w12
        go_wp2_with fail
        go_ret
        have hbw3 := hb2.trans (hb3.mono hb2.size)
        have hbwB := hbw3.trans (hBB.mono hbw3.size)
        have hbwr := hbwB.trans (hbr.mono hbwB.size)
        exact ⟨rfl, hbwr.trans (hW11.mono hbwr.size)⟩
end Go.Proofs.Ytloandcndnmkhaa
