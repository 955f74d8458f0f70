import Derived.Test.YtloandcndnmkhaaZ
namespace Go.Proofs.Ytloandcndnmkhaa
open Go.RowKit
theorem ints_one (W : World) (r : Int) : Ints (W.alloc (.cells #[.int .i64 r] 3)) (some ⟨W.heap.size, 0, none⟩) 1 1 [r] := by
  refine ⟨rfl, Nat.le_refl _, by unfold maxLen; omega, .inr ⟨W.heap.size, 0, rfl, by simp, fun j hj => ?_⟩⟩
  obtain rfl : j = 0 := by omega
  simp
set_option maxRecDepth 100000 in
set_option maxHeartbeats 16000000 in
theorem topVotes_any (a : Option Addr) (m c : Nat) (raw : List Int) (xn xm : Int) (b : Option Addr) (m2 c2 : Nat) (raw2 : List Int) (w : World) (h : Ints w a m c raw) (hr : ∀ z ∈ raw, InR z) (hxn : InR xn) (hxm : InR xm) (h' : Ints w b m2 c2 raw2) (hr' : ∀ z ∈ raw2, InR z) (hm : m ≤ 140737488351232) (hm2 : m2 ≤ 140737488351232) :
    Calls Try.prog 5 #[.slice a m c, .int .i64 xn, .int .i64 xm, .slice b m2 c2] w fun e w' => e = .returned (.bool true) ∧ Below w.heap.size w w' := by
  have h1 := h.2.1
  have h2 := h.2.2.1
  have h3 := h'.2.1
  have h4 := h'.2.2.1
  unfold maxLen at h2 h4
  have zs : IntKind.i64.wrap ((m : Int) + (m2 : Int)) = (m : Int) + (m2 : Int) := wrap_in _ (by omega) (by omega)
  by_cases h512 : 512 < m + m2
  · have d1 : decide (512 < (m : Int) + (m2 : Int)) = true := decide_eq_true (by omega)
    clear h h'
    go_enter Try.func5, Try.ntmps5
    go_wp2
    go_ret
    exact ⟨rfl, Below.refl _ _⟩
  have d1 : decide (512 < (m : Int) + (m2 : Int)) = false := decide_eq_false (by omega)
  have HI := hide h
  have HR := hide hr
  have HJ := hide h'
  have HR' := hide hr'
  clear h hr h' hr'
  have CN := hide (fun W => pick_any xn 5 hxn (by omega) (by omega) W)
  have CM := hide (fun W => pick_any xm 9 hxm (by omega) (by omega) W)
  go_enter Try.func5, Try.ntmps5
  go_wp2_with fail
  refine (unhide CN _).mono ?_
  rintro e w1 ⟨kn, hkn, rfl, hw1⟩
  subst w1
  obtain ⟨n, hn⟩ : ∃ n, 1 + kn = n := ⟨_, rfl⟩
  have z1 : (1 : Int) + (kn : Int) = (n : Int) := by omega
  have hn6 : n ≤ 6 := by omega
  have hn1 : 0 < n := by omega
  clear hn CN
  go_wp2_with fail
  refine (unhide CM _).mono ?_
  rintro e w1 ⟨k, hk, rfl, hw1⟩
  subst w1
  clear CM
  go_wp2_with fail
  refine (ballots_any a m c raw n k w (unhide HI) (unhide HR) (by omega) hn6 (by omega)).mono ?_
  rintro e w2 ⟨la, lc, L, rfl, hL, hLp, hb2⟩
  have hg : Good n L := good_made hn1 hn6 (by have := hL.1; omega) hLp
  have HG := hide hg
  have HL := hide hL
  have hl1 := hL.2.1
  have hl2 := hL.2.2.1
  unfold maxLen at hl2
  clear hL hLp hg
  have C1 := hide (condorcet_any n la k lc L w2 (unhide HL) (unhide HG))
  go_wp2_with fail
  refine (unhide C1).mono ?_
  rintro e w3 ⟨r, hcon, rfl, hb3⟩
  unfold two
  have C2 := hide (schulze_any n la k lc L w3 ((unhide HL).later hb3) (unhide HG))
  go_wp2_with fail
  refine (unhide C2).mono ?_
  rintro e w4 ⟨sa, sc, rfl, hS, hb4⟩
  unfold two
  have hb24 := hb3.trans (hb4.mono hb3.size)
  have C3 := hide (smith_any n la k lc L w4 ((unhide HL).later hb24) (unhide HG))
  go_wp2_with fail
  refine (unhide C3).mono ?_
  rintro e w5 ⟨LL, ma, mc, hLL, rfl, hM, hb5⟩
  unfold two
  have hb25 := hb24.trans (hb5.mono hb24.size)
  have C4 := hide (kemeny_any n la k lc L w5 ((unhide HL).later hb25) (unhide HG))
  go_wp2_with fail
  refine (unhide C4).mono ?_
  rintro e w6 ⟨kq, ka, kc, hbest, rfl, hK, hb6⟩
  unfold two
  have hb26 := hb25.trans (hb6.mono hb25.size)
  -- what is known of the four
  have HP0 : Hid (∀ x y, 0 ≤ prf L L.length x y) := fun x y => (prf_le (unhide HG) x y L.length (Nat.le_refl _)).1
  obtain ⟨q0, hq0, hqm, hqle⟩ := bestF_mem (fun o => agS (prf L L.length) o n n) (grL n n []) (grL_some n)
  have hqe : q0 = kq := by rw [hbest] at hq0; cases hq0; rfl
  subst hqe
  have hqo : ordE q0 n = 0 := grL_ord n n [] (by simp) List.nodup_nil (fun x hx => by cases hx) q0 hqm
  have HQLE : Hid (∀ o, ordE o n = 0 → agS (prf L L.length) q0 n n ≤ agS (prf L L.length) o n n) := fun o ho => hqle o (grL_mem ho n [] (by simp) (by simp))
  have HSIN : Hid (∀ z ∈ schL (fw (prf L L.length) n) n n, 0 ≤ idxFrom (smL LL n) z 0) := fun z hz => by
    obtain ⟨i, i1, i2, i3⟩ := (schL_mem n).1 hz
    have hbit := sch_in (unhide HP0) hLL.1 hLL.2.1 hLL.2.2.1 i1 i3
    obtain ⟨j, _, j2, _⟩ := idx_of ((smL_mem n).2 ⟨i, i1, i2, hbit⟩)
    omega
  have hsn : 0 < (schL (fw (prf L L.length) n) n n).length := by
    obtain ⟨x, hx, hm⟩ := some_sch (p := prf L L.length) (n := n) (unhide HP0) n hn1 (Nat.le_refl _)
    exact List.length_pos_of_mem ((schL_mem n).2 ⟨x, hx, rfl, hm⟩)
  have HCON : Hid (0 ≤ r → schL (fw (prf L L.length) n) n n = [r] ∧ smL LL n = [r] ∧ q0[0]?.getD 0 = r) := fun hr0 => by
    rcases hcon with ⟨kk, c1, c2, c3⟩ | ⟨c1, _⟩
    · have e1 := least_one hn6 c1 c3 hLL
      subst e1 c2
      have hst : ∀ i, i < n → stB (fw (prf L L.length) n) i n = true → i = kk := fun i hi hs => by
        have hbit := sch_in (unhide HP0) c3 hLL.2.1 hLL.2.2.1 hi ((stB_iff n).1 hs)
        exact (bit_pow kk (by omega) i (by omega)).1 hbit
      have hk2 : stB (fw (prf L L.length) n) kk n = true := by
        obtain ⟨x, hx, hm⟩ := some_sch (p := prf L L.length) (n := n) (unhide HP0) n hn1 (Nat.le_refl _)
        have := hst x hx ((stB_iff n).2 hm)
        rw [← this]; exact (stB_iff n).2 hm
      refine ⟨?_, sm_pow n (by omega) kk c1, kem_first hn6 c1 c3 hqo (unhide HQLE)⟩
      rw [sch_one hst hk2 n (Nat.le_refl _), if_pos c1]
    · omega
  have hs6 : (schL (fw (prf L L.length) n) n n).length ≤ 6 := Nat.le_trans (schL_len _ n n) hn6
  have hs1 := hS.2.1
  have hs2 := hS.2.2.1
  unfold maxLen at hs2
  have hM1 := hM.2.1
  have hM2 := hM.2.2.1
  unfold maxLen at hM2
  have hK1 := hK.2.1
  have hK2 := hK.2.2.1
  unfold maxLen at hK2
  generalize schL (fw (prf L L.length) n) n n = SL at *
  generalize smL LL n = ML at *
  obtain ⟨ns, hns⟩ : ∃ ns, SL.length = ns := ⟨_, rfl⟩
  rw [hns] at hsn hs6 hS hs1 ⊢
  obtain ⟨nm, hnm⟩ : ∃ nm, ML.length = nm := ⟨_, rfl⟩
  rw [hnm] at hM hM1 ⊢
  have HNS := hide hns
  have HNM := hide hnm
  have hb46 := hb5.trans (hb6.mono hb5.size)
  have hS6 := hS.later hb46
  have hM6 := hM.later hb6
  have HS6 := hide hS6
  have HM6 := hide hM6
  have HK6 := hide hK
  have hnz : ((ns : Int) == 0) = false := by simp; omega
  obtain ⟨bS, oS, hSa, hbS, hcS⟩ := hS6.cellAt hsn
  obtain ⟨bK, oK, hKa, hbK, hcK⟩ := hK.cellAt hn1
  subst hSa hKa
  have HCS := hide hcS
  have hck0 := hcK 0 hn1
  have HBW := hide (hb2.trans (hb26.mono hb2.size))
  have HB26 := hide hb26
  have HQO := hide hqo
  clear hns hnm hcS hcK hS hM hK hS6 hM6 hb3 hb4 hb5 hb6 hb24 hb25 hb46 hb26 hbest hq0 hqm hqle hqo hcon hLL C1 C2 C3 C4
  go_wp2_with fail
  go_loop [18] (fun i => ∃ q : Nat, q ≤ ns ∧ i = .int .i64 q) (fun i => ns - (intOf i).toNat)
  case atStart => exact ⟨0, Nat.zero_le _, rfl⟩
  case round =>
    obtain ⟨q, hq, rfl⟩ := hrel
    by_cases hlt : q < ns
    · have hcq := unhide HCS q hlt
      have hin := unhide HSIN (SL[q]?.getD 0) (getD_mem (by have := unhide HNS; omega))
      have CI := in_any ma nm mc ML (SL[q]?.getD 0) w6 (unhide HM6)
      rw [decide_eq_true hin] at CI
      have CI := hide CI
      clear hin
      generalize SL[q]?.getD 0 = z at *
      go_wp2_with fail
      refine (unhide CI).mono ?_
      rintro e w7 ⟨rfl, hw7⟩
      subst w7
      go_wp2_with fail
      exact ⟨⟨q + 1, by omega, by go_num⟩, by simp [intOf]; omega⟩
    · obtain rfl : ns = q := by omega
      -- the last part, from whatever world behind
      have HEND : Hid (∀ W7, Below w6.heap.size w6 W7 → Bals W7 la k lc L ∧ Ints W7 (some ⟨bK, oK, none⟩) n kc q0 ∧ Below w.heap.size w W7) := fun W7 h7 => ⟨(unhide HL).later ((unhide HB26).trans (h7.mono (unhide HB26).size)), (unhide HK6).later h7, (unhide HBW).trans (h7.mono (unhide HBW).size)⟩
      have HAG : Hid (∀ W7, Below w6.heap.size w6 W7 → Calls Try.prog 22 #[.int .i64 n, .slice la k lc, .slice (some ⟨bK, oK, none⟩) n kc] W7 fun e w' => e = .returned (.tuple #[.int .i64 (agS (prf L L.length) q0 n n), .int .i64 0]) ∧ Below W7.heap.size W7 w') := fun W7 h7 => against_f n la k lc L _ kc q0 W7 (unhide HEND W7 h7).1 (unhide HG) (unhide HEND W7 h7).2.1 (unhide HQO)
      by_cases hr0 : 0 ≤ r
      · obtain ⟨g1, g2, g3⟩ := unhide HCON hr0
        rw [g3] at hck0
        have hr1 : decide (0 ≤ r) = true := decide_eq_true hr0
        have hS6 := unhide HS6
        have hM6 := unhide HM6
        have en : ns = 1 := by rw [← unhide HNS, g1]; rfl
        have em : nm = 1 := by rw [← unhide HNM, g2]; rfl
        subst en em
        have CS1 := same_any (some ⟨bS, oS, none⟩) (some ⟨w6.heap.size, 0, none⟩) 1 sc 1 1 SL [r] (w6.alloc (.cells #[.int .i64 r] 3)) (hS6.later (by go_grown)) (ints_one w6 r)
        rw [decide_eq_true g1] at CS1
        have CS1 := hide CS1
        have HM2 : Hid (∀ W7, Below w6.heap.size w6 W7 → Calls Try.prog 26 #[.slice ma 1 mc, .slice (some ⟨W7.heap.size, 0, none⟩) 1 1] (W7.alloc (.cells #[.int .i64 r] 3)) fun e w' => e = .returned (.bool true) ∧ Below (W7.alloc (.cells #[.int .i64 r] 3)).heap.size (W7.alloc (.cells #[.int .i64 r] 3)) w') := fun W7 h7 => by
          have hbA : Below W7.heap.size W7 (W7.alloc (.cells #[.int .i64 r] 3)) := by go_grown
          have := same_any ma (some ⟨W7.heap.size, 0, none⟩) 1 mc 1 1 ML [r] (W7.alloc (.cells #[.int .i64 r] 3)) ((hM6.later h7).later hbA) (ints_one W7 r)
          rw [decide_eq_true g2] at this
          exact this
        have HK0 : Hid (∀ W7, Below w6.heap.size w6 W7 → W7.cell? ⟨bK, oK + 0, none⟩ = some (.int .i64 r)) := fun W7 h7 => (h7.cell (p := ⟨bK, oK + 0, none⟩) hbK).trans hck0
        clear g1 g2 g3 hS6 hM6 hck0
        go_wp2_with fail
        refine (unhide CS1).mono ?_
        rintro e w7 ⟨rfl, hb7⟩
        have h67 : Below w6.heap.size w6 w7 := (show Below w6.heap.size w6 (w6.alloc (.cells #[.int .i64 r] 3)) by go_grown).trans (hb7.mono (by simp))
        have CS2 := hide (unhide HM2 w7 h67)
        go_wp2_with fail
        refine (unhide CS2).mono ?_
        rintro e w8 ⟨rfl, hb8⟩
        have h78 : Below w7.heap.size w7 w8 := (show Below w7.heap.size w7 (w7.alloc (.cells #[.int .i64 r] 3)) by go_grown).trans (hb8.mono (by simp))
        have h68 := h67.trans (h78.mono h67.size)
        have hk8 := unhide HK0 w8 h68
        rw [Nat.add_zero] at hk8
        have CA1 := hide (unhide HAG w8 h68)
        clear hb7 hb8 h78
        go_wp2_with fail
        refine (unhide CA1).mono ?_
        rintro e w9 ⟨rfl, hb9⟩
        have h69 := h68.trans (hb9.mono h68.size)
        obtain ⟨hL9, _, hbw9⟩ := unhide HEND w9 h69
        have CPM := hide (perm_any b m2 c2 raw2 0 n w9 ((unhide HJ).later hbw9) (unhide HR') (by omega) (by omega) (by omega) hn6)
        go_wp2_with fail
        refine (unhide CPM).mono ?_
        rintro e w10 ⟨v10, l10, rfl, ho10, hp10, hb10⟩
        obtain ⟨a10, c10, hv10, hI10, _⟩ := Ints.of_owns ho10 (by omega)
        subst hv10
        have CA2 := hide (against_f n la k lc L a10 c10 l10 w10 (hL9.later hb10) (unhide HG) hI10 (ord_up hp10))
        unfold two at CA2
        have hle := unhide HQLE l10 (ord_up hp10)
        generalize agS (prf L L.length) q0 n n = s1 at *
        generalize agS (prf L L.length) l10 n n = s2 at *
        have hld : decide (s1 ≤ s2) = true := decide_eq_true hle
        clear ho10 hI10 hp10
        go_wp2_with fail
        refine (unhide CA2).mono ?_
        rintro e w11 ⟨rfl, hb11⟩
        go_wp2_with fail
        go_ret
        have hbw10 := hbw9.trans (hb10.mono hbw9.size)
        exact ⟨rfl, hbw10.trans (hb11.mono hbw10.size)⟩
      · have hr1 : decide (0 ≤ r) = false := decide_eq_false hr0
        have CA1 := hide (unhide HAG w6 (Below.refl _ _))
        clear hck0
        go_wp2_with fail
        refine (unhide CA1).mono ?_
        rintro e w9 ⟨rfl, hb9⟩
        obtain ⟨hL9, _, hbw9⟩ := unhide HEND w9 hb9
        have CPM := hide (perm_any b m2 c2 raw2 0 n w9 ((unhide HJ).later hbw9) (unhide HR') (by omega) (by omega) (by omega) hn6)
        go_wp2_with fail
        refine (unhide CPM).mono ?_
        rintro e w10 ⟨v10, l10, rfl, ho10, hp10, hb10⟩
        obtain ⟨a10, c10, hv10, hI10, _⟩ := Ints.of_owns ho10 (by omega)
        subst hv10
        have CA2 := hide (against_f n la k lc L a10 c10 l10 w10 (hL9.later hb10) (unhide HG) hI10 (ord_up hp10))
        unfold two at CA2
        have hle := unhide HQLE l10 (ord_up hp10)
        generalize agS (prf L L.length) q0 n n = s1 at *
        generalize agS (prf L L.length) l10 n n = s2 at *
        have hld : decide (s1 ≤ s2) = true := decide_eq_true hle
        clear ho10 hI10 hp10
        go_wp2_with fail
        refine (unhide CA2).mono ?_
        rintro e w11 ⟨rfl, hb11⟩
        go_wp2_with fail
        go_ret
        have hbw10 := hbw9.trans (hb10.mono hbw9.size)
        exact ⟨rfl, hbw10.trans (hb11.mono hbw10.size)⟩
end Go.Proofs.Ytloandcndnmkhaa
