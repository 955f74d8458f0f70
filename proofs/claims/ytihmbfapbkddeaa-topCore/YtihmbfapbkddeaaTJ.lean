import Derived.Test.YtihmbfapbkddeaaTI
namespace Go.Proofs.Ytihmbfapbkddeaa
open Go.RowKit
theorem own_empty23 (W : World) (base : Nat) (h : base ≤ W.heap.size) : (W.alloc (.cells #[] 23)).ownsRow base 23 1 (.slice (some ⟨W.heap.size, 0, none⟩) 0 0) 0 (slVals []) :=
  World.ownsRow_made (base := base) (e := 23) (size := 1) W #[] 0 h (by unfold maxLen; omega) rfl
theorem slAt_set {L : List Sl} {i j : Nat} {s : Sl} (hi : i < L.length) : slAt (L.set i s) j = if j = i then s else slAt L j := by
  unfold slAt
  rw [List.getElem?_set]
  by_cases e : i = j
  · rw [if_pos e, if_pos hi, if_pos e.symm]; rfl
  · rw [if_neg e, if_neg (Ne.symm e)]
/-- One list of a row of one's own is changed for another. -/
theorem Lsts.set {w0 w : World} {wa : Option Addr} {wc g n c i0 : Nat} {WL : List Sl} {s : Sl} (h : Lsts w0 wa n wc WL) (hb : Below w0.heap.size w0 w) (hg : w0.heap.size ≤ g) (hgs : g < w.heap.size)
    (hc : ∀ j, j < n → w.cell? ⟨g, j, none⟩ = some (.slice (slAt WL j).la (slAt WL j).ln (slAt WL j).lc)) (hnc : n ≤ c) (hcm : c ≤ maxLen) (hi : i0 < n)
    (hs : Ints w s.la s.ln s.lc s.ints) (hsa : s.ln = 0 ∨ ∃ b off, s.la = some ⟨b, off, none⟩ ∧ b ≠ g) : Lsts (w.setCell ⟨g, i0, none⟩ (.slice s.la s.ln s.lc)) (some ⟨g, 0, none⟩) n c (WL.set i0 s) := by
  have hl := h.1
  have hbW := hb.setCell (p := ⟨g, i0, none⟩) hg (.slice s.la s.ln s.lc)
  have hsW : Ints (w.setCell ⟨g, i0, none⟩ (.slice s.la s.ln s.lc)) s.la s.ln s.lc s.ints := by
    obtain ⟨h1, h2, h3, h4⟩ := hs
    refine ⟨h1, h2, h3, ?_⟩
    rcases hsa with h0 | ⟨b, off, e, hne⟩
    · exact .inl h0
    · rcases h4 with h0 | ⟨b', off', e', hlt, hcell⟩
      · exact .inl h0
      · rw [e] at e'
        cases e'
        exact .inr ⟨b, off, e, by simpa using hlt, fun j hj => by rw [World.cell?_setCell_other _ _ _ _ (by intro hh; cases hh; exact hne rfl)]; exact hcell j hj⟩
  refine ⟨by simp [hl], hnc, hcm, fun t ht => ?_, .inr ⟨g, 0, rfl, by simpa using hgs, fun j hj => ?_⟩⟩
  · rcases List.mem_or_eq_of_mem_set ht with h1 | h1
    · exact (h.2.2.2.1 t h1).later hbW
    · subst h1; exact hsW
  · rw [Nat.zero_add, slAt_set (by omega)]
    by_cases e : j = i0
    · subst e
      rw [if_pos rfl]
      exact World.cell?_setCell_same' _ _ _ (by rw [hc j hj]; rfl)
    · rw [if_neg e, World.cell?_setCell_other _ _ _ _ (by intro hh; cases hh; exact e rfl)]
      exact hc j hj
set_option maxRecDepth 100000 in
set_option maxHeartbeats 8000000 in
theorem topCore_any (a : Option Addr) (m c : Nat) (raw : List Int) (x : Int) (b : Option Addr) (m2 c2 : Nat) (raw2 : List Int) (y : Int) (w : World) (h : Ints w a m c raw) (hr : ∀ z ∈ raw, InR z) (hx : InR x) (h' : Ints w b m2 c2 raw2) (hr' : ∀ z ∈ raw2, InR z) (hy : InR y) (hm : m ≤ 140737488351232) (hm2 : m2 ≤ 140737488351232) :
    Calls Try.prog 6 #[.slice a m c, .int .i64 x, .slice b m2 c2, .int .i64 y] w fun e w' => e = .returned (.bool true) ∧ Below w.heap.size w w' := by
  have h1 := h.2.1
  have h2 := h.2.2.1
  have h3 := h'.2.1
  have h4 := h'.2.2.1
  unfold maxLen at h2 h4
  have zs : IntKind.i64.wrap ((m : Int) + (m2 : Int)) = (m : Int) + (m2 : Int) := wrap_in _ (by omega) (by omega)
  by_cases h256 : 256 < m + m2
  · have d1 : decide (256 < (m : Int) + (m2 : Int)) = true := decide_eq_true (by omega)
    clear h h'
    go_enter Try.func6, Try.ntmps6
    go_wp2
    go_ret
    exact ⟨rfl, Below.refl _ _⟩
  have d1 : decide (256 < (m : Int) + (m2 : Int)) = false := decide_eq_false (by omega)
  have HI := hide h
  have HR := hide hr
  have HJ := hide h'
  have HR' := hide hr'
  have CP := hide (pick_any x 5 hx (by omega) (by omega) w)
  clear h hr h' hr'
  go_enter Try.func6, Try.ntmps6
  go_wp2_with fail
  refine (unhide CP).mono ?_
  rintro e w1 ⟨k, hk, rfl, hw1⟩
  subst w1
  have z1 : (1 : Int) + (k : Int) = ((1 + k : Nat) : Int) := by simp
  obtain ⟨n, hn⟩ : ∃ n, 1 + k = n := ⟨_, rfl⟩
  rw [hn] at z1
  have hn6 : n ≤ 6 := by omega
  have hn1 : 0 < n := by omega
  clear hn CP
  go_wp2_with fail
  refine (wishes_any a m c raw n w (unhide HI) (unhide HR) (by omega) hn6).mono ?_
  rintro e w2 ⟨wa, wc, WL, rfl, hW, hWL, hb2⟩
  have HN := hide hW.1
  have hz : tE WL n = 0 := tE_zero hn6 fun i hi => by
    have : slAt WL i ∈ WL := slAt_mem (by have := unhide HN; omega)
    exact ord_up (hWL _ this).2
  have C8 := hide (rounds_any n wa wc WL w2 hW)
  have HWL := hide hWL
  have HW := hide hW
  have HZ := hide hz
  have hw1 := hW.2.1
  have hw2 := hW.2.2.1
  unfold maxLen at hw2
  clear hW hWL hz
  go_wp2_with fail
  refine (unhide C8).mono ?_
  rintro e w3 ⟨hb3, hp | ⟨_, a3, c3, T, kk, rfl, hI3, hre, hdo⟩⟩
  · exact absurd (unhide HZ) hp.1
  unfold two
  have D1 := core_any n wa wc WL a3 n c3 (gotL T n) w3 ((unhide HW).later hb3) hI3
  rw [cor_yes (unhide HN) (unhide HZ) hre hdo] at D1
  unfold three at D1
  have C15 := hide D1
  have HI3 := hide hI3
  have HRE := hide (And.intro hre hdo)
  have h3c := hI3.2.1
  have h3m := hI3.2.2.1
  unfold maxLen at h3m
  clear D1 hI3 hre hdo C8
  go_wp2_with (go_at_call 15; refine (unhide C15).mono ?_; rintro e w4 ⟨rfl, hb4⟩)
  have hbA := hb2.trans (hb3.mono hb2.size)
  have hbB := hbA.trans (hb4.mono hbA.size)
  refine (perm_any b m2 c2 raw2 0 n w4 ((unhide HJ).later hbB) (unhide HR') (by omega) (by omega) (by omega) hn6).mono ?_
  rintro e w5 ⟨v5, l5, rfl, ho5, hp5, hb5⟩
  obtain ⟨a5, c5, hv5, hI5, _⟩ := Ints.of_owns ho5 (by omega)
  subst hv5
  have hbC := hbB.trans (hb5.mono hbB.size)
  have hw25 : Below w2.heap.size w2 w5 := (hb3.trans (hb4.mono hb3.size)).trans (hb5.mono (hb3.trans (hb4.mono hb3.size)).size)
  have hw35 : Below w3.heap.size w3 w5 := hb4.trans (hb5.mono hb4.size)
  obtain ⟨s5, hs5⟩ := cor_is (unhide HN) (unhide HZ) (unhide HRE).1 (unhide HRE).2 (ord_up hp5)
  have D2 := core_any n wa wc WL a5 n c5 l5 w5 ((unhide HW).later hw25) hI5
  rw [hs5] at D2
  unfold three at D2
  have C15b := hide D2
  have CSM := hide (fun W (hb : Below w5.heap.size w5 W) => same_any a3 a5 n c3 n c5 (gotL T n) l5 W ((unhide HI3).later (hw35.trans (hb.mono hw35.size))) (hI5.later hb))
  clear D2 hs5 ho5 hI5
  generalize decide (gotL T n = l5) = bb at *
  have HLS : Hid (∀ W6 W7, Below w5.heap.size w5 W6 → Below W6.heap.size W6 W7 → Lsts (W7.alloc (.cells #[] 23)) wa n wc WL) := fun W6 W7 h6 h7 => by
    have h8 : Below W7.heap.size W7 (W7.alloc (.cells #[] 23)) := by go_grown
    have h9 := hw25.trans (h6.mono hw25.size)
    have h10 := h9.trans (h7.mono h9.size)
    exact (unhide HW).later (h10.trans (h8.mono h10.size))
  have CPy := hide (fun W => pick_any y n hy hn1 (by omega) W)
  cases bb <;>
  · go_wp2_with (first | (go_at_call 15; refine (unhide C15b).mono ?_; rintro e w6 ⟨rfl, hb6⟩) | (go_at_call 22; refine (unhide CSM _ hb6).mono ?_; rintro e w7 ⟨rfl, hb7⟩) | (go_at_call 17; refine (unhide CPy _).mono ?_; rintro e w8 ⟨i0, hi0, rfl, hw8⟩; subst w8) | ((at_builtin; refine wpList_append_lsts _ rfl _ _ rfl w7.heap.size _ 0 [] rfl (own_empty23 _ _ (Nat.le_refl _)) wa n wc WL rfl (unhide HLS _ _ hb6 hb7) (by omega) (by simp) ?_; intro v9 w9 ho9 hg9)))
    simp only [Nat.zero_add, List.nil_append] at ho9
    have hb79 : Below w7.heap.size w7 w9 := ((Below.refl w7.heap.size w7).alloc (Nat.le_refl _) (.cells #[] 23)).grown hg9 (by simp) (fun q hq => by cases hq; exact Nat.le_refl _)
    have hb57 : Below w5.heap.size w5 w7 := hb6.trans (hb7.mono hb6.size)
    have hb27 : Below w2.heap.size w2 w7 := hw25.trans (hb57.mono hw25.size)
    have hbw7 : Below w.heap.size w w7 := hbC.trans (hb57.mono hbC.size)
    have hbw9 : Below w.heap.size w w9 := hbw7.trans (hb79.mono hbw7.size)
    have hW7 : Lsts w7 wa n wc WL := (unhide HW).later hb27
    rcases ho9.2 with ⟨_, h0⟩ | ⟨g, cap, cur, hv9, hbg, hgg, hnc, hcm, hcs, htake⟩
    · omega
    subst hv9
    have hgs : g < w9.heap.size := (Array.getElem?_eq_some_iff.1 hgg).1
    have HCE : Hid (∀ j, j < n → w9.cell? ⟨g, j, none⟩ = some (.slice (slAt WL j).la (slAt WL j).ln (slAt WL j).lc)) := fun j hj => by
      rw [ho9.cellAt j (by omega), slVals_at WL j (by have := unhide HN; omega)]
    have hfr : w9.frozen? ⟨g, i0, none⟩ = false := by simp [World.frozen?, hgg]
    clear ho9 hg9 hgg hcs htake HLS CSM C15b CPy
    refine (perm_any b m2 c2 raw2 5 n w9 ((unhide HJ).later hbw9) (unhide HR') (by omega) (by omega) (by omega) hn6).mono ?_
    rintro e w10 ⟨v10, l10, rfl, ho10, hp10, hb10⟩
    obtain ⟨a10, c10, hv10, hI10, hg10⟩ := Ints.of_owns ho10 (by omega)
    subst hv10
    have hb710 : Below w7.heap.size w7 w10 := hb79.trans (hb10.mono hb79.size)
    have HLS := hide (Lsts.set (i0 := i0) (s := ⟨a10, n, c10, l10⟩) hW7 hb710 hbg (Nat.lt_of_lt_of_le hgs hb10.size) (fun j hj => (hb10.cell (p := ⟨g, j, none⟩) hgs).trans (unhide HCE j hj)) hnc hcm hi0 hI10 (hg10.imp id fun ⟨g', q1, q2, q3⟩ => ⟨g', 0, q3, by omega⟩))
    have hci := (hb10.cell (p := ⟨g, i0, none⟩) hgs).trans (unhide HCE i0 hi0)
    have hfi := (hb10.frozen (p := ⟨g, i0, none⟩) hgs).trans hfr
    have hnl : i0 < WL.length := by have := unhide HN; omega
    have HLI : Hid (∀ j, lisA (WL.set i0 ⟨a10, n, c10, l10⟩) j = if j = i0 then l10 else lisA WL j) := fun j => by
      unfold lisA
      rw [slAt_set hnl]
      by_cases e : j = i0
      · rw [if_pos e, if_pos e]
      · rw [if_neg e, if_neg e]
    obtain ⟨_, hr0, hfull0, hord0⟩ := tr_ok (unhide HN) (unhide HZ)
    have HZ2 : Hid (tE (WL.set i0 ⟨a10, n, c10, l10⟩) n = 0) := tE_zero hn6 fun i hi => by
      rw [unhide HLI i]
      by_cases e : i = i0
      · rw [if_pos e]; exact ord_up hp10
      · rw [if_neg e]; exact hord0 i hi
    have HN2 : Hid (n = (WL.set i0 ⟨a10, n, c10, l10⟩).length) := by rw [List.length_set]; exact unhide HN
    have HBW : Hid (Below w7.heap.size w7 (w10.setCell ⟨g, i0, none⟩ (.slice a10 n c10))) := hb710.setCell (p := ⟨g, i0, none⟩) hbg _
    have C8b := hide (rounds_any n (some ⟨g, 0, none⟩) cap (WL.set i0 ⟨a10, n, c10, l10⟩) _ (unhide HLS))
    unfold maxLen at hcm
    have HW7 := hide hW7
    have HHON : Hid (∀ kk2 U, Reach n (lisA (WL.set i0 ⟨a10, n, c10, l10⟩)) (ownF n) kk2 (Ex0 fun _ => 1) U → Done n U → idxFrom (lisA WL i0) (T.got i0) 0 ≤ idxFrom (lisA WL i0) (U.got i0) 0) := fun kk2 U hre2 hdo2 => by
      obtain ⟨_, hr2, hfull2, hord2⟩ := tr_ok (unhide HN2) (unhide HZ2)
      exact honest hr0 hfull0 (fun i hi => ord_nodup (hord0 i hi)) hr2 hfull2 (fun i hi => ord_nodup (hord2 i hi)) hi0 (fun j hj => by rw [unhide HLI j, if_neg hj]) (unhide HRE).1 (unhide HRE).2 hre2 hdo2
    have HW73 : Hid (Below w3.heap.size w3 w7) := hw35.trans (hb57.mono hw35.size)
    have HBW7 := hide hbw7
    generalize (slAt WL i0).la = sa at hci
    generalize (slAt WL i0).ln = sn at hci
    generalize (slAt WL i0).lc = sc at hci
    clear hr0 hfull0 hord0 hI10 hp10 hg10 ho10 hW7 hb79 hb57 hb27 hbw9 hb710 hb10 hb6 hb7 hbC hw25 hw35 hbB hbA hb2 hb3 hb4 hb5 hbw7 hnl
    go_wp2_with fail
    refine (unhide C8b).mono ?_
    rintro e w11 ⟨hb11, hp | ⟨_, a11, c11, U, kk2, rfl, hI11, hre2, hdo2⟩⟩
    · exact absurd (unhide HZ2) hp.1
    unfold two
    have hbW11 := (unhide HBW).trans (hb11.mono (unhide HBW).size)
    have hW11 := (unhide HW7).later hbW11
    have hb311 := (unhide HW73).trans (hbW11.mono (unhide HW73).size)
    have hI311 := (unhide HI3).later hb311
    have HEND := hide ((unhide HBW7).trans (hbW11.mono (unhide HBW7).size))
    obtain ⟨bW, oW, hWa, _, hcW⟩ := hW11.cellAt hn1
    obtain ⟨b3, o3, h3a, _, hc3⟩ := hI311.cellAt hn1
    obtain ⟨b11, o11, h11a, _, hc11⟩ := hI11.cellAt hn1
    subst hWa h3a h11a
    have x1 := hcW i0 hi0
    have x2 := hc3 i0 hi0
    have x3 := hc11 i0 hi0
    rw [gotL_at T hi0] at x2
    rw [gotL_at U hi0] at x3
    have hle := unhide HHON kk2 U hre2 hdo2
    have CPA := hide (fun q => place_any (slAt WL i0).la (slAt WL i0).ln (slAt WL i0).lc (slAt WL i0).ints (T.got i0) (w11.drewN q) ((hW11.mem hi0).later (below_drewN _ _ _)))
    have CPB := hide (fun q => place_any (slAt WL i0).la (slAt WL i0).ln (slAt WL i0).lc (slAt WL i0).ints (U.got i0) (w11.drewN q) ((hW11.mem hi0).later (below_drewN _ _ _)))
    have hle2 : idxFrom (slAt WL i0).ints (T.got i0) 0 ≤ idxFrom (slAt WL i0).ints (U.got i0) 0 := hle
    have h11c := hI11.2.1
    have h11m := hI11.2.2.1
    unfold maxLen at h11m
    clear hcW hc3 hc11 hW11 hI311 hI11 hre2 hdo2 hle hbW11 hb311 hb11
    generalize idxFrom (slAt WL i0).ints (T.got i0) 0 = r1 at *
    generalize idxFrom (slAt WL i0).ints (U.got i0) 0 = r2 at *
    generalize (slAt WL i0).la = ta at *
    generalize (slAt WL i0).ln = tn at *
    generalize (slAt WL i0).lc = tc at *
    generalize T.got i0 = gT at *
    generalize U.got i0 = gU at *
    have d9 : decide (r1 ≤ r2) = true := decide_eq_true hle2
    go_wp2_with fail
    go_quiet (first | (go_at_call 23; with_reducible exact Calls.quiet_of_same (unhide CPA _)) | (go_at_call 23; with_reducible exact Calls.quiet_of_same (unhide CPB _)))
    go_wp2
    go_ret
    exact ⟨rfl, (unhide HEND).trans ((below_drewN _ _ _).mono (unhide HEND).size)⟩
end Go.Proofs.Ytihmbfapbkddeaa
