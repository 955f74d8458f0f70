import Derived.Test.YtihmbfapbkddeaaR
namespace Go.Proofs.Ytihmbfapbkddeaa
open Go.RowKit
theorem wait_upd {g : Nat → Int} {x : Nat} : ∀ n, x < n → g x = -2 → waitN (fun j => if j = x then 0 else g j) n + 1 = waitN g n := by
  intro n
  induction n with
  | zero => intro h; omega
  | succ n ih =>
    intro hx hg
    rw [waitN, waitN]
    by_cases e : x = n
    · subst e
      rw [wait_same (g := g) x (fun j hj => if_neg (by omega)), if_pos rfl, if_neg (by omega), if_pos hg]
    · rw [if_neg (show ¬ n = x by omega), ← ih (by omega) hg]
      omega
theorem wait_iff {f g : Nat → Int} (n : Nat) (h : ∀ j, j < n → (f j = -2 ↔ g j = -2)) : waitN f n = waitN g n :=
  Nat.le_antisymm (wait_le n (fun j hj => (h j hj).1)) (wait_le n (fun j hj => (h j hj).2))
theorem wait_list {f : Nat → Int} {n : Nat} : ∀ (R : List Int), R.Nodup → (∀ x ∈ R, 0 ≤ x ∧ x < n ∧ f x.toNat = -2) → waitN (fun j => if (j : Int) ∈ R then 0 else f j) n + R.length = waitN f n := by
  intro R
  induction R with
  | nil => intro _ _; simp
  | cons x R ih =>
    intro hn hr
    have hx := hr x (by simp)
    have h1 := ih (List.nodup_cons.1 hn).2 (fun y hy => hr y (by simp [hy]))
    have h2 := wait_upd (g := fun j => if (j : Int) ∈ R then 0 else f j) (x := x.toNat) n (by omega) (by
      show (if ((x.toNat : Nat) : Int) ∈ R then 0 else f x.toNat) = -2
      rw [Int.toNat_of_nonneg hx.1, if_neg (List.nodup_cons.1 hn).1]
      exact hx.2.2)
    have h3 : waitN (fun j => if (j : Int) ∈ x :: R then 0 else f j) n = waitN (fun j => if j = x.toNat then 0 else if (j : Int) ∈ R then 0 else f j) n := wait_same n (fun j _ => by
      show (if (j : Int) ∈ x :: R then 0 else f j) = (if j = x.toNat then 0 else if (j : Int) ∈ R then 0 else f j)
      by_cases e : j = x.toNat
      · rw [if_pos e, if_pos (by rw [e, Int.toNat_of_nonneg hx.1]; simp)]
      · rw [if_neg e]
        have hne : ¬ (j : Int) = x := by omega
        by_cases m : (j : Int) ∈ R
        · rw [if_pos m, if_pos (by simp [m])]
        · rw [if_neg m, if_neg (by simp [m, hne])])
    rw [h3, List.length_cons]
    omega
set_option maxRecDepth 100000 in
set_option maxHeartbeats 16000000 in
theorem roundsR_any (n : Nat) (wa : Option Addr) (wc : Nat) (WL : List Sl) (w : World) (hW : Lsts w wa n wc WL) :
    Calls Try.prog 9 #[.slice wa n wc] w fun e w' => RoPost WL n w e w' := by
  have CM := hide (tradeMay_any n wa wc WL w hW)
  have HN := hide hW.1
  have h1 := hW.2.1
  have h2 := hW.2.2.1
  unfold maxLen at h2
  by_cases hz : tE WL n = 0
  · obtain ⟨hn6, hr, hfull, _⟩ := tr_ok (unhide HN) hz
    have HZ := hide hz
    rw [hz] at CM
    obtain ⟨i3, hi3, hz0, hz1, hz2⟩ := info_parts info3
    obtain ⟨i4, hi4, hy0, hy1, hy2⟩ := info_parts info4
    have HR := hide hr
    have HFULL := hide hfull
    have HWW := hide hW
    clear hr hfull hz hW
    go_enter Try.func9, Try.ntmps9
    go_wp2_with (first
      | (go_at_call 11; refine (unhide CM).mono ?_; rintro e w4 ⟨rfl, hw4⟩; subst w4)
      | (at_make; refine wpList_make_full _ rfl _ _ 23 rfl w.heap.size 3 i3 _ 1 Try.underlying23 hi3 hz0 hz1 .i64 .i64 _ _ n rfl rfl rfl rfl (by rw [hz2]; omega) (by unfold maxLen; omega) (Nat.le_refl _) ?_; intro w3 ho3 hg3)
      | (at_make; refine wpList_make_full _ rfl _ _ 44 rfl w3.heap.size 4 i4 _ 1 Try.underlying44 hi4 hy0 hy1 .i64 .i64 _ _ n rfl rfl rfl rfl (by rw [hy2]; omega) (by unfold maxLen; omega) (Nat.le_refl _) ?_; intro w4 ho4 hg4))
    have hb3 : Below w.heap.size w w3 := (Below.refl w.heap.size w).grown hg3 (Nat.le_refl _) (fun k hk => by cases hk)
    have hb4 : Below w3.heap.size w3 w4 := (Below.refl w3.heap.size w3).grown hg4 (Nat.le_refl _) (fun k hk => by cases hk)
    have hG3 := row_made ho3
    have hN4 := rowB_made ho4
    have hb04 : Below w.heap.size w w4 := hb3.trans (hb4.mono hb3.size)
    obtain ⟨gG, hgG⟩ : ∃ g, w.heap.size = g := ⟨_, rfl⟩
    obtain ⟨gN, hgN⟩ : ∃ g, w3.heap.size = g := ⟨_, rfl⟩
    have hgn : gG < gN := by
      rw [← hgN, ← hgG]
      rcases (show w3.ownsRow w.heap.size 3 1 (.slice (some ⟨w.heap.size, 0, none⟩) n n) n _ from ho3).2 with ⟨h, _⟩ | ⟨g, cap, cur, h, hbg, hgg, _⟩
      · cases h
      · cases h; exact (Array.getElem?_eq_some_iff.1 hgg).1
    have hN4' : RowB w.heap.size w4 (some ⟨gN, 0, none⟩) n (gb (Ex0 fun _ => 1)) := by
      rw [hgN] at hN4
      rcases hN4 with h | ⟨g, h1, h2, h3, h4, h5⟩
      · exact .inl h
      · exact .inr ⟨g, h1, by cases h1; omega, h3, h4, h5⟩
    have hG4' : Row w.heap.size w4 (some ⟨gG, 0, none⟩) n (gz (Ex0 fun _ => 1)) := by
      rw [← hgG]; exact hG3.later hb4
    have HRS := hide (And.intro hG4' hN4')
    have HGG := hide hgG
    rw [hgN, hgG]
    clear ho3 ho4 hg3 hg4 hG3 hN4 hN4' hG4' hgN hgG
    have HW0 : Hid (waitN (Ex0 fun _ => 1).got n = n) := by
      have : ∀ k, waitN (Ex0 fun _ => 1).got k = k := by
        intro k
        induction k with
        | zero => rfl
        | succ k ih => rw [waitN, ih, if_pos (show (Ex0 fun _ => 1).got k = -2 from rfl)]
      exact this n
    go_wp2_with fail
    go_loopw [8, 9, 10, 11, 12, 13, 14] (fun lf _ _ _ _ _ _ wr => Below w.heap.size w wr ∧ ∃ (kk : Nat) (S : Ex), Reach n (lisA WL) (ownF n) kk (Ex0 fun _ => 1) S ∧ lf = .int .i64 (waitN S.got n : Nat) ∧ Row w.heap.size wr (some ⟨gG, 0, none⟩) n (gz S) ∧ RowB w.heap.size wr (some ⟨gN, 0, none⟩) n (gb S)) (fun lf _ _ _ _ _ _ _ => (intOf lf).toNat)
    case atStart => exact ⟨hb04, 0, Ex0 fun _ => 1, rfl, by rw [unhide HW0], (unhide HRS).1, (unhide HRS).2⟩
    case round =>
      obtain ⟨hbr, kk, S, hre, rfl, hG, hN3⟩ := hrel
      clear HRS HW0
      have hinv := inv_reach (unhide HR) (unhide HFULL) (fun s hs => ownF_in hs) kk _ S hre inv_start
      obtain ⟨lw, hlw⟩ : ∃ l, waitN S.got n = l := ⟨_, rfl⟩
      have hlwn := wait_le_n S.got n
      rw [hlw] at hlwn ⊢
      have HLW := hide hlw
      clear hlw
      by_cases hpos : 0 < lw
      · have HIB : Hid (∀ i, i < n → S.got i = -2 → ∃ t : Nat, t < n ∧ Bx (lisA WL) S i = t ∧ S.got t = -2 ∧ Nx (lisA WL) (ownF n) S i = t) := fun i hi hg => inv_best (unhide HR) (unhide HFULL) (fun s hs => ownF_in hs) hinv hi hg
        have HL1 : Hid (∀ i, i < n → S.got i = -2 → 0 ≤ Bx (lisA WL) S i) := fun i hi hg => by
          obtain ⟨t, _, h, _⟩ := unhide HIB i hi hg
          omega
        have HNX : Hid (∀ i, Live n (lisA WL) S i → Nx (lisA WL) (ownF n) S i < n ∧ S.got (Nx (lisA WL) (ownF n) S i) = -2) := fun i hi => by
          obtain ⟨t, h1, _, h3, h4⟩ := unhide HIB i hi.1 hi.2.1
          rw [h4]; exact ⟨h1, h3⟩
        have HSG : Hid (∀ W, Below w.heap.size w W → RowB w.heap.size W (some ⟨gN, 0, none⟩) n (gb S) → ∀ i, i < n → S.got i = -2 → Calls Try.prog 26 #[.slice (slAt WL i).la (slAt WL i).ln (slAt WL i).lc, .slice (some ⟨gN, 0, none⟩) n n] W fun e w' => e = .returned (.int .i64 (Nx (lisA WL) (ownF n) S i : Nat)) ∧ w' = W) := fun W hbW hNW i hi hg => by
          have := bestLeft_any (slAt WL i).la (slAt WL i).ln (slAt WL i).lc (slAt WL i).ints (some ⟨gN, 0, none⟩) n n (gb S) W (((unhide HWW).later hbW).mem hi) (hNW.gon (Nat.le_refl _) (by unfold maxLen; omega)) (unhide HR i)
          obtain ⟨t, h1, h2, h3, h4⟩ := unhide HIB i hi hg
          have e2 : fst (fun s => gb S s = false) (slAt WL i).ints = (Nx (lisA WL) (ownF n) S i : Nat) := by
            rw [fst_congr (q := fun s => 0 < S.left s) (fun x hx => ?_)]
            · rw [h4]; exact h2
            · have hx2 := unhide HR i x hx
              have hv := hinv x.toNat (by omega)
              rw [gb_false]
              constructor
              · intro h; rcases hv with h5 | h5 <;> omega
              · intro h; rcases hv with h5 | h5 <;> omega
          rw [e2] at this
          exact this
        have HSF : Hid (∀ W, Below wr.heap.size wr W → ∀ i, i < n → S.got i = -2 → Calls Try.prog 26 #[.slice (slAt WL i).la (slAt WL i).ln (slAt WL i).lc, .slice (some ⟨gN, 0, none⟩) n n] W fun e w' => e = .returned (.int .i64 (Nx (lisA WL) (ownF n) S i : Nat)) ∧ w' = W) := fun W hbW i hi hg => unhide HSG W (hbr.trans (hbW.mono hbr.size)) (hN3.later hbW) i hi hg
        have HWC : Hid (∀ W, Below wr.heap.size wr W → ∃ b off, wa = some ⟨b, off, none⟩ ∧ ∀ i, i < n → W.cell? ⟨b, off + i, none⟩ = some (.slice (slAt WL i).la (slAt WL i).ln (slAt WL i).lc)) := fun W hbW => by
          obtain ⟨b, off, h1, _, h3⟩ := ((unhide HWW).later (hbr.trans (hbW.mono hbr.size))).cellAt (by omega)
          exact ⟨b, off, h1, h3⟩
        have HNC : Hid (∀ W, Below wr.heap.size wr W → ∀ j, j < n → W.cell? ⟨gN, j, none⟩ = some (.bool (gb S j))) := fun W hbW j hj => ((hN3.later hbW).at hj).1
        have HROWS := hide (And.intro hG hN3)
        have HRE := hide hre
        have HINV := hide hinv
        clear hG hN3 hre hinv
        have dpos : decide (0 < (lw : Int)) = true := decide_eq_true (by omega)
        go_wp2_with fail
        go_loopw [10, 11, 12, 9] (fun i _ _ v wy => Below wr.heap.size wr wy ∧ ∃ (p : Nat) (R : List Int), p ≤ n ∧ i = .int .i64 p ∧ wy.ownsRow wr.heap.size 3 1 v R.length (intVals R) ∧ R.length ≤ p ∧ R.Nodup ∧ (∀ x, x ∈ R ↔ ∃ j : Nat, j < p ∧ x = j ∧ Rin n (lisA WL) (ownF n) S j)) (fun i _ _ _ _ => n - (intOf i).toNat)
        case atStart => exact ⟨Below.refl _ _, 0, [], Nat.zero_le _, rfl, World.ownsRow_nil _ _ _ _, Nat.le_refl _, by simp, fun x => ⟨fun h => (by cases h), fun ⟨j, h, _⟩ => (by omega)⟩⟩
        case round =>
          rename World => wy
          obtain ⟨hby, p, R, hp, rfl, hown, hRp, hnd, hmem⟩ := hrel
          have HOWN := hide hown
          have HND := hide hnd
          have HMEM := hide hmem
          clear hown hnd hmem
          by_cases hpn : p < n
          · have hnc := unhide HNC wy hby p hpn
            by_cases hwt : S.got p = -2
            · rw [gb_false.2 hwt] at hnc
              obtain ⟨bW, oW, hWa, hcW⟩ := unhide HWC wy hby
              subst hWa
              have hcp := hcW p hpn
              have HCW := hide hcW
              clear hcW
              have C1 := hide (unhide HSF wy hby p hpn hwt)
              have HLIV : Hid (∀ q, itx (lisA WL) (ownF n) S q p < n ∧ S.got (itx (lisA WL) (ownF n) S q p) = -2) := fun q => by
                have := live_itx (unhide HL1) (unhide HNX) q p hpn hwt
                exact ⟨this.1, this.2.1⟩
              have HYES : Hid (∀ q, 0 < q → q ≤ n + 1 → itx (lisA WL) (ownF n) S q p = p → ∀ x, x ∈ R ++ [(p : Int)] ↔ ∃ j : Nat, j < p + 1 ∧ x = j ∧ Rin n (lisA WL) (ownF n) S j) := fun q h1 h2 e x => by
                rw [List.mem_append, List.mem_singleton, unhide HMEM]
                constructor
                · rintro (⟨j, h3, h4, h5⟩ | h3)
                  · exact ⟨j, by omega, h4, h5⟩
                  · exact ⟨p, by omega, h3, hpn, hwt, q, h1, h2, e⟩
                · rintro ⟨j, h3, h4, h5⟩
                  by_cases e2 : j = p
                  · subst e2; exact .inr h4
                  · exact .inl ⟨j, by omega, h4, h5⟩
              have HNO : Hid ((∀ q, 0 < q → q ≤ n + 1 → itx (lisA WL) (ownF n) S q p ≠ p) → ∀ x, x ∈ R ↔ ∃ j : Nat, j < p + 1 ∧ x = j ∧ Rin n (lisA WL) (ownF n) S j) := fun hno x => by
                rw [unhide HMEM]
                constructor
                · rintro ⟨j, h3, h4, h5⟩
                  exact ⟨j, by omega, h4, h5⟩
                · rintro ⟨j, h3, h4, h5⟩
                  refine ⟨j, ?_, h4, h5⟩
                  by_cases e2 : j = p
                  · subst e2; obtain ⟨_, _, q, h6, h7, h8⟩ := h5; exact absurd h8 (hno q h6 h7)
                  · omega
              have HND2 : Hid ((R ++ [(p : Int)]).Nodup) := by
                show List.Nodup _
                rw [List.nodup_append]
                refine ⟨unhide HND, by simp, fun a ha c hc e => ?_⟩
                simp at hc
                subst hc e
                obtain ⟨j, h3, h4, _⟩ := (unhide HMEM _).1 ha
                omega
              obtain ⟨x1, hx1⟩ : ∃ x, Nx (lisA WL) (ownF n) S p = x := ⟨_, rfl⟩
              rw [hx1] at C1
              have HX1 := hide hx1
              clear hx1
              generalize slAt WL p = sp at *
              obtain ⟨pa, pn, pc, pl⟩ := sp
              simp only at hcp C1
              go_wp2_with (go_at_call 26; refine (unhide C1).mono ?_; rintro e w9 ⟨rfl, hw9⟩; subst w9)
              go_loop [12, 11] (fun kx at_ => ∃ q y : Nat, q ≤ n ∧ kx = .int .i64 q ∧ at_ = .int .i64 y ∧ itx (lisA WL) (ownF n) S (q + 1) p = y ∧ ∀ t, 0 < t → t < q + 1 → itx (lisA WL) (ownF n) S t p ≠ p) (fun kx _ => n - (intOf kx).toNat)
              case atStart => exact ⟨0, x1, Nat.zero_le _, rfl, rfl, unhide HX1, fun t h1 h2 => by omega⟩
              case round =>
                obtain ⟨q, y, hq, rfl, rfl, hy, hno⟩ := hrel
                have HY := hide hy
                have HNT := hide hno
                have hyl := unhide HLIV (q + 1)
                rw [hy] at hyl
                obtain ⟨hyn, hyg⟩ := hyl
                clear hy hno
                by_cases hyp : y = p
                · subst hyp
                  have HM2 := hide (unhide HYES (q + 1) (by omega) (by omega) (unhide HY))
                  by_cases hqn : q < n
                  · have dq : decide ((q : Int) < (n : Int)) = true := decide_eq_true (by omega)
                    go_wp2_with (at_builtin; refine wpList_append_int _ rfl _ _ rfl wr.heap.size _ R.length _ rfl ((unhide HOWN).alloc _) wy.heap.size (y : Int) rfl (by simp) (by omega) (by have := hby.size; simp; omega) ?_; intro v2 w2 ho2 hg2)
                    go_roundw
                    case rel =>
                      have hb5 := hby.trans (((Below.refl wr.heap.size wy).alloc hby.size (.cells #[.int .i64 (y : Int)] 3)).grown hg2 (by have := hby.size; simp; omega) (fun q hq => ((unhide HOWN).lt q hq).1))
                      refine ⟨hb5, y + 1, R ++ [(y : Int)], by omega, by go_num, ?_, by rw [List.length_append]; simp; omega, unhide HND2, unhide HM2⟩
                      rw [List.length_append, intVals_append]
                      exact ho2
                    case measure => simp [intOf]; omega
                  · have dq : decide ((q : Int) < (n : Int)) = false := decide_eq_false (by omega)
                    go_wp2_with (at_builtin; refine wpList_append_int _ rfl _ _ rfl wr.heap.size _ R.length _ rfl ((unhide HOWN).alloc _) wy.heap.size (y : Int) rfl (by simp) (by omega) (by have := hby.size; simp; omega) ?_; intro v2 w2 ho2 hg2)
                    go_roundw
                    case rel =>
                      have hb5 := hby.trans (((Below.refl wr.heap.size wy).alloc hby.size (.cells #[.int .i64 (y : Int)] 3)).grown hg2 (by have := hby.size; simp; omega) (fun q hq => ((unhide HOWN).lt q hq).1))
                      refine ⟨hb5, y + 1, R ++ [(y : Int)], by omega, by go_num, ?_, by rw [List.length_append]; simp; omega, unhide HND2, unhide HM2⟩
                      rw [List.length_append, intVals_append]
                      exact ho2
                    case measure => simp [intOf]; omega
                · have hyb : ((y : Int) != (p : Int)) = true := by simpa using (show ¬ (y : Int) = (p : Int) by omega)
                  have hye : ((y : Int) == (p : Int)) = false := by simpa using (show ¬ (y : Int) = (p : Int) by omega)
                  have hyi : ¬ (y : Int) = (p : Int) := by omega
                  by_cases hqn : q < n
                  · have dq : decide ((q : Int) < (n : Int)) = true := decide_eq_true (by omega)
                    have C2 := unhide HSF wy hby y hyn hyg
                    obtain ⟨x2, hx2⟩ : ∃ x, Nx (lisA WL) (ownF n) S y = x := ⟨_, rfl⟩
                    rw [hx2] at C2
                    have D2 := hide C2
                    have hcy := unhide HCW y hyn
                    have HX2 : Hid (itx (lisA WL) (ownF n) S (q + 1 + 1) p = x2) := by show _ = _; rw [itx_next, unhide HY, hx2]
                    have HYP := hide hyp
                    clear C2 hx2 hyp
                    generalize slAt WL y = sy at *
                    obtain ⟨ya, yn, yc, yl⟩ := sy
                    simp only at hcy D2
                    go_wp2_with (go_at_call 26; refine (unhide D2).mono ?_; rintro e w9 ⟨rfl, hw9⟩; subst w9)
                    refine ⟨⟨q + 1, x2, by omega, by go_num, rfl, unhide HX2, fun t h1 h2 => ?_⟩, by simp [intOf]; omega⟩
                    by_cases e : t = q + 1
                    · rw [e, unhide HY]; exact unhide HYP
                    · exact unhide HNT t h1 (by omega)
                  · have dq : decide ((q : Int) < (n : Int)) = false := decide_eq_false (by omega)
                    have HM2 := hide (unhide HNO (fun t h1 h2 => by
                      by_cases e : t = q + 1
                      · rw [e, unhide HY]; exact hyp
                      · exact unhide HNT t h1 (by omega)))
                    go_wp2
                    go_roundw
                    case rel => exact ⟨hby, p + 1, R, by omega, by go_num, unhide HOWN, by omega, unhide HND, unhide HM2⟩
                    case measure => simp [intOf]; omega
            · have hgt : gb S p = true := by unfold gb; exact decide_eq_true hwt
              rw [hgt] at hnc
              have HM2 : Hid (∀ x, x ∈ R ↔ ∃ j : Nat, j < p + 1 ∧ x = j ∧ Rin n (lisA WL) (ownF n) S j) := fun x => by
                rw [unhide HMEM]
                constructor
                · rintro ⟨j, h3, h4, h5⟩
                  exact ⟨j, by omega, h4, h5⟩
                · rintro ⟨j, h3, h4, h5⟩
                  refine ⟨j, ?_, h4, h5⟩
                  by_cases e2 : j = p
                  · subst e2; exact absurd h5.2.1 hwt
                  · omega
              clear hwt hgt
              go_wp2
              go_roundw
              case rel => exact ⟨hby, p + 1, R, by omega, by go_num, unhide HOWN, by omega, unhide HND, unhide HM2⟩
              case measure => simp [intOf]; omega
          · obtain rfl : n = p := by omega
            obtain ⟨ra2, rc2, hv2, hIR, _⟩ := Ints.of_owns (unhide HOWN) (by omega)
            subst hv2
            have hRl := hIR.2.1
            have hRm := hIR.2.2.1
            unfold maxLen at hRm
            have HMR : Hid (∀ j : Nat, (j : Int) ∈ R ↔ Rin n (lisA WL) (ownF n) S j) := fun j => by
              rw [unhide HMEM]
              exact ⟨fun ⟨i, _, h2, h3⟩ => by rw [show j = i by omega]; exact h3, fun h => ⟨j, h.1, rfl, h⟩⟩
            have HRR : Hid (∀ x ∈ R, 0 ≤ x ∧ x < n ∧ S.got x.toNat = -2) := fun x hx => by
              obtain ⟨j, h1, h2, h3⟩ := (unhide HMEM x).1 hx
              exact ⟨by omega, by omega, by rw [h2, Int.toNat_natCast]; exact h3.2.1⟩
            have HBB : Hid (∀ b off, ra2 = some ⟨b, off, none⟩ → 0 < R.length → wr.heap.size ≤ b) := fun b off hb hl => by
              rcases (unhide HOWN).2 with ⟨h, h'⟩ | ⟨g, cap, cur, h, hbg, _⟩
              · injection h with e1; rw [hb] at e1; cases e1
              · injection h with e1; rw [hb] at e1; cases e1; exact hbg
            have HIR := hide hIR
            have hb0y := hbr.trans (hby.mono hbr.size)
            have hgwr : 0 < n → gN < wr.heap.size := fun h => ((unhide HROWS).2.at h).2.2.1
            have hgGb : w.heap.size ≤ gG := by have := unhide HGG; omega
            obtain ⟨rN, hrN⟩ : ∃ r, R.length = r := ⟨_, rfl⟩
            rw [hrN] at hRl hRp HIR HBB ⊢
            have HRN := hide hrN
            have hG7 : Row w.heap.size wy (some ⟨gG, 0, none⟩) n (fun j => if (j : Int) ∈ R.take 0 then Bx (lisA WL) S j else gz S j) := ((unhide HROWS).1.later hby).same (fun j _ => by show gz S j = if _ then _ else _; rw [if_neg (by simp)])
            have hN7 := (unhide HROWS).2.later hby
            clear hIR HOWN HMEM hrN HSF HNC HWC
            go_wp2_with fail
            go_loopw [13] (fun i wv => Below w.heap.size w wv ∧ ∃ q : Nat, q ≤ rN ∧ i = .int .i64 q ∧ Row w.heap.size wv (some ⟨gG, 0, none⟩) n (fun j => if (j : Int) ∈ R.take q then Bx (lisA WL) S j else gz S j) ∧ RowB w.heap.size wv (some ⟨gN, 0, none⟩) n (gb S) ∧ Ints wv ra2 rN rc2 R) (fun i _ => rN - (intOf i).toNat)
            case atStart => exact ⟨hb0y, 0, Nat.zero_le _, rfl, hG7, hN7, unhide HIR⟩
            case round =>
              rename World => wv
              clear hG7 hN7 HIR
              obtain ⟨hbv, q, hq, rfl, hG8, hN8, hI8⟩ := hrel
              by_cases hqr : q < rN
              · obtain ⟨bR, oR, hra, hbR, hcR⟩ := hI8.cellAt (by omega)
                subst hra
                have hRb := unhide HBB bR oR rfl (by omega)
                have hcr := hcR q hqr
                have hql : q < R.length := by have := unhide HRN; omega
                have hrg := unhide HRR _ (getD_mem hql)
                obtain ⟨x, hx⟩ : ∃ x : Nat, R[q]?.getD 0 = x := ⟨(R[q]?.getD 0).toNat, by omega⟩
                rw [hx] at hcr hrg
                rw [Int.toNat_natCast] at hrg
                have hxn : x < n := by omega
                obtain ⟨t, htn, hBt, _, hNt⟩ := unhide HIB x hxn hrg.2.2
                have CB := unhide HSG wv.drew (hbv.trans ((Below.refl _ _).drew.mono hbv.size)) (hN8.later (Below.refl _ _).drew) x hxn hrg.2.2
                rw [hNt] at CB
                have C1 := hide CB
                obtain ⟨bW, oW, hWa, hbW, hcW⟩ := ((unhide HWW).later hbv).cellAt (by omega)
                subst hWa
                have hcx := hcW x hxn
                obtain ⟨hgc, hgf, hgs, hgbb⟩ := hG8.at hxn
                have hRgG : bR ≠ gG := by have := hgwr (by omega); omega
                have HP : Hid (∀ W, W = wv.setCell ⟨gG, x, none⟩ (.int .i64 (t : Int)) → Below w.heap.size w W ∧ Row w.heap.size W (some ⟨gG, 0, none⟩) n (fun j => if (j : Int) ∈ R.take (q + 1) then Bx (lisA WL) S j else gz S j) ∧ RowB w.heap.size W (some ⟨gN, 0, none⟩) n (gb S) ∧ Ints W (some ⟨bR, oR, none⟩) rN rc2 R) := fun W hWe => by
                  subst hWe
                  rw [List.getElem?_eq_getElem hql] at hx
                  have hx : R[q] = (x : Int) := hx
                  refine ⟨hbv.setCell (p := ⟨gG, x, none⟩) hgbb _, hG8.set hxn (fun j hj hjx => ?_) ?_, hN8.apart (fun b hb => by cases hb; omega), hI8.apart hRgG⟩
                  · rw [List.take_succ_eq_append_getElem hql, hx]
                    by_cases m : (j : Int) ∈ R.take q
                    · rw [if_pos m, if_pos (by simp [m])]
                    · rw [if_neg m, if_neg (by simp [m]; omega)]
                  · show (t : Int) = if _ then _ else _
                    rw [List.take_succ_eq_append_getElem hql, hx, if_pos (by simp), hBt]
                clear CB hcW hcR hx hql hBt hNt hG8 hN8 hI8
                generalize (if (x : Int) ∈ R.take q then Bx (lisA WL) S x else gz S x) = ov at *
                generalize slAt WL x = s1 at *
                obtain ⟨sa, sn, sc, sl⟩ := s1
                simp only at hcx C1
                go_wp2_with fail
                refine wp_region_still_tail 15 (by kernel_rfl) (by kernel_rfl) ?_
                simp only [List.take_succ_cons, List.take_zero, List.drop_succ_cons, List.drop_zero]
                show wpStill Try.prog _ wv.drew (fun a' => wpList Try.prog _ _ _ a' wv.drew) _ _
                repeat (first | still_step | still_call (unhide C1))
                refine wpStill_nil ?_
                go_wp2_with fail
                obtain ⟨p1, p2, p3, p4⟩ := unhide HP _ rfl
                go_roundw
                case rel => exact ⟨p1.trans ((Below.refl _ _).drew.mono p1.size), q + 1, by omega, by go_num, p2.later (Below.refl _ _).drew, p3.later (Below.refl _ _).drew, p4.later (Below.refl _ _).drew⟩
                case measure => simp [intOf]; omega
              · obtain rfl : rN = q := by omega
                rw [List.take_of_length_le (by have := unhide HRN; omega)] at hG8
                have hN9 : RowB w.heap.size wv (some ⟨gN, 0, none⟩) n (fun j => decide ((j : Int) ∈ R.take 0) || gb S j) := hN8.same (fun j _ => by simp)
                clear hN8
                go_wp2_with fail
                go_loopw [14, 8] (fun i lf wu => Below w.heap.size w wu ∧ ∃ q : Nat, q ≤ rN ∧ i = .int .i64 q ∧ lf = .int .i64 ((lw : Int) - q) ∧ Row w.heap.size wu (some ⟨gG, 0, none⟩) n (fun j => if (j : Int) ∈ R then Bx (lisA WL) S j else gz S j) ∧ RowB w.heap.size wu (some ⟨gN, 0, none⟩) n (fun j => decide ((j : Int) ∈ R.take q) || gb S j) ∧ Ints wu ra2 rN rc2 R) (fun i _ _ => rN - (intOf i).toNat)
                case atStart => exact ⟨hbv, 0, Nat.zero_le _, rfl, by simp, hG8, hN9, hI8⟩
                case round =>
                  rename World => wu
                  clear hG8 hN9 hI8
                  obtain ⟨hbu, q, hq, rfl, rfl, hG9, hN9, hI9⟩ := hrel
                  by_cases hqr : q < rN
                  · obtain ⟨bR, oR, hra, hbR, hcR⟩ := hI9.cellAt (by omega)
                    subst hra
                    have hRb := unhide HBB bR oR rfl (by omega)
                    have hcr := hcR q hqr
                    have hql : q < R.length := by have := unhide HRN; omega
                    have hrg := unhide HRR _ (getD_mem hql)
                    obtain ⟨x, hx⟩ : ∃ x : Nat, R[q]?.getD 0 = x := ⟨(R[q]?.getD 0).toNat, by omega⟩
                    rw [hx] at hcr hrg
                    have hxn : x < n := by omega
                    obtain ⟨hnc, hnf, hns, hnb⟩ := hN9.at hxn
                    have hRgN : bR ≠ gN := by have := hgwr (by omega); omega
                    have HP : Hid (∀ W, W = wu.setCell ⟨gN, x, none⟩ (.bool true) → Below w.heap.size w W ∧ Row w.heap.size W (some ⟨gG, 0, none⟩) n (fun j => if (j : Int) ∈ R then Bx (lisA WL) S j else gz S j) ∧ RowB w.heap.size W (some ⟨gN, 0, none⟩) n (fun j => decide ((j : Int) ∈ R.take (q + 1)) || gb S j) ∧ Ints W (some ⟨bR, oR, none⟩) rN rc2 R) := fun W hWe => by
                      subst hWe
                      rw [List.getElem?_eq_getElem hql] at hx
                      have hx : R[q] = (x : Int) := hx
                      refine ⟨hbu.setCell (p := ⟨gN, x, none⟩) hnb _, hG9.apart (fun b hb => by cases hb; omega), hN9.set hxn (fun j hj hjx => ?_) ?_, hI9.apart hRgN⟩
                      · rw [List.take_succ_eq_append_getElem hql, hx]
                        have hne : ¬ (j : Int) = x := by omega
                        simp [hne]
                      · show true = (decide _ || _)
                        rw [List.take_succ_eq_append_getElem hql, hx]
                        simp
                    have zw : IntKind.i64.wrap ((lw : Int) - q - 1) = (lw : Int) - (q + 1) := by rw [IntKind.wrap_i64]; omega
                    clear hcR hx hql hG9 hN9 hI9
                    generalize (decide ((x : Int) ∈ R.take q) || gb S x) = ob at *
                    go_wp2
                    obtain ⟨p1, p2, p3, p4⟩ := unhide HP _ rfl
                    go_roundw
                    case rel => exact ⟨p1, q + 1, by omega, by go_num, by go_num, p2, p3, p4⟩
                    case measure => simp [intOf]; omega
                  · obtain rfl : rN = q := by omega
                    rw [List.take_of_length_le (by have := unhide HRN; omega)] at hN9
                    obtain ⟨T, hT⟩ := do_some (wi := lisA WL) S (Rin n (lisA WL) (ownF n) S)
                    have hBn : ∀ j : Nat, (j : Int) ∈ R → Bx (lisA WL) S j ≠ -2 := fun j hj => by
                      have := unhide HRR _ hj
                      rw [Int.toNat_natCast] at this
                      have := unhide HL1 j (by omega) this.2.2
                      omega
                    have hTg : ∀ j : Nat, T.got j = if (j : Int) ∈ R then Bx (lisA WL) S j else S.got j := fun j => by
                      by_cases m : (j : Int) ∈ R
                      · rw [if_pos m, hT.1 j ((unhide HMR j).1 m)]
                      · rw [if_neg m, hT.2.1 j (fun h => m ((unhide HMR j).2 h))]
                    have HCNT : Hid (waitN T.got n + rN = lw) := by
                      show _ = _
                      rw [← unhide HLW, ← wait_list R (unhide HND) (unhide HRR), unhide HRN]
                      congr 1
                      refine wait_iff n (fun j _ => ?_)
                      rw [hTg]
                      by_cases m : (j : Int) ∈ R
                      · rw [if_pos m, if_pos m]; exact ⟨fun h => absurd h (hBn j m), fun h => absurd h (by omega)⟩
                      · rw [if_neg m, if_neg m]
                    have HPOS : Hid (0 < rN) := by
                      show _ < _
                      obtain ⟨j, hj, hg⟩ := wait_pos n (show 0 < waitN S.got n by rw [unhide HLW]; exact hpos)
                      obtain ⟨j0, hj0⟩ := rin_some (unhide HL1) (unhide HNX) hj hg
                      rw [← unhide HRN]
                      exact List.length_pos_of_mem ((unhide HMR j0).2 hj0)
                    have hGT : Row w.heap.size wu (some ⟨gG, 0, none⟩) n (gz T) := hG9.same (fun j _ => by
                      show (if (j : Int) ∈ R then Bx (lisA WL) S j else gz S j) = gz T j
                      unfold gz
                      rw [hTg]
                      by_cases m : (j : Int) ∈ R
                      · rw [if_pos m, if_pos m, if_neg (hBn j m)]
                      · rw [if_neg m, if_neg m])
                    have hNT : RowB w.heap.size wu (some ⟨gN, 0, none⟩) n (gb T) := hN9.same (fun j _ => by
                      show (decide ((j : Int) ∈ R) || gb S j) = gb T j
                      unfold gb
                      rw [hTg]
                      by_cases m : (j : Int) ∈ R
                      · rw [if_pos m, decide_eq_true m, decide_eq_true (hBn j m)]; rfl
                      · rw [if_neg m, decide_eq_false m]; rfl)
                    have HRE2 : Hid (Reach n (lisA WL) (ownF n) (kk + 1) (Ex0 fun _ => 1) T) := reach_add kk 1 _ _ _ (unhide HRE) ⟨_, T, rin_ok (unhide HL1) (unhide HNX), hT, rfl⟩
                    clear hT hTg hBn hG9 hN9
                    go_wp2
                    go_roundw
                    case rel => exact ⟨hbu, kk + 1, T, unhide HRE2, by have := unhide HCNT; rw [show (lw : Int) - (rN : Int) = ((waitN T.got n : Nat) : Int) by omega], hGT, hNT⟩
                    case measure => have := unhide HPOS; simp [intOf]; omega
      · have dpos : decide (0 < (lw : Int)) = false := decide_eq_false (by omega)
        have hdn : Done n S := wait_zero n (by have := unhide HLW; omega)
        go_wp2
        go_ret2
        refine ⟨hbr, .inr ⟨unhide HZ, _, _, S, kk, rfl, hG.ints (by simp [gotL]) (Nat.le_refl _) (by unfold maxLen; omega) (fun j hj => ?_), hre, hdn⟩⟩
        rw [gotL_at S hj]
        exact if_neg (hdn j hj)
  · have hzb : (tE WL n != 0) = true := by simpa using hz
    have HZ := hide hz
    clear hz
    go_enter Try.func9, Try.ntmps9
    go_wp2_with (go_at_call 11; refine (unhide CM).mono ?_; rintro e w4 ⟨rfl, hw4⟩; subst w4)
    go_ret2
    exact ⟨Below.refl _ _, .inl ⟨unhide HZ, rfl⟩⟩
end Go.Proofs.Ytihmbfapbkddeaa
