import Derived.Test.YtihmbfapbkddeaaL
namespace Go.Proofs.Ytihmbfapbkddeaa
open Go.RowKit
theorem info4 : (Try.prog.info? 4).map (fun i => (i.zero, i.size, i.bytes)) = some (some (.bool false), 1, 1) := by kernel_rfl
theorem made_at (v : Value) (hv : v.cells = #[v]) (n j : Nat) (hj : j < n) : (madeCells v.cells (n * 1)).toList[j]? = some v := by
  rw [hv]
  unfold madeCells
  rw [Nat.mul_one]
  simp [hj, Nat.mod_one]
theorem row_made {W : World} {base G n : Nat} (h : W.ownsRow base 3 1 (.slice (some ⟨G, 0, none⟩) n n) n (madeCells (Value.int .i64 0).cells (n * 1)).toList) : Row base W (some ⟨G, 0, none⟩) n (fun _ => 0) := by
  have h0 := h
  rcases h.2 with ⟨h1, _⟩ | ⟨g, cap, cur, h1, hbg, hgg, hnc, hcm, hcs, htake⟩
  · cases h1
  · cases h1
    refine .inr ⟨G, rfl, hbg, (Array.getElem?_eq_some_iff.1 hgg).1, fun j hj => ?_, fun j _ => by simp [World.frozen?, hgg]⟩
    rw [h0.cellAt j (by omega), made_at _ rfl n j hj]
theorem rowB_made {W : World} {base G n : Nat} (h : W.ownsRow base 4 1 (.slice (some ⟨G, 0, none⟩) n n) n (madeCells (Value.bool false).cells (n * 1)).toList) : RowB base W (some ⟨G, 0, none⟩) n (fun _ => false) := by
  have h0 := h
  rcases h.2 with ⟨h1, _⟩ | ⟨g, cap, cur, h1, hbg, hgg, hnc, hcm, hcs, htake⟩
  · cases h1
  · cases h1
    refine .inr ⟨G, rfl, hbg, (Array.getElem?_eq_some_iff.1 hgg).1, fun j hj => ?_, fun j _ => by simp [World.frozen?, hgg]⟩
    rw [h0.cellAt j (by omega), made_at _ rfl n j hj]
theorem fst_congr {p q : Nat → Prop} [DecidablePred p] [DecidablePred q] {l : List Int} (h : ∀ x ∈ l, p x.toNat ↔ q x.toNat) : fst p l = fst q l := by
  induction l with
  | nil => rfl
  | cons x r ih =>
    unfold fst
    rw [ih (fun y hy => h y (by simp [hy]))]
    by_cases c : p x.toNat
    · rw [if_pos c, if_pos ((h x (by simp)).1 c)]
    · rw [if_neg c, if_neg (fun hq => c ((h x (by simp)).2 hq))]
theorem gb_false {S : Ex} {j : Nat} : gb S j = false ↔ S.got j = -2 := by
  unfold gb
  by_cases c : S.got j = -2 <;> simp [c]
theorem nil_left {wi : Nat → List Int} {S T : Ex} {X : Nat → Prop} (hd : Do wi S X T) (h : ∀ i, X i → Bx wi S i = -1) : T.left = S.left := by
  funext s
  refine hd.2.2.2 s ?_
  rintro ⟨i, hi, e⟩
  have := h i hi
  omega
theorem best_left {wi : Nat → List Int} {S T : Ex} (h : T.left = S.left) (i : Nat) : Bx wi T i = Bx wi S i := by
  unfold Bx
  rw [h]
theorem bx_range {wi : Nat → List Int} {m : Nat} (hr : ∀ i, ∀ x ∈ wi i, 0 ≤ x ∧ x < m) (S : Ex) (i : Nat) : Bx wi S i = -1 ∨ (0 ≤ Bx wi S i ∧ Bx wi S i < m ∧ 0 < S.left (Bx wi S i).toNat) := by
  rcases fst_spec (p := fun s => 0 < S.left s) (l := wi i) with h | ⟨h, h'⟩
  · exact .inl h
  · have := hr i _ h
    exact .inr ⟨this.1, this.2, h'⟩
theorem nx_ok {wi fi : Nat → List Int} {n m : Nat} (hr : ∀ i, ∀ x ∈ wi i, 0 ≤ x ∧ x < m) (hr2 : ∀ s, ∀ x ∈ fi s, 0 ≤ x ∧ x < n) (hfull : ∀ s, s < m → ∀ k, k < n → (k : Int) ∈ fi s) (S : Ex) {i : Nat} (hl : Live n wi S i) :
    Nx wi fi S i < n ∧ S.got (Nx wi fi S i) = -2 ∧ fst (fun k => S.got k = -2) (fi (Bx wi S i).toNat) = Nx wi fi S i := by
  obtain ⟨h1, h2, h3⟩ := hl
  have hb : (Bx wi S i).toNat < m := by rcases bx_range hr S i with h | h <;> omega
  rcases fst_spec (p := fun k => S.got k = -2) (l := fi (Bx wi S i).toNat) with h | ⟨h, h'⟩
  · have := fst_none (fun x hx => (hr2 _ x hx).1) h (i : Int) (hfull _ hb i h1)
    rw [Int.toNat_natCast] at this
    exact absurd h2 this
  · have := hr2 _ _ h
    have e : Nx wi fi S i = (fst (fun k => S.got k = -2) (fi (Bx wi S i).toNat)).toNat := rfl
    refine ⟨by omega, by rw [e]; exact h', by rw [e]; omega⟩
theorem one_got {S : Ex} {x : Nat} {b : Int} {j : Nat} (h : j ≠ x) : (one S x b).got j = S.got j := if_neg h
theorem one_self {S : Ex} {x : Nat} {b : Int} : (one S x b).got x = b := if_pos rfl
theorem gz_one {S : Ex} {x : Nat} {b : Int} {j : Nat} (h : j ≠ x) : gz (one S x b) j = gz S j := by unfold gz; rw [one_got h]
theorem gb_one {S : Ex} {x : Nat} {b : Int} {j : Nat} (h : j ≠ x) : gb (one S x b) j = gb S j := by unfold gb; rw [one_got h]
theorem gz_self {S : Ex} {x : Nat} {b : Int} (h : b ≠ -2) : gz (one S x b) x = b := by unfold gz; rw [one_self, if_neg h]
theorem gb_self {S : Ex} {x : Nat} {b : Int} (h : b ≠ -2) : gb (one S x b) x = true := by unfold gb; rw [one_self]; exact decide_eq_true h
set_option maxRecDepth 100000 in
set_option maxHeartbeats 16000000 in
theorem schoolsR_any (n m fn : Nat) (wa : Option Addr) (wc : Nat) (WL : List Sl) (ra : Option Addr) (rc : Nat) (rl : List Int) (fa : Option Addr) (fc : Nat) (FL : List Sl) (w : World) (hW : Lsts w wa n wc WL) (hR : Ints w ra m rc rl) (hF : Lsts w fa fn fc FL) :
    Calls Try.prog 21 #[.slice wa n wc, .slice ra m rc, .slice fa fn fc] w fun e w' => SchPost WL FL rl n m fn w e w' := by
  have h1 := hW.2.1
  have h2 := hW.2.2.1
  have h3 := hF.2.1
  have h4 := hF.2.2.1
  have h5 := hR.2.1
  have h6 := hR.2.2.1
  unfold maxLen at h2 h4 h6
  by_cases c1 : 6 < n ∨ 6 < m
  · have HF := hide (show schE WL FL rl n m fn = 2 by unfold schE; rw [if_pos c1])
    by_cases c2 : 6 < n
    · have d1 : decide (6 < (n : Int)) = true := decide_eq_true (by omega)
      go_enter Try.func21, Try.ntmps21
      go_wp2
      go_ret2
      exact ⟨Below.refl _ _, .inl ⟨by rw [unhide HF]; omega, by rw [unhide HF]; rfl⟩⟩
    · have d1 : decide (6 < (n : Int)) = false := decide_eq_false (by omega)
      have d2 : decide (6 < (m : Int)) = true := decide_eq_true (by omega)
      go_enter Try.func21, Try.ntmps21
      go_wp2
      go_ret2
      exact ⟨Below.refl _ _, .inl ⟨by rw [unhide HF]; omega, by rw [unhide HF]; rfl⟩⟩
  have d1 : decide (6 < (n : Int)) = false := decide_eq_false (by omega)
  have d2 : decide (6 < (m : Int)) = false := decide_eq_false (by omega)
  by_cases c2 : fn = m
  · subst c2
    have HE := hide (show schE WL FL rl n fn fn = if nzFrom (wE WL fn) n 0 ≠ 0 then nzFrom (wE WL fn) n 0 else nzFrom (sE FL rl n) fn 0 by unfold schE; rw [if_neg c1, if_neg (by omega)])
    go_enter Try.func21, Try.ntmps21
    go_wp2_with fail
    go_loop [8, 9] (fun i _ => ∃ k : Nat, k ≤ n ∧ i = .int .i64 k ∧ nzFrom (wE WL fn) n 0 = nzFrom (wE WL fn) n k) (fun i _ => n - (intOf i).toNat)
    case atStart => exact ⟨0, Nat.zero_le _, rfl, rfl⟩
    case round =>
      obtain ⟨k, hk, rfl, hi⟩ := hrel
      have HI := hide hi
      clear hi
      by_cases hlt : k < n
      · obtain ⟨b, off, rfl, hb, hcell⟩ := hW.cellAt (by omega)
        have hck := hcell k hlt
        have CC := some_any (slAt WL k).la (slAt WL k).ln (slAt WL k).lc (slAt WL k).ints fn w (hW.mem hlt)
        obtain ⟨z, hz⟩ : ∃ z, wE WL fn k = z := ⟨_, rfl⟩
        rw [show likesFrom (slAt WL k).ints fn 0 = z from hz] at CC
        have C1 := hide CC
        have HZ := hide hz
        clear CC hz hcell
        generalize slAt WL k = s1 at *
        obtain ⟨sa, sn, sc, sl⟩ := s1
        simp only at hck C1
        by_cases hz0 : z = 0
        · subst hz0
          have HN := hide (nz_no hlt (unhide HZ))
          go_wp2_with (go_at_call 38; refine (unhide C1).mono ?_; rintro e w4 ⟨rfl, hw4⟩; subst w4)
          refine ⟨⟨k + 1, by omega, by go_num, by rw [unhide HI, unhide HN]⟩, by simp [intOf]; omega⟩
        · have HN : Hid (schE WL FL rl n fn fn = z) := by
            have e : nzFrom (wE WL fn) n 0 = z := by rw [unhide HI, nz_yes hlt (by rw [unhide HZ]; exact hz0), unhide HZ]
            rw [unhide HE, e, if_pos hz0]; rfl
          have hb2 : (z != 0) = true := by simpa using hz0
          have HZ0 := hide hz0
          clear hz0
          go_wp2_with (go_at_call 38; refine (unhide C1).mono ?_; rintro e w4 ⟨rfl, hw4⟩; subst w4)
          go_ret2
          exact ⟨Below.refl _ _, .inl ⟨by rw [unhide HN]; exact unhide HZ0, by rw [unhide HN]; rfl⟩⟩
      · have HE2 : Hid (schE WL FL rl n fn fn = nzFrom (sE FL rl n) fn 0) := by
          rw [unhide HE, unhide HI, nz_end hlt, if_neg (by simp)]; rfl
        clear HI HE
        go_wp2_with fail
        go_loop [10, 11] (fun i _ => ∃ k : Nat, k ≤ fn ∧ i = .int .i64 k ∧ nzFrom (sE FL rl n) fn 0 = nzFrom (sE FL rl n) fn k) (fun i _ => fn - (intOf i).toNat)
        case atStart => exact ⟨0, Nat.zero_le _, rfl, rfl⟩
        case round =>
          obtain ⟨q, hq, rfl, hi⟩ := hrel
          have HI := hide hi
          clear hi
          by_cases hql : q < fn
          · obtain ⟨b, off, rfl, hb, hcell⟩ := hF.cellAt (by omega)
            have hck := hcell q hql
            obtain ⟨b2, off2, rfl, hb2, hcell2⟩ := hR.cellAt (by omega)
            have hcr := hcell2 q hql
            have CC := orderOf_any (slAt FL q).la (slAt FL q).ln (slAt FL q).lc (slAt FL q).ints n w (hF.mem hql)
            obtain ⟨z, hz⟩ : ∃ z, ordE (lisA FL q) n = z := ⟨_, rfl⟩
            rw [show ordE (slAt FL q).ints n = z from hz] at CC
            obtain ⟨v, hv⟩ : ∃ v, rl[q]?.getD 0 = v := ⟨_, rfl⟩
            rw [hv] at hcr
            have HS : Hid (sE FL rl n q = if z ≠ 0 then z else if v < 0 ∨ 6 < v then 9 else 0) := by show _ = _; unfold sE; rw [hz, hv]
            have C1 := hide CC
            clear CC hz hv hcell hcell2
            generalize slAt FL q = s1 at *
            obtain ⟨sa, sn, sc, sl⟩ := s1
            simp only at hck C1
            by_cases hz0 : z = 0
            · subst hz0
              rw [if_neg (by simp)] at HS
              by_cases hv0 : v < 0 ∨ 6 < v
              · rw [if_pos hv0] at HS
                have HN : Hid (schE WL FL rl n fn fn = 9) := by rw [unhide HE2, unhide HI, nz_yes hql (by rw [unhide HS]; omega), unhide HS]; rfl
                by_cases hv1 : v < 0
                · go_wp2_with (go_at_call 28; refine (unhide C1).mono ?_; rintro e w4 ⟨rfl, hw4⟩; subst w4)
                  go_ret2
                  exact ⟨Below.refl _ _, .inl ⟨by rw [unhide HN]; omega, by rw [unhide HN]; rfl⟩⟩
                · have hv2 : 6 < v := by omega
                  go_wp2_with (go_at_call 28; refine (unhide C1).mono ?_; rintro e w4 ⟨rfl, hw4⟩; subst w4)
                  go_ret2
                  exact ⟨Below.refl _ _, .inl ⟨by rw [unhide HN]; omega, by rw [unhide HN]; rfl⟩⟩
              · rw [if_neg hv0] at HS
                have HN := hide (nz_no hql (unhide HS))
                have hv1 : ¬ v < 0 := by omega
                have hv2 : ¬ 6 < v := by omega
                clear hv0
                go_wp2_with (go_at_call 28; refine (unhide C1).mono ?_; rintro e w4 ⟨rfl, hw4⟩; subst w4)
                refine ⟨⟨q + 1, by omega, by go_num, by rw [unhide HI, unhide HN]⟩, by simp [intOf]; omega⟩
            · rw [if_pos hz0] at HS
              have HN : Hid (schE WL FL rl n fn fn = z) := by rw [unhide HE2, unhide HI, nz_yes hql (by rw [unhide HS]; exact hz0), unhide HS]; rfl
              have hb3 : (z != 0) = true := by simpa using hz0
              have HZ0 := hide hz0
              clear hz0
              go_wp2_with (go_at_call 28; refine (unhide C1).mono ?_; rintro e w4 ⟨rfl, hw4⟩; subst w4)
              go_ret2
              exact ⟨Below.refl _ _, .inl ⟨by rw [unhide HN]; exact unhide HZ0, by rw [unhide HN]; rfl⟩⟩
          · have HN : Hid (schE WL FL rl n fn fn = 0) := by rw [unhide HE2, unhide HI, nz_end hql]; rfl
            obtain ⟨hn6, hm6, _, hr, hr2, hfull, hbd⟩ := sch_ok hW.1 hF.1 (unhide HN)
            obtain ⟨i3, hi3, hz0, hz1, hz2⟩ := info_parts info3
            obtain ⟨i4, hi4, hy0, hy1, hy2⟩ := info_parts info4
            have HO : Hid ((w.alloc (.cells #[] 3)).ownsRow w.heap.size 3 1 (.slice (some ⟨w.heap.size, 0, none⟩) 0 0) 0 (intVals [])) :=
              World.ownsRow_made (base := w.heap.size) (e := 3) (size := 1) w #[] 0 (Nat.le_refl _) (by unfold maxLen; omega) rfl
            have hbE : Below w.heap.size w (w.alloc (.cells #[] 3)) := by go_grown
            have HRA := hide (hR.later hbE)
            have HWW := hide hW
            have HFF := hide hF
            have HR := hide hr
            have HR2 := hide hr2
            have HFULL := hide hfull
            have HBD := hide hbd
            clear hW hF hR hr hr2 hfull hbd HI HE2
            go_wp2_with (first
              | (at_builtin; refine wpList_append_ints _ rfl _ _ rfl w.heap.size _ 0 [] rfl (unhide HO) ra fn rc rl rfl (unhide HRA) (by omega) (by simp) ?_; intro v2 w2 ho2 hg2)
              | (at_make; refine wpList_make_full _ rfl _ _ 23 rfl w2.heap.size 3 i3 _ 1 Try.underlying23 hi3 hz0 hz1 .i64 .i64 _ _ n rfl rfl rfl rfl (by rw [hz2]; omega) (by unfold maxLen; omega) (Nat.le_refl _) ?_; intro w3 ho3 hg3)
              | (at_make; refine wpList_make_full _ rfl _ _ 44 rfl w3.heap.size 4 i4 _ 1 Try.underlying44 hi4 hy0 hy1 .i64 .i64 _ _ n rfl rfl rfl rfl (by rw [hy2]; omega) (by unfold maxLen; omega) (Nat.le_refl _) ?_; intro w4 ho4 hg4))
            have hb2 : Below w.heap.size w w2 := hbE.trans ((Below.refl w.heap.size _).grown hg2 (by simp) (fun k hk => ((unhide HO).lt k hk).1))
            have hb3 : Below w2.heap.size w2 w3 := (Below.refl w2.heap.size w2).grown hg3 (Nat.le_refl _) (fun k hk => by cases hk)
            have hb4 : Below w3.heap.size w3 w4 := (Below.refl w3.heap.size w3).grown hg4 (Nat.le_refl _) (fun k hk => by cases hk)
            obtain ⟨la, lc, rfl, hlc, hlm, hL2⟩ := Row.of_owns (show w2.ownsRow w.heap.size 3 1 v2 fn (intVals rl) by simpa using ho2)
            have hG3 := row_made ho3
            have hN4 := rowB_made ho4
            have hb24 : Below w2.heap.size w2 w4 := hb3.trans (hb4.mono hb3.size)
            have hb04 : Below w.heap.size w w4 := hb2.trans (hb24.mono hb2.size)
            obtain ⟨gG, hgG⟩ : ∃ g, w2.heap.size = g := ⟨_, rfl⟩
            obtain ⟨gN, hgN⟩ : ∃ g, w3.heap.size = g := ⟨_, rfl⟩
            have hbase : w.heap.size ≤ gG := by have := hb2.size; omega
            have hgn : gG < gN := by
              rw [← hgN]
              rcases (show w3.ownsRow w2.heap.size 3 1 (.slice (some ⟨w2.heap.size, 0, none⟩) n n) n _ from ho3).2 with ⟨h, _⟩ | ⟨g, cap, cur, h, hbg, hgg, _⟩
              · cases h
              · cases h; have := (Array.getElem?_eq_some_iff.1 hgg).1; omega
            have HLA : Hid (∀ b, la = some ⟨b, 0, none⟩ → 0 < fn → b < gG) := fun b hb hm => by
              rcases hL2 with h | ⟨g, h, _, h3, _⟩
              · omega
              · rw [hb] at h; cases h; omega
            rw [hgG, hgN]
            rw [hgG] at hG3
            rw [hgN] at hN4
            have hN4' : RowB w.heap.size w4 (some ⟨gN, 0, none⟩) n (gb (Ex0 fun s => rl[s]?.getD 0)) := by
              rcases hN4 with h | ⟨g, h1, h2, h3, h4, h5⟩
              · exact .inl h
              · exact .inr ⟨g, h1, by cases h1; omega, h3, h4, h5⟩
            have hG4' : Row w.heap.size w4 (some ⟨gG, 0, none⟩) n (gz (Ex0 fun s => rl[s]?.getD 0)) := by
              rcases hG3.later hb4 with h | ⟨g, h1, h2, h3, h4, h5⟩
              · exact .inl h
              · exact .inr ⟨g, h1, by cases h1; omega, h3, h4, h5⟩
            have hL4 : Row w.heap.size w4 la fn (Ex0 fun s => rl[s]?.getD 0).left := hL2.later hb24
            have HRS := hide (And.intro hL4 (And.intro hG4' hN4'))
            have hlm2 := hlm
            unfold maxLen at hlm2
            clear ho2 ho3 ho4 hg2 hg3 hg4 hG3 hN4 hN4' hG4' hL2 hL4 HO HRA hgG hgN
            go_wp2_with fail
            obtain ⟨S0, hS0⟩ : ∃ S, (Ex0 fun s => rl[s]?.getD 0) = S := ⟨_, rfl⟩
            rw [hS0] at HRS
            have HBS : Hid (∀ s, s < fn → 0 ≤ S0.left s ∧ S0.left s ≤ 6) := by rw [← hS0]; exact unhide HBD
            have HS0 := hide hS0
            clear hS0 HBD
            go_loopw [16, 17, 18, 19, 20, 21, 22, 23, 24, 25, 26] (fun i _ _ _ _ _ _ _ _ _ _ wr => Below w.heap.size w wr ∧ ∃ (k kk : Nat) (S : Ex), k ≤ 2 * n + 1 ∧ i = .int .i64 k ∧ Reach n (lisA WL) (lisA FL) kk S0 S ∧ waitN S.got n ≤ n - k ∧ Row w.heap.size wr la fn S.left ∧ Row w.heap.size wr (some ⟨gG, 0, none⟩) n (gz S) ∧ RowB w.heap.size wr (some ⟨gN, 0, none⟩) n (gb S) ∧ (∀ s, s < fn → 0 ≤ S.left s ∧ S.left s ≤ 6)) (fun i _ _ _ _ _ _ _ _ _ _ _ => 2 * n + 1 - (intOf i).toNat)
            case atStart => exact ⟨hb04, 0, 0, S0, by omega, rfl, rfl, by have := wait_le_n S0.got n; omega, (unhide HRS).1, (unhide HRS).2.1, (unhide HRS).2.2, unhide HBS⟩
            case round =>
              obtain ⟨hbr, k, kk, S, hk, rfl, hre, hwn, hLr, hGr, hNr, hbdr⟩ := hrel
              clear HRS HBS
              by_cases hk2 : k < 2 * n + 1
              · have d0 : decide ((k : Int) < 2 * (n : Int) + 1) = true := decide_eq_true (by omega)
                have HBR := hide hbdr
                have HRE := hide hre
                have HWN := hide hwn
                clear hbdr hre hwn
                go_wp2_with fail
                go_loopw [17, 18] (fun i _ wz => Below w.heap.size w wz ∧ ∃ (p : Nat) (S1 : Ex), p ≤ n ∧ i = .int .i64 p ∧ Do (lisA WL) S (fun j => j < p ∧ Nil n (lisA WL) S j) S1 ∧ Row w.heap.size wz la fn S1.left ∧ Row w.heap.size wz (some ⟨gG, 0, none⟩) n (gz S1) ∧ RowB w.heap.size wz (some ⟨gN, 0, none⟩) n (gb S1)) (fun i _ _ => n - (intOf i).toNat)
                case atStart => exact ⟨hbr, 0, S, Nat.zero_le _, rfl, do_zero S _ (fun i h => by omega), hLr, hGr, hNr⟩
                case round =>
                  rename World => wz
                  clear hLr hGr hNr
                  obtain ⟨hbz, p, S1, hp, rfl, hdo, hL3, hG3, hN3⟩ := hrel
                  have hleft := nil_left hdo (fun i hi => hi.2.2.2)
                  by_cases hpn : p < n
                  · obtain ⟨bW, oW, hWa, hbW, hcW⟩ := ((unhide HWW).later hbz).cellAt (by omega)
                    subst hWa
                    have hcx := hcW p hpn
                    obtain ⟨z, hz⟩ : ∃ z, Bx (lisA WL) S p = z := ⟨_, rfl⟩
                    have hz1 : Bx (lisA WL) S1 p = z := by rw [best_left hleft, hz]
                    have CB := school_any (slAt WL p).la (slAt WL p).ln (slAt WL p).lc (slAt WL p).ints la fn lc S1.left wz (((unhide HWW).later hbz).mem hpn) (hL3.cel hlc hlm) (unhide HR p)
                    rw [show fst (fun s => 0 < S1.left s) (slAt WL p).ints = z from hz1] at CB
                    have C1 := hide CB
                    have hgp : S1.got p = S.got p := hdo.2.1 p (by omega)
                    have hzr := bx_range (unhide HR) S p
                    rw [hz] at hzr
                    obtain ⟨hnc, hnf, hns, hnb⟩ := hN3.at hpn
                    obtain ⟨hgc, hgf, hgs, hgbb⟩ := hG3.at hpn
                    have HZ := hide hz
                    have HDO := hide hdo
                    clear CB hcW hz hz1 hdo
                    generalize slAt WL p = s1 at *
                    obtain ⟨sa, sn, sc, sl⟩ := s1
                    simp only at hcx C1
                    by_cases hwt : S.got p = -2
                    · have hgbf : gb S1 p = false := gb_false.2 (by rw [hgp]; exact hwt)
                      rw [hgbf] at hnc
                      rcases hzr with rfl | ⟨hz0, hz2, _⟩
                      · have hnil : Nil n (lisA WL) S p := ⟨hpn, hwt, unhide HZ⟩
                        have HD2 : Hid (Do (lisA WL) S (fun j => j < p + 1 ∧ Nil n (lisA WL) S j) (one S1 p (-1))) := by
                          have h := (do_add (fi := lisA FL) (fun i y hy => (unhide HR i y hy).1) (fun i hi => .inl hi.2) (.inl hnil) (fun h => absurd h.1 (by omega)) (unhide HDO)).2
                          rw [unhide HZ] at h
                          refine h.iff fun j => ⟨fun h => h.elim (fun h => ⟨by omega, h.2⟩) (fun h => by subst h; exact ⟨by omega, hnil⟩), fun h => ?_⟩
                          by_cases e : j = p
                          · exact .inr e
                          · exact .inl ⟨by omega, h.2⟩
                        have HP : Hid (∀ W, W = (wz.setCell ⟨gN, p, none⟩ (.bool true)).setCell ⟨gG, p, none⟩ (.int .i64 (-1)) → Below w.heap.size w W ∧ Row w.heap.size W la fn (one S1 p (-1)).left ∧ Row w.heap.size W (some ⟨gG, 0, none⟩) n (gz (one S1 p (-1))) ∧ RowB w.heap.size W (some ⟨gN, 0, none⟩) n (gb (one S1 p (-1)))) := fun W hWe => by
                          subst hWe
                          refine ⟨(hbz.setCell (p := ⟨gN, p, none⟩) hnb _).setCell (p := ⟨gG, p, none⟩) hgbb _, ?_, ?_, ?_⟩
                          · by_cases hm0 : fn = 0
                            · exact .inl hm0
                            · refine ((hL3.apart (fun b hb => ?_)).apart (fun b hb => ?_)).same (fun s hs => (one_left (by omega)).symm)
                              · have := unhide HLA b hb (by omega); omega
                              · have := unhide HLA b hb (by omega); omega
                          · exact (hG3.apart (fun b hb => by cases hb; omega)).set hpn (fun j hj hjp => (gz_one hjp).symm) (gz_self (by omega)).symm
                          · exact (hN3.set hpn (fun j hj hjp => (gb_one hjp).symm) (gb_self (by omega)).symm).apart (fun b hb => by cases hb; omega)
                        have hgc2 : (wz.setCell ⟨gN, p, none⟩ (.bool true)).cell? ⟨gG, p, none⟩ = some (.int .i64 (gz S1 p)) := by
                          rw [World.cell?_setCell_other _ _ _ _ (by intro hh; cases hh; omega)]; exact hgc
                        have hgf2 : (wz.setCell ⟨gN, p, none⟩ (.bool true)).frozen? ⟨gG, p, none⟩ = false := by rw [World.frozen?_setCell]; exact hgf
                        clear hL3 hG3 hN3 hnil hwt hgp hgbf
                        go_wp2_with (go_at_call 39; refine (unhide C1).mono ?_; rintro e w9 ⟨rfl, hw9⟩; subst w9)
                        have HP2 := unhide HP _ rfl
                        go_roundw
                        case rel => exact ⟨HP2.1, p + 1, one S1 p (-1), by omega, by go_num, unhide HD2, HP2.2.1, HP2.2.2.1, HP2.2.2.2⟩
                        case measure => simp [intOf]; omega
                      · have HD2 : Hid (Do (lisA WL) S (fun j => j < p + 1 ∧ Nil n (lisA WL) S j) S1) := (unhide HDO).iff fun j => ⟨fun h => ⟨by omega, h.2⟩, fun h => ⟨by
                          by_cases e : j = p
                          · exfalso; subst e; have := h.2.2.2; have := unhide HZ; omega
                          · omega, h.2⟩⟩
                        have dz : decide (z < 0) = false := decide_eq_false (by omega)
                        clear hwt hgp hgbf
                        go_wp2_with (go_at_call 39; refine (unhide C1).mono ?_; rintro e w9 ⟨rfl, hw9⟩; subst w9)
                        go_roundw
                        case rel => exact ⟨hbz, p + 1, S1, by omega, by go_num, unhide HD2, hL3, hG3, hN3⟩
                        case measure => simp [intOf]; omega
                    · have hgbf : gb S1 p = true := by unfold gb; rw [hgp]; exact decide_eq_true hwt
                      rw [hgbf] at hnc
                      have HD2 : Hid (Do (lisA WL) S (fun j => j < p + 1 ∧ Nil n (lisA WL) S j) S1) := (unhide HDO).iff fun j => ⟨fun h => ⟨by omega, h.2⟩, fun h => ⟨by
                        by_cases e : j = p
                        · exfalso; subst e; exact hwt h.2.2.1
                        · omega, h.2⟩⟩
                      clear hwt hgp hgbf
                      go_wp2_with (go_at_call 39; refine (unhide C1).mono ?_; rintro e w9 ⟨rfl, hw9⟩; subst w9)
                      go_roundw
                      case rel => exact ⟨hbz, p + 1, S1, by omega, by go_num, unhide HD2, hL3, hG3, hN3⟩
                      case measure => simp [intOf]; omega
                  · obtain rfl : n = p := by omega
                    have hdoN := hdo.iff (Y := fun j => Nil n (lisA WL) S j) (fun j => ⟨fun h => h.2, fun h => ⟨h.1, h⟩⟩)
                    have HRE1 : Hid (Reach n (lisA WL) (lisA FL) (kk + 1) S0 S1) := reach_add kk 1 _ _ _ (unhide HRE) ⟨_, S1, fun j hj => .inl hj, hdoN, rfl⟩
                    have HG01 : Hid (∀ j, S1.got j = -2 → S.got j = -2) := fun j hj => (do_gone (fun i y hy => (unhide HR i y hy).1) hdoN hj).1
                    have HL1 : Hid (∀ i, i < n → S1.got i = -2 → 0 ≤ Bx (lisA WL) S1 i) := fun i hi hg => by
                      have h1 := do_gone (fun i y hy => (unhide HR i y hy).1) hdoN hg
                      rw [best_left hleft]
                      rcases bx_range (unhide HR) S i with h | h
                      · exact absurd ⟨hi, h1.1, h⟩ h1.2
                      · exact h.1
                    have HNX : Hid (∀ i, Live n (lisA WL) S1 i → Nx (lisA WL) (lisA FL) S1 i < n ∧ S1.got (Nx (lisA WL) (lisA FL) S1 i) = -2) := fun i hi => by
                      have := nx_ok (unhide HR) (unhide HR2) (unhide HFULL) S1 hi
                      exact ⟨this.1, this.2.1⟩
                    have HB1 : Hid (∀ s, s < fn → 0 ≤ S1.left s ∧ S1.left s ≤ 6) := by rw [hleft]; exact unhide HBR
                    have HSF : Hid (∀ W, Below wz.heap.size wz W → ∀ i, i < n → S1.got i = -2 → Calls Try.prog 40 #[.slice wa n wc, .slice la fn lc, .slice fa fn fc, .slice (some ⟨gN, 0, none⟩) n n, .int .i64 i] W fun e w' => e = .returned (.int .i64 (Nx (lisA WL) (lisA FL) S1 i : Nat)) ∧ w' = W) := fun W hbW i hi hg => by
                      have hlive : Live n (lisA WL) S1 i := ⟨hi, hg, unhide HL1 i hi hg⟩
                      have hnx := nx_ok (unhide HR) (unhide HR2) (unhide HFULL) S1 hlive
                      have hbw := hbz.trans (hbW.mono hbz.size)
                      have hbx : 0 ≤ Bx (lisA WL) S1 i ∧ Bx (lisA WL) S1 i < fn := by
                        rcases bx_range (unhide HR) S1 i with h | h
                        · have := hlive.2.2; omega
                        · exact ⟨h.1, h.2.1⟩
                      have := schoolFirst_any wa n wc WL la fn lc S1.left fa fn fc FL (some ⟨gN, 0, none⟩) n n (gb S1) i W ((unhide HWW).later hbw) ((hL3.later hbW).cel hlc hlm) ((unhide HFF).later hbw) ((hN3.later hbW).gon (Nat.le_refl _) (by unfold maxLen; omega)) hi (unhide HR i) (fun j _ => unhide HR2 j) hbx
                      have e2 : fst (fun s => gb S1 s = false) (slAt FL (fst (fun s => 0 < S1.left s) (slAt WL i).ints).toNat).ints = (Nx (lisA WL) (lisA FL) S1 i : Nat) := by
                        rw [fst_congr (q := fun k => S1.got k = -2) (fun x _ => gb_false)]
                        exact hnx.2.2
                      rw [e2] at this
                      exact this
                    have HNC : Hid (∀ W, Below wz.heap.size wz W → ∀ j, j < n → W.cell? ⟨gN, j, none⟩ = some (.bool (gb S1 j))) := fun W hbW j hj => ((hN3.later hbW).at hj).1
                    have HROWS := hide (And.intro hL3 (And.intro hG3 hN3))
                    clear hdo hdoN hleft hL3 hG3 hN3
                    go_wp2_with fail
                    go_loopw [20, 21, 22, 19] (fun i _ _ v wy => Below wz.heap.size wz wy ∧ ∃ (p : Nat) (R : List Int), p ≤ n ∧ i = .int .i64 p ∧ wy.ownsRow wz.heap.size 3 1 v R.length (intVals R) ∧ R.length ≤ p ∧ R.Nodup ∧ (∀ x, x ∈ R ↔ ∃ j : Nat, j < p ∧ x = j ∧ Rin n (lisA WL) (lisA FL) S1 j)) (fun i _ _ _ _ => n - (intOf i).toNat)
                    case atStart => exact ⟨Below.refl _ _, 0, [], Nat.zero_le _, rfl, World.ownsRow_nil _ _ _ _, Nat.le_refl _, by simp, fun x => ⟨fun h => (by cases h), fun ⟨j, h, _⟩ => (by omega)⟩⟩
                    case round =>
                      rename World => wy
                      obtain ⟨hby, p, R, hp, rfl, hown, hRp, hnd, hmem⟩ := hrel
                      have HOWN := hide hown
                      have HND := hide hnd
                      have HMEM := hide hmem
                      clear hown hnd hmem
                      by_cases hpn : p < n
                      · have hnc := unhide HNC wy hby p hpn
                        by_cases hwt : S1.got p = -2
                        · rw [gb_false.2 hwt] at hnc
                          have C1 := hide (unhide HSF wy hby p hpn hwt)
                          have HLIV : Hid (∀ q, itx (lisA WL) (lisA FL) S1 q p < n ∧ S1.got (itx (lisA WL) (lisA FL) S1 q p) = -2) := fun q => by
                            have := live_itx (unhide HL1) (unhide HNX) q p hpn hwt
                            exact ⟨this.1, this.2.1⟩
                          have HYES : Hid (∀ q, 0 < q → q ≤ n + 1 → itx (lisA WL) (lisA FL) S1 q p = p → ∀ x, x ∈ R ++ [(p : Int)] ↔ ∃ j : Nat, j < p + 1 ∧ x = j ∧ Rin n (lisA WL) (lisA FL) S1 j) := fun q h1 h2 e x => by
                            rw [List.mem_append, List.mem_singleton, unhide HMEM]
                            constructor
                            · rintro (⟨j, h3, h4, h5⟩ | h3)
                              · exact ⟨j, by omega, h4, h5⟩
                              · exact ⟨p, by omega, h3, hpn, hwt, q, h1, h2, e⟩
                            · rintro ⟨j, h3, h4, h5⟩
                              by_cases e2 : j = p
                              · subst e2; exact .inr h4
                              · exact .inl ⟨j, by omega, h4, h5⟩
                          have HNO : Hid ((∀ q, 0 < q → q ≤ n + 1 → itx (lisA WL) (lisA FL) S1 q p ≠ p) → ∀ x, x ∈ R ↔ ∃ j : Nat, j < p + 1 ∧ x = j ∧ Rin n (lisA WL) (lisA FL) S1 j) := fun hno x => by
                            rw [unhide HMEM]
                            constructor
                            · rintro ⟨j, h3, h4, h5⟩
                              exact ⟨j, by omega, h4, h5⟩
                            · rintro ⟨j, h3, h4, h5⟩
                              refine ⟨j, ?_, h4, h5⟩
                              by_cases e2 : j = p
                              · subst e2; obtain ⟨_, _, q, h6, h7, h8⟩ := h5; exact absurd h8 (hno q h6 h7)
                              · omega
                          have HND2 : Hid ((R ++ [(p : Int)]).Nodup) := by
                            show List.Nodup _
                            rw [List.nodup_append]
                            refine ⟨unhide HND, by simp, fun a ha c hc e => ?_⟩
                            simp at hc
                            subst hc e
                            obtain ⟨j, h3, h4, _⟩ := (unhide HMEM _).1 ha
                            omega
                          obtain ⟨x1, hx1⟩ : ∃ x, Nx (lisA WL) (lisA FL) S1 p = x := ⟨_, rfl⟩
                          rw [hx1] at C1
                          have HX1 := hide hx1
                          clear hx1
                          go_wp2_with (go_at_call 40; refine (unhide C1).mono ?_; rintro e w9 ⟨rfl, hw9⟩; subst w9)
                          go_loop [22, 21] (fun kx at_ => ∃ q y : Nat, q ≤ n ∧ kx = .int .i64 q ∧ at_ = .int .i64 y ∧ itx (lisA WL) (lisA FL) S1 (q + 1) p = y ∧ ∀ t, 0 < t → t < q + 1 → itx (lisA WL) (lisA FL) S1 t p ≠ p) (fun kx _ => n - (intOf kx).toNat)
                          case atStart => exact ⟨0, x1, Nat.zero_le _, rfl, rfl, unhide HX1, fun t h1 h2 => by omega⟩
                          case round =>
                            obtain ⟨q, y, hq, rfl, rfl, hy, hno⟩ := hrel
                            have HY := hide hy
                            have HNT := hide hno
                            have hyl := unhide HLIV (q + 1)
                            rw [hy] at hyl
                            obtain ⟨hyn, hyg⟩ := hyl
                            clear hy hno
                            by_cases hyp : y = p
                            · subst hyp
                              have HM2 := hide (unhide HYES (q + 1) (by omega) (by omega) (unhide HY))
                              by_cases hqn : q < n
                              · have dq : decide ((q : Int) < (n : Int)) = true := decide_eq_true (by omega)
                                go_wp2_with (at_builtin; refine wpList_append_int _ rfl _ _ rfl wz.heap.size _ R.length _ rfl ((unhide HOWN).alloc _) wy.heap.size (y : Int) rfl (by simp) (by omega) (by have := hby.size; simp; omega) ?_; intro v2 w2 ho2 hg2)
                                go_roundw
                                case rel =>
                                  have hb5 := hby.trans (((Below.refl wz.heap.size wy).alloc hby.size (.cells #[.int .i64 (y : Int)] 3)).grown hg2 (by have := hby.size; simp; omega) (fun q hq => ((unhide HOWN).lt q hq).1))
                                  refine ⟨hb5, y + 1, R ++ [(y : Int)], by omega, by go_num, ?_, by rw [List.length_append]; simp; omega, unhide HND2, unhide HM2⟩
                                  rw [List.length_append, intVals_append]
                                  exact ho2
                                case measure => simp [intOf]; omega
                              · have dq : decide ((q : Int) < (n : Int)) = false := decide_eq_false (by omega)
                                go_wp2_with (at_builtin; refine wpList_append_int _ rfl _ _ rfl wz.heap.size _ R.length _ rfl ((unhide HOWN).alloc _) wy.heap.size (y : Int) rfl (by simp) (by omega) (by have := hby.size; simp; omega) ?_; intro v2 w2 ho2 hg2)
                                go_roundw
                                case rel =>
                                  have hb5 := hby.trans (((Below.refl wz.heap.size wy).alloc hby.size (.cells #[.int .i64 (y : Int)] 3)).grown hg2 (by have := hby.size; simp; omega) (fun q hq => ((unhide HOWN).lt q hq).1))
                                  refine ⟨hb5, y + 1, R ++ [(y : Int)], by omega, by go_num, ?_, by rw [List.length_append]; simp; omega, unhide HND2, unhide HM2⟩
                                  rw [List.length_append, intVals_append]
                                  exact ho2
                                case measure => simp [intOf]; omega
                            · have hyb : ((y : Int) != (p : Int)) = true := by simpa using (show ¬ (y : Int) = (p : Int) by omega)
                              have hye : ((y : Int) == (p : Int)) = false := by simpa using (show ¬ (y : Int) = (p : Int) by omega)
                              have hyi : ¬ (y : Int) = (p : Int) := by omega
                              by_cases hqn : q < n
                              · have dq : decide ((q : Int) < (n : Int)) = true := decide_eq_true (by omega)
                                have C2 := unhide HSF wy hby y hyn hyg
                                obtain ⟨x2, hx2⟩ : ∃ x, Nx (lisA WL) (lisA FL) S1 y = x := ⟨_, rfl⟩
                                rw [hx2] at C2
                                have D2 := hide C2
                                have HX2 : Hid (itx (lisA WL) (lisA FL) S1 (q + 1 + 1) p = x2) := by show _ = _; rw [itx_next, unhide HY, hx2]
                                have HYP := hide hyp
                                clear C2 hx2 hyp
                                go_wp2_with (go_at_call 40; refine (unhide D2).mono ?_; rintro e w9 ⟨rfl, hw9⟩; subst w9)
                                refine ⟨⟨q + 1, x2, by omega, by go_num, rfl, unhide HX2, fun t h1 h2 => ?_⟩, by simp [intOf]; omega⟩
                                by_cases e : t = q + 1
                                · rw [e, unhide HY]; exact unhide HYP
                                · exact unhide HNT t h1 (by omega)
                              · have dq : decide ((q : Int) < (n : Int)) = false := decide_eq_false (by omega)
                                have HM2 := hide (unhide HNO (fun t h1 h2 => by
                                  by_cases e : t = q + 1
                                  · rw [e, unhide HY]; exact hyp
                                  · exact unhide HNT t h1 (by omega)))
                                go_wp2
                                go_roundw
                                case rel => exact ⟨hby, p + 1, R, by omega, by go_num, unhide HOWN, by omega, unhide HND, unhide HM2⟩
                                case measure => simp [intOf]; omega
                        · have hgt : gb S1 p = true := by unfold gb; exact decide_eq_true hwt
                          rw [hgt] at hnc
                          have HM2 : Hid (∀ x, x ∈ R ↔ ∃ j : Nat, j < p + 1 ∧ x = j ∧ Rin n (lisA WL) (lisA FL) S1 j) := fun x => by
                            rw [unhide HMEM]
                            constructor
                            · rintro ⟨j, h3, h4, h5⟩
                              exact ⟨j, by omega, h4, h5⟩
                            · rintro ⟨j, h3, h4, h5⟩
                              refine ⟨j, ?_, h4, h5⟩
                              by_cases e2 : j = p
                              · subst e2; exact absurd h5.2.1 hwt
                              · omega
                          clear hwt hgt
                          go_wp2
                          go_roundw
                          case rel => exact ⟨hby, p + 1, R, by omega, by go_num, unhide HOWN, by omega, unhide HND, unhide HM2⟩
                          case measure => simp [intOf]; omega
                      · obtain rfl : n = p := by omega
                        obtain ⟨ra2, rc2, hv2, hIR, _⟩ := Ints.of_owns (unhide HOWN) (by omega)
                        subst hv2
                        have hRl := hIR.2.1
                        have hRm := hIR.2.2.1
                        unfold maxLen at hRm
                        have HMR : Hid (∀ j : Nat, (j : Int) ∈ R ↔ Rin n (lisA WL) (lisA FL) S1 j) := fun j => by
                          rw [unhide HMEM]
                          exact ⟨fun ⟨i, _, h2, h3⟩ => by rw [show j = i by omega]; exact h3, fun h => ⟨j, h.1, rfl, h⟩⟩
                        have HRR : Hid (∀ x ∈ R, 0 ≤ x ∧ x < n) := fun x hx => by
                          obtain ⟨j, h1, h2, _⟩ := (unhide HMEM x).1 hx
                          omega
                        have HCY : Hid (∀ j : Nat, (j : Int) ∈ R → Cyc n (lisA WL) (lisA FL) S1 j) := fun j hj => (rin_cyc (unhide HL1) (unhide HNX) ((unhide HMR j).1 hj)).1
                        have HBB : Hid (∀ b off, ra2 = some ⟨b, off, none⟩ → 0 < R.length → wz.heap.size ≤ b) := fun b off hb hl => by
                          rcases (unhide HOWN).2 with ⟨h, h'⟩ | ⟨g, cap, cur, h, hbg, _⟩
                          · injection h with e1; rw [hb] at e1; cases e1
                          · injection h with e1; rw [hb] at e1; cases e1; exact hbg
                        have HIR := hide hIR
                        have hb0y := hbz.trans (hby.mono hbz.size)
                        obtain ⟨rN, hrN⟩ : ∃ r, R.length = r := ⟨_, rfl⟩
                        rw [hrN] at hRl hRp HIR HBB ⊢
                        have HRN := hide hrN
                        clear hIR HOWN HMEM hrN HSF HNC
                        go_wp2_with fail
                        go_loopw [24, 25, 23] (fun i _ v wx => Below wy.heap.size wy wx ∧ ∃ q : Nat, q ≤ rN ∧ i = .int .i64 q ∧ wx.ownsRow wy.heap.size 3 1 v q (intVals ((R.take q).map fun x => Bx (lisA WL) S1 x.toNat))) (fun i _ _ _ => rN - (intOf i).toNat)
                        case atStart => exact ⟨Below.refl _ _, 0, Nat.zero_le _, rfl, by rw [List.take_zero]; exact World.ownsRow_nil _ _ _ _⟩
                        case round =>
                          rename World => wx
                          obtain ⟨hbx, q, hq, rfl, hown⟩ := hrel
                          have hb0x := hb0y.trans (hbx.mono hb0y.size)
                          have HOW := hide hown
                          clear hown
                          by_cases hqr : q < rN
                          · obtain ⟨bR, oR, hra, hbR, hcR⟩ := ((unhide HIR).later hbx).cellAt (by omega)
                            subst hra
                            have hcr := hcR q hqr
                            have hql : q < R.length := by have := unhide HRN; omega
                            have hrg := unhide HRR _ (getD_mem hql)
                            obtain ⟨x, hx⟩ : ∃ x : Nat, R[q]?.getD 0 = x := ⟨(R[q]?.getD 0).toNat, by omega⟩
                            rw [hx] at hcr hrg
                            have hxn : x < n := by omega
                            obtain ⟨bW, oW, hWa, hbW, hcW⟩ := ((unhide HWW).later hb0x).cellAt (by omega)
                            subst hWa
                            have hcx := hcW x hxn
                            obtain ⟨z, hz⟩ : ∃ z, Bx (lisA WL) S1 x = z := ⟨_, rfl⟩
                            have CB := school_any (slAt WL x).la (slAt WL x).ln (slAt WL x).lc (slAt WL x).ints la fn lc S1.left wx (((unhide HWW).later hb0x).mem hxn) (((unhide HROWS).1.later (hby.trans (hbx.mono hby.size))).cel hlc hlm) (unhide HR x)
                            rw [show fst (fun s => 0 < S1.left s) (slAt WL x).ints = z from hz] at CB
                            have C1 := hide CB
                            have HTK : Hid ((R.take (q + 1)).map (fun x => Bx (lisA WL) S1 x.toNat) = (R.take q).map (fun x => Bx (lisA WL) S1 x.toNat) ++ [z]) := by
                              show _ = _
                              rw [List.take_succ_eq_append_getElem hql, List.map_append]
                              rw [List.getElem?_eq_getElem hql] at hx
                              have hx : R[q] = (x : Int) := hx
                              rw [List.map_cons, List.map_nil, hx, Int.toNat_natCast, hz]
                            clear CB hcW hcR hz hx hql
                            generalize slAt WL x = s1 at *
                            obtain ⟨sa, sn, sc, sl⟩ := s1
                            simp only at hcx C1
                            go_wp2_with (first | (go_at_call 39; refine (unhide C1).mono ?_; rintro e w9 ⟨rfl, hw9⟩; subst w9) | (at_builtin; refine wpList_append_int _ rfl _ _ rfl wy.heap.size _ q _ rfl ((unhide HOW).alloc _) wx.heap.size z rfl (by simp) (by omega) (by have := hbx.size; simp; omega) ?_; intro v2 w2 ho2 hg2))
                            go_roundw
                            case rel =>
                              have hb5 := hbx.trans (((Below.refl wy.heap.size wx).alloc hbx.size (.cells #[.int .i64 z] 3)).grown hg2 (by have := hbx.size; simp; omega) (fun q hq => ((unhide HOW).lt q hq).1))
                              refine ⟨hb5, q + 1, by omega, by go_num, ?_⟩
                              rw [unhide HTK, intVals_append]
                              exact ho2
                            case measure => simp [intOf]; omega
                          · obtain rfl : rN = q := by omega
                            rw [List.take_of_length_le (by have := unhide HRN; omega)] at HOW
                            obtain ⟨ta, tc, hv3, hIT, _⟩ := Ints.of_owns (unhide HOW) (by omega)
                            subst hv3
                            have htl := hIT.2.1
                            have htm := hIT.2.2.1
                            unfold maxLen at htm
                            have HTB : Hid (∀ b off, ta = some ⟨b, off, none⟩ → 0 < rN → wz.heap.size ≤ b) := fun b off hb hl => by
                              rcases (unhide HOW).2 with ⟨h, h'⟩ | ⟨g, cap, cur, h, hbg, _⟩
                              · injection h with e1; rw [hb] at e1; cases e1
                              · injection h with e1; rw [hb] at e1; cases e1; have := hby.size; omega
                            have hIR2 := (unhide HIR).later hbx
                            have hbzx := hby.trans (hbx.mono hby.size)
                            have hL7 := (unhide HROWS).1.later hbzx
                            have hG7 := (unhide HROWS).2.1.later hbzx
                            have hN7 := (unhide HROWS).2.2.later hbzx
                            clear HOW HIR
                            go_wp2_with fail
                            go_loopw [26] (fun i wv => Below w.heap.size w wv ∧ ∃ (q : Nat) (S2 : Ex), q ≤ rN ∧ i = .int .i64 q ∧ Do (lisA WL) S1 (fun j => (j : Int) ∈ R.take q) S2 ∧ Row w.heap.size wv la fn S2.left ∧ Row w.heap.size wv (some ⟨gG, 0, none⟩) n (gz S2) ∧ RowB w.heap.size wv (some ⟨gN, 0, none⟩) n (gb S2) ∧ Ints wv ra2 rN rc2 R ∧ Ints wv ta rN tc (R.map fun x => Bx (lisA WL) S1 x.toNat) ∧ (∀ s, s < fn → 0 ≤ S2.left s ∧ S2.left s ≤ 6)) (fun i _ => rN - (intOf i).toNat)
                            case atStart => exact ⟨hb0x, 0, S1, Nat.zero_le _, rfl, do_zero S1 _ (fun i h => by simp at h), hL7, hG7, hN7, hIR2, hIT, unhide HB1⟩
                            case round =>
                              rename World => wv
                              clear hL7 hG7 hN7 hIR2 hIT
                              obtain ⟨hbv, q, S2, hq, rfl, hdo, hL8, hG8, hN8, hI8, hT8, hbd8⟩ := hrel
                              have HDO := hide hdo
                              clear hdo
                              by_cases hqr : q < rN
                              · obtain ⟨bR, oR, hra, hbR, hcR⟩ := hI8.cellAt (by omega)
                                obtain ⟨bT, oT, hta, hbT, hcT⟩ := hT8.cellAt (by omega)
                                subst hra hta
                                have hRb := unhide HBB bR oR rfl (by omega)
                                have hTb := unhide HTB bT oT rfl (by omega)
                                have hcr := hcR q hqr
                                have hct := hcT q hqr
                                have hql : q < R.length := by have := unhide HRN; omega
                                have hrg := unhide HRR _ (getD_mem hql)
                                have hxm := getD_mem hql
                                obtain ⟨x, hx⟩ : ∃ x : Nat, R[q]?.getD 0 = x := ⟨(R[q]?.getD 0).toNat, by omega⟩
                                rw [hx] at hcr hrg hxm
                                have hxn : x < n := by omega
                                have hcy := unhide HCY x hxm
                                have hbx0 : 0 ≤ Bx (lisA WL) S1 x := (hcy.2 0).2.2
                                have hbxr : Bx (lisA WL) S1 x < fn := by rcases bx_range (unhide HR) S1 x with h | h <;> omega
                                have hct2 : (R.map fun x => Bx (lisA WL) S1 x.toNat)[q]?.getD 0 = Bx (lisA WL) S1 x := by
                                  rw [List.getElem?_map, List.getElem?_eq_getElem hql]
                                  rw [List.getElem?_eq_getElem hql] at hx
                                  have hx : R[q] = (x : Int) := hx
                                  show Bx (lisA WL) S1 R[q].toNat = _
                                  rw [hx, Int.toNat_natCast]
                                rw [hct2] at hct
                                have hxt : ¬ (x : Int) ∈ R.take q := by
                                  intro h
                                  obtain ⟨j, hj, e⟩ := List.getElem_of_mem h
                                  rw [List.getElem_take] at e
                                  rw [List.getElem?_eq_getElem hql] at hx
                                  have hx : R[q] = (x : Int) := hx
                                  have hj2 : j < q ∧ j < R.length := by rw [List.length_take] at hj; omega
                                  have := (List.getElem_inj (unhide HND) (h₀ := hj2.2) (h₁ := hql)).1 (by rw [e, hx])
                                  omega
                                obtain ⟨hb2x, hd2⟩ := do_add (fi := lisA FL) (fun i y hy => (unhide HR i y hy).1) (fun i hi => .inr (unhide HCY i (List.mem_of_mem_take hi))) (.inr hcy) hxt (unhide HDO)
                                obtain ⟨t, ht⟩ : ∃ t : Nat, Bx (lisA WL) S1 x = t := ⟨(Bx (lisA WL) S1 x).toNat, by omega⟩
                                have hlpos : 0 < S2.left t := by
                                  rcases bx_range (unhide HR) S2 x with h | h
                                  · omega
                                  · rw [hb2x, ht, Int.toNat_natCast] at h; exact h.2.2
                                rw [ht] at hct hd2 hbxr
                                have htf : t < fn := by omega
                                have HD2 : Hid (Do (lisA WL) S1 (fun j => (j : Int) ∈ R.take (q + 1)) (one S2 x t)) := hd2.iff fun j => by
                                  rw [List.take_succ_eq_append_getElem hql, List.mem_append, List.mem_singleton]
                                  rw [List.getElem?_eq_getElem hql] at hx
                                  have hx : R[q] = (x : Int) := hx
                                  rw [hx]
                                  exact ⟨fun h => h.elim .inl (fun h => .inr (by rw [h])), fun h => h.elim .inl (fun h => .inr (by omega))⟩
                                obtain ⟨hnc, hnf, hns, hnb⟩ := hN8.at hxn
                                obtain ⟨hgc, hgf, hgs, hgbb⟩ := hG8.at hxn
                                obtain ⟨gL, hla⟩ : ∃ gL, la = some ⟨gL, 0, none⟩ := by
                                  rcases hL8 with h | ⟨g, h, _⟩
                                  · omega
                                  · exact ⟨g, h⟩
                                have hgLlt := unhide HLA gL hla (by omega)
                                subst hla
                                obtain ⟨hlc8, hlf8, hls8, hlb8⟩ := hL8.at htf
                                have hbt := hbd8 t htf
                                have hzN : gN < wz.heap.size := by
                                  have := ((unhide HROWS).2.2.at hxn).2.2.1
                                  exact this
                                have HP : Hid (∀ (W0 W : World), Below w.heap.size w W0 → Row w.heap.size W0 (some ⟨gL, 0, none⟩) fn S2.left → Row w.heap.size W0 (some ⟨gG, 0, none⟩) n (gz S2) → RowB w.heap.size W0 (some ⟨gN, 0, none⟩) n (gb S2) → Ints W0 (some ⟨bR, oR, none⟩) rN rc2 R → Ints W0 (some ⟨bT, oT, none⟩) rN tc (R.map fun x => Bx (lisA WL) S1 x.toNat) →
                                    W = ((W0.setCell ⟨gG, x, none⟩ (.int .i64 t)).setCell ⟨gN, x, none⟩ (.bool true)).setCell ⟨gL, t, none⟩ (.int .i64 (S2.left t - 1)) → Below w.heap.size w W ∧ Row w.heap.size W (some ⟨gL, 0, none⟩) fn (one S2 x t).left ∧ Row w.heap.size W (some ⟨gG, 0, none⟩) n (gz (one S2 x t)) ∧ RowB w.heap.size W (some ⟨gN, 0, none⟩) n (gb (one S2 x t)) ∧ Ints W (some ⟨bR, oR, none⟩) rN rc2 R ∧ Ints W (some ⟨bT, oT, none⟩) rN tc (R.map fun x => Bx (lisA WL) S1 x.toNat) ∧ (∀ s, s < fn → 0 ≤ (one S2 x t).left s ∧ (one S2 x t).left s ≤ 6)) := fun W0 W k1 k2 k3 k4 k5 k6 hWe => by
                                  subst hWe
                                  refine ⟨((k1.setCell (p := ⟨gG, x, none⟩) hgbb _).setCell (p := ⟨gN, x, none⟩) hnb _).setCell (p := ⟨gL, t, none⟩) hlb8 _, ?_, ?_, ?_, ((k5.apart (by omega)).apart (by omega)).apart (by omega), ((k6.apart (by omega)).apart (by omega)).apart (by omega), fun s hs => ?_⟩
                                  · exact ((k2.apart (fun b hb => by cases hb; omega)).apart (fun b hb => by cases hb; omega)).set htf (fun j hj hjt => (one_left (by omega)).symm) (if_pos rfl).symm
                                  · exact ((k3.set hxn (fun j hj hjx => (gz_one hjx).symm) (gz_self (by omega)).symm).apart (fun b hb => by cases hb; omega)).apart (fun b hb => by cases hb; omega)
                                  · exact ((k4.apart (fun b hb => by cases hb; omega)).set hxn (fun j hj hjx => (gb_one hjx).symm) (gb_self (by omega)).symm).apart (fun b hb => by cases hb; omega)
                                  · have := hbd8 s hs
                                    by_cases e : s = t
                                    · subst e
                                      have e2 : (one S2 x s).left s = S2.left s - 1 := if_pos rfl
                                      rw [e2]; omega
                                    · have e2 : (one S2 x t).left s = S2.left s := one_left (by omega)
                                      rw [e2]; exact this
                                have zw : IntKind.i64.wrap (S2.left t - 1) = S2.left t - 1 := by rw [IntKind.wrap_i64]; omega
                                clear hd2 hb2x hct2 hx hxm hcy hcR hcT ht hql hxt
                                go_wp2_with fail
                                refine wp_region_still_tail 10 (by kernel_rfl) (by kernel_rfl) ?_
                                simp only [List.take_succ_cons, List.take_zero, List.drop_succ_cons, List.drop_zero]
                                show wpStill Try.prog _ wv.drew (fun a' => wpList Try.prog _ _ _ a' wv.drew) _ _
                                repeat still_step
                                refine wpStill_nil ?_
                                go_wp2_with fail
                                obtain ⟨p1, p2, p3, p4, p5, p6, p7⟩ := unhide HP wv _ hbv hL8 hG8 hN8 hI8 hT8 rfl
                                go_roundw
                                case rel => exact ⟨p1.trans ((Below.refl _ _).drew.mono p1.size), q + 1, one S2 x t, by omega, by go_num, unhide HD2, p2.later (Below.refl _ _).drew, p3.later (Below.refl _ _).drew, p4.later (Below.refl _ _).drew, p5.later (Below.refl _ _).drew, p6.later (Below.refl _ _).drew, p7⟩
                                case measure => simp [intOf]; omega
                              · obtain rfl : rN = q := by omega
                                have hDo := unhide HDO
                                rw [List.take_of_length_le (by have := unhide HRN; omega)] at hDo
                                have hDo2 := hDo.iff (unhide HMR)
                                have HRE2 : Hid (Reach n (lisA WL) (lisA FL) (kk + 1 + 1) S0 S2) := reach_add (kk + 1) 1 _ _ _ (unhide HRE1) ⟨_, S2, rin_ok (unhide HL1) (unhide HNX), hDo2, rfl⟩
                                have HW2 : Hid (waitN S2.got n ≤ n - (k + 1)) := by
                                  show _ ≤ _
                                  have h01 : waitN S1.got n ≤ waitN S.got n := wait_le n (fun j _ hj => unhide HG01 j hj)
                                  have h0 := unhide HWN
                                  by_cases hz : waitN S2.got n = 0
                                  · omega
                                  · obtain ⟨j, hj, hg⟩ := wait_pos n (by omega : 0 < waitN S2.got n)
                                    have h1 := do_gone (fun i y hy => (unhide HR i y hy).1) hDo2 hg
                                    obtain ⟨j0, hj0⟩ := rin_some (unhide HL1) (unhide HNX) hj h1.1
                                    have h2 : waitN S2.got n < waitN S1.got n := wait_lt n (fun i _ hi => (do_gone (fun i y hy => (unhide HR i y hy).1) hDo2 hi).1) ⟨j0, hj0.1, hj0.2.1, fun h => (do_gone (fun i y hy => (unhide HR i y hy).1) hDo2 h).2 hj0⟩
                                    omega
                                clear hDo hDo2
                                go_wp2
                                go_roundw
                                case rel => exact ⟨hbv, k + 1, kk + 1 + 1, S2, by omega, by go_num, unhide HRE2, unhide HW2, hL8, hG8, hN8, hbd8⟩
                                case measure => simp [intOf]; omega
              · have d0 : decide ((k : Int) < 2 * (n : Int) + 1) = false := decide_eq_false (by omega)
                have hdn : Done n S := wait_zero n (by omega)
                go_wp2
                go_ret2
                refine ⟨hbr, .inr ⟨unhide HN, _, _, S, kk, rfl, hGr.ints (by simp [gotL]) (Nat.le_refl _) (by unfold maxLen; omega) (fun j hj => ?_), by rw [unhide HS0]; exact hre, hdn⟩⟩
                rw [gotL_at S hj]
                exact if_neg (hdn j hj)

  · have HF := hide (show schE WL FL rl n m fn = 7 by unfold schE; rw [if_neg c1, if_pos c2])
    go_enter Try.func21, Try.ntmps21
    go_wp2
    go_ret2
    exact ⟨Below.refl _ _, .inl ⟨by rw [unhide HF]; omega, by rw [unhide HF]; rfl⟩⟩
end Go.Proofs.Ytihmbfapbkddeaa
