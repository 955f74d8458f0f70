import Derived.Test.YtihmbfapbkddeaaZ4
namespace Go.Proofs.Ytihmbfapbkddeaa
open Go.RowKit
theorem deal_none (wi : Nat → List Int) (gt : List Int) (n : Nat) : dealL wi gt (whoL 0 n) 0 false = false := by
  have : whoL 0 n = [] := by unfold whoL; rw [List.filter_eq_nil_iff]; intro a _; simp
  rw [this]; rfl
theorem ord_nodup {l : List Int} {n : Nat} (h : ordE l n = 0) : l.Nodup := by
  unfold ordE at h
  by_cases c : (l.length : Int) = n
  · rw [if_pos c] at h; exact likes_nodup h
  · rw [if_neg c] at h; omega
set_option maxRecDepth 100000 in
set_option maxHeartbeats 8000000 in
theorem refCore_any (n : Nat) (wa : Option Addr) (wc : Nat) (WL : List Sl) (ta : Option Addr) (tn tc : Nat) (tl : List Int) (w : World) (hW : Lsts w wa n wc WL) (hT : Ints w ta tn tc tl) :
    Calls Try.prog 16 #[.slice wa n wc, .slice ta tn tc] w fun e w' => e = .returned (corV WL n tl) ∧ Below w.heap.size w w' := by
  have CM := hide (tradeMay_any n wa wc WL w hW)
  have CO := hide (orderOf_any ta tn tc tl n w hT)
  have HN := hide hW.1
  have h1 := hW.2.1
  have h2 := hW.2.2.1
  unfold maxLen at h2
  by_cases hz : tE WL n = 0
  · obtain ⟨hn6, hr, hfull, hord⟩ := tr_ok (unhide HN) hz
    rw [hz] at CM
    by_cases hz2 : ordE tl n = 0
    · rw [hz2] at CO
      have htl : tn = n := by
        have := hT.1
        unfold ordE at hz2
        by_cases c : (tl.length : Int) = n
        · omega
        · rw [if_neg c] at hz2; omega
      have HV : Hid (corV WL n tl = coreV (findF (fun s => dealL (lisA WL) tl (whoL s n) s false) (2 ^ n) 0)) := by
        show _ = _
        unfold corV
        rw [if_neg (by omega), if_neg (by omega)]
      subst htl
      have htr := ord_range hz2
      have hg : ∀ k, k < tn → tl[k]?.getD 0 ∈ lisA WL k := fun k hk => by
        have := htr _ (getD_mem (l := tl) (k := k) (by have := hT.1; omega))
        have h3 := hfull k hk (tl[k]?.getD 0).toNat (by omega)
        rwa [Int.toNat_of_nonneg this.1] at h3
      have hN : 2 ^ tn ≤ 64 := Nat.le_trans (Nat.pow_le_pow_right (by omega) hn6) (by decide)
      have hN1 : 1 ≤ 2 ^ tn := Nat.one_le_two_pow
      have HS : Hid (∀ s, dealL (lisA WL) tl (whoL s tn) s false = (permsL ((whoL s tn).map Int.ofNat)).any fun p => fineL (lisA WL) tl (whoL s tn) p && moreL (lisA WL) tl (whoL s tn) p) := fun s => core_same (fun i hi => ord_nodup (hord i hi)) hr hfull hg s
      have HZ0 := hide (deal_none (lisA WL) tl tn)
      have HWW := hide hW
      have HT := hide hT
      clear hz hz2 htr hW hT hr hfull hg hord
      obtain ⟨f, hf⟩ : ∃ f : Nat → Bool, (fun s => dealL (lisA WL) tl (whoL s tn) s false) = f := ⟨_, rfl⟩
      rw [hf] at HV
      have HFF : Hid (∀ s, f s = (permsL ((whoL s tn).map Int.ofNat)).any fun p => fineL (lisA WL) tl (whoL s tn) p && moreL (lisA WL) tl (whoL s tn) p) := fun s => by rw [← hf]; exact unhide HS s
      have HF0 : Hid (f 0 = false) := by show _ = _; rw [← hf]; exact unhide HZ0
      clear hf HS HZ0
      obtain ⟨N, hNe⟩ : ∃ N, N = 2 ^ tn := ⟨_, rfl⟩
      rw [← hNe] at hN HV hN1
      have hsh : ∀ m : Nat, m ≤ 6 → IntKind.i64.wrap (2 ^ m) = ((2 ^ m : Nat) : Int) := by decide
      have hs1 : IntKind.i64.wrap (2 ^ tn) = (N : Int) := by rw [hsh tn hn6, hNe]
      clear hsh hNe
      go_enter Try.func16, Try.ntmps16
      go_wp2_with (first | (go_at_call 11; refine (unhide CM).mono ?_; rintro e w4 ⟨rfl, hw4⟩; subst w4) | (go_at_call 28; refine (unhide CO).mono ?_; rintro e w4 ⟨rfl, hw4⟩; subst w4))
      go_loopw [8, 9, 10, 11, 12, 13] (fun q _ _ _ _ _ wy => Below w.heap.size w wy ∧ ∃ k : Nat, 1 ≤ k ∧ k ≤ N ∧ q = .int .i64 k ∧ findF f N 0 = findF f N k) (fun q _ _ _ _ _ _ => N - (intOf q).toNat)
      case atStart => exact ⟨Below.refl _ _, 1, Nat.le_refl _, hN1, rfl, find_no hN1 (unhide HF0)⟩
      case round =>
        rename World => wr
        obtain ⟨hbr, k, hk1, hk, rfl, hi⟩ := hrel
        have HI := hide hi
        clear hi
        by_cases hlt : k < N
        · have CB := hide (bits_any k tn (by omega) hn6 wr)
          go_wp2_with (go_at_call 31; refine (unhide CB).mono ?_; rintro e w5 ⟨ba, bc, rfl, hB5, hb5⟩)
          have hwl : (whoL k tn).length ≤ 6 := Nat.le_trans (whoT_len k tn) hn6
          have HWR : Hid (∀ x ∈ whoL k tn, x < tn) := fun x hx => by unfold whoL at hx; rw [List.mem_filter] at hx; exact List.mem_range.1 hx.1
          have HFK := hide (unhide HFF k)
          have CP := hide (perms_any (whoL k tn).length ba (whoL k tn).length bc ((whoL k tn).map Int.ofNat) w5 (by simp) hwl hB5)
          have hbw5 := hbr.trans (hb5.mono hbr.size)
          have HB5 := hide hB5
          clear hB5 CB
          generalize whoL k tn = wh at *
          obtain ⟨m, hm⟩ : ∃ m, wh.length = m := ⟨_, rfl⟩
          rw [hm] at CP HB5 hwl
          have HM := hide hm
          rw [hm]
          clear hm
          go_wp2_with (go_at_call 32; refine (unhide CP).mono ?_; rintro e w6 ⟨v6, L6, rfl, ho6, hi6, hl6, hb6⟩; obtain ⟨a6, c6, hv6, hL6⟩ := Lsts.of_owns ho6 (fun s hs => (hi6 s hs).1); subst hv6; have HL6 := hide hL6; have HLL := hide hl6; have hm6 := hL6.2.1; have hm7 := hL6.2.2.1; unfold maxLen at hm7; clear ho6 hi6 hl6 hL6)
          have hbw6 := hbw5.trans (hb6.mono hbw5.size)
          have HFK2 : Hid (f k = ((lists L6).drop 0).any fun p => fineL (lisA WL) tl wh p && moreL (lisA WL) tl wh p) := by
            show _ = _
            rw [unhide HFK, unhide HLL]; rfl
          have HWH : Hid (∀ W, Below w6.heap.size w6 W → Ints W ba m bc (wh.map Int.ofNat)) := fun W hb => ((unhide HB5).later hb6).later hb
          clear HFK HB5
          go_loopw [11, 12, 13] (fun q _ _ wy => Below w6.heap.size w6 wy ∧ ∃ j : Nat, j ≤ L6.length ∧ q = .int .i64 j ∧ f k = ((lists L6).drop j).any fun p => fineL (lisA WL) tl wh p && moreL (lisA WL) tl wh p) (fun q _ _ _ => L6.length - (intOf q).toNat)
          case atStart => exact ⟨Below.refl _ _, 0, Nat.zero_le _, rfl, unhide HFK2⟩
          case round =>
            rename World => wy
            obtain ⟨hby, j, hj, rfl, hfj⟩ := hrel
            have HFJ := hide hfj
            have hbwy := hbw6.trans (hby.mono hbw6.size)
            clear hfj
            by_cases hjl : j < L6.length
            · obtain ⟨b6, o6, ha6, hb6', hc6⟩ := ((unhide HL6).later hby).cellAt (by omega)
              subst ha6
              have hcp := hc6 j hjl
              have hIs := ((unhide HL6).later hby).mem hjl
              have HLJ : Hid ((lists L6).drop j = (slAt L6 j).ints :: (lists L6).drop (j + 1)) := by
                show _ = _
                rw [drop_cons (lists L6) j [] (by simp [lists]; exact hjl)]
                unfold lists slAt
                rw [List.getElem?_map, List.getElem?_eq_getElem hjl]
                rfl
              have hsl : (slAt L6 j).ln = m := by
                have h1 : (slAt L6 j).ints ∈ lists L6 := by
                  have h2 : (slAt L6 j).ints ∈ (lists L6).drop j := by rw [unhide HLJ]; exact List.mem_cons_self
                  exact List.mem_of_mem_drop h2
                rw [unhide HLL] at h1
                have h2 := ((perms_mem' _ _).1 h1).length_eq
                have h3 := hIs.1
                have := unhide HM
                simp at h2
                omega
              have CR := refBetter_any tn wa wc WL ta tc tl ba m bc wh (slAt L6 j).la (slAt L6 j).lc (slAt L6 j).ints wy ((unhide HWW).later hbwy) ((unhide HT).later hbwy) (unhide HWH wy hby) (by rw [hsl] at hIs; exact hIs) (unhide HWR) hn6 hwl
              have HFN : Hid (f k = ((fineL (lisA WL) tl wh (slAt L6 j).ints && moreL (lisA WL) tl wh (slAt L6 j).ints) || ((lists L6).drop (j + 1)).any fun p => fineL (lisA WL) tl wh p && moreL (lisA WL) tl wh p)) := by
                show _ = _
                rw [unhide HFJ, unhide HLJ, List.any_cons]
              clear hc6 hIs HLJ
              generalize fineL (lisA WL) tl wh (slAt L6 j).ints = F1 at *
              generalize moreL (lisA WL) tl wh (slAt L6 j).ints = M1 at *
              generalize slAt L6 j = sj at *
              obtain ⟨sa, sn, sc, si⟩ := sj
              simp only at hcp hsl CR
              subst hsl
              have C1 := hide CR
              clear CR
              unfold betV at C1
              cases F1 with
              | false =>
                go_wp2_with (go_at_call 33; refine (unhide C1).mono ?_; rintro e w8 ⟨rfl, hb8⟩)
                go_roundw
                case rel => exact ⟨hby.trans (hb8.mono hby.size), j + 1, by omega, by go_num, by rw [unhide HFN]; rfl⟩
                case measure => simp [intOf]; omega
              | true =>
                cases M1 with
                | false =>
                  go_wp2_with (go_at_call 33; refine (unhide C1).mono ?_; rintro e w8 ⟨rfl, hb8⟩)
                  go_roundw
                  case rel => exact ⟨hby.trans (hb8.mono hby.size), j + 1, by omega, by go_num, by rw [unhide HFN]; rfl⟩
                  case measure => simp [intOf]; omega
                | true =>
                  have HE : Hid (corV WL tn tl = three false k 0) := by
                    show _ = _
                    rw [unhide HV, unhide HI, find_yes hlt (by rw [unhide HFN]; rfl)]
                    rfl
                  go_wp2_with (go_at_call 33; refine (unhide C1).mono ?_; rintro e w8 ⟨rfl, hb8⟩)
                  go_ret3
                  exact ⟨by rw [unhide HE]; rfl, hbwy.trans (hb8.mono hbwy.size)⟩
            · have HFE : Hid (f k = false) := by
                show _ = _
                rw [unhide HFJ, List.drop_of_length_le (by simp [lists]; omega)]
                rfl
              have djl : decide ((j : Int) < (L6.length : Int)) = false := decide_eq_false (by omega)
              go_wp2
              go_roundw
              case rel => exact ⟨hbwy, k + 1, by omega, by omega, by go_num, by rw [unhide HI, find_no hlt (unhide HFE)]⟩
              case measure => simp [intOf]; omega
        · have HE : Hid (corV WL tn tl = three true 0 0) := by
            show _ = _
            rw [unhide HV, unhide HI, find_end hlt]
            rfl
          go_wp2
          go_ret3
          exact ⟨by rw [unhide HE]; rfl, hbr⟩
    · have HE : Hid (corV WL n tl = three false 0 (ordE tl n)) := by
        show _ = _
        unfold corV
        rw [if_neg (by omega), if_pos hz2]
      generalize ordE tl n = z at *
      have hb2 : (z != 0) = true := by simpa using hz2
      clear hW hT hr hfull hord
      go_enter Try.func16, Try.ntmps16
      go_wp2_with (first | (go_at_call 11; refine (unhide CM).mono ?_; rintro e w4 ⟨rfl, hw4⟩; subst w4) | (go_at_call 28; refine (unhide CO).mono ?_; rintro e w4 ⟨rfl, hw4⟩; subst w4))
      go_ret3
      exact ⟨by rw [unhide HE]; rfl, Below.refl _ _⟩
  · have HE : Hid (corV WL n tl = three false 0 (tE WL n)) := by
      show _ = _
      unfold corV
      rw [if_pos hz]
    generalize tE WL n = z at *
    have hb2 : (z != 0) = true := by simpa using hz
    clear hW hT
    go_enter Try.func16, Try.ntmps16
    go_wp2_with (go_at_call 11; refine (unhide CM).mono ?_; rintro e w4 ⟨rfl, hw4⟩; subst w4)
    go_ret3
    exact ⟨by rw [unhide HE]; rfl, Below.refl _ _⟩
end Go.Proofs.Ytihmbfapbkddeaa
