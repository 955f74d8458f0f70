import Derived.Test.YtihmbfapbkddeaaV
namespace Go.Proofs.Ytihmbfapbkddeaa
open Go.RowKit
theorem andNot_bit2 : ∀ s : Nat, s < 64 → ∀ x : Nat, x < 6 → s.testBit x = true → bits .andNot .i64 (s : Int) (IntKind.i64.wrap (2 ^ x)) = ((s ^^^ 2 ^ x : Nat) : Int) := by decide +kernel
set_option maxRecDepth 100000 in
set_option maxHeartbeats 8000000 in
theorem deal_any (n : Nat) (wa : Option Addr) (wc : Nat) (WL : List Sl) (ga : Option Addr) (gc : Nat) (gt : List Int) (b set : Nat) (hn6 : n ≤ 6) (hs64 : set < 64)
    (hr : ∀ i, ∀ x ∈ lisA WL i, 0 ≤ x ∧ x < n) (hg : ∀ k, k < n → gt[k]?.getD 0 ∈ lisA WL k) :
    ∀ (d k : Nat) (kI : Int) (left : Nat) (gain : Bool) (w : World), n - k = d → k ≤ n → kI = k → left < 64 → DB w b wa n wc set ga n gc → Lsts w wa n wc WL → Ints w ga n gc gt →
    Calls Try.prog 44 #[.int .i64 kI, .int .i64 left, .bool gain, .pointer (some ⟨b, 0, none⟩), .pointer (some ⟨b + 2, 0, none⟩), .pointer (some ⟨b + 3, 0, none⟩), .pointer (some ⟨b + 1, 0, none⟩)] w fun e w' => e = .returned (.bool (dealL (lisA WL) gt (whoF set n k) left gain)) ∧ Below w.heap.size w w' := by
  intro d
  induction d with
  | zero =>
    intro k kI left gain w hd hk hkI hl hB hW hG
    obtain rfl : n = k := by omega
    subst hkI
    have HE : Hid (dealL (lisA WL) gt (whoF set n n) left gain = gain) := by rw [who_end]; rfl
    have c0 := hB.c0
    have h2 := hW.2.2.1
    unfold maxLen at h2
    go_enter Try.func44, Try.ntmps44
    go_wp2
    go_ret
    exact ⟨ret_bool (unhide HE).symm, Below.refl _ _⟩
  | succ d ih =>
    intro k kI left gain w hd hk hkI hl hB hW hG
    subst hkI
    have hkn : k < n := by omega
    have c0 := hB.c0
    have c2 := hB.c2
    have c3 := hB.c3
    have h1 := hW.2.1
    have h2 := hW.2.2.1
    have g1 := hG.2.1
    have g2 := hG.2.2.1
    unfold maxLen at h2 g2
    have hne : ((k : Int) == (n : Int)) = false := by simpa using (show ¬ (k : Int) = (n : Int) by omega)
    have hne2 : ¬ (k : Int) = (n : Int) := by omega
    have hab := and_bit set hs64 k (by omega)
    cases hbit : set.testBit k with
    | false =>
      rw [hbit, if_neg (by simp)] at hab
      have IH := ih (k + 1) ((k : Int) + 1) left gain w (by omega) (by omega) (by omega) hl hB hW hG
      rw [← who_no hkn hbit] at IH
      have C1 := hide IH
      clear IH ih
      go_enter Try.func44, Try.ntmps44
      go_wp2_with fail
      refine (unhide C1).mono ?_
      rintro e w1 ⟨rfl, hb1⟩
      go_wp2
      go_ret
      exact ⟨rfl, hb1⟩
    | true =>
      rw [hbit, if_pos rfl] at hab
      obtain ⟨bW, oW, hWa, hbW, hcW⟩ := hW.cellAt (by omega)
      obtain ⟨bG, oG, hGa, hbG, hcG⟩ := hG.cellAt (by omega)
      subst hWa hGa
      have hck := hcW k hkn
      have hgk := hcG k hkn
      have hIk := hW.mem hkn
      have hik1 := hIk.2.1
      have hik2 := hIk.2.2.1
      unfold maxLen at hik2
      obtain ⟨o, hol, hoe, _⟩ := idx_of (hg k hkn)
      have hIl : (lisA WL k).length = (slAt WL k).ln := hIk.1.symm
      have HDE : Hid (dealL (lisA WL) gt (whoF set n k) left gain = anyFrom (fun i : Nat => left.testBit ((lisA WL k)[i]?.getD 0).toNat && dealL (lisA WL) gt (whoF set n (k + 1)) (left ^^^ 2 ^ ((lisA WL k)[i]?.getD 0).toNat) (gain || decide ((i : Int) < (o : Int)))) (o + 1) 0) := by
        show _ = _
        rw [who_yes hkn hbit, dealL, show place (lisA WL) k (gt[k]?.getD 0) = o from hoe, any_zero, Int.toNat_natCast]
      have q0 := cell_regrown c0
      have q1 := cell_regrown hB.c1
      have qk := cell_regrown hck
      have qg := cell_regrown hgk
      have CI := hide (fun d os => Calls.regrown_of (index_below (slAt WL k).la (slAt WL k).ln (slAt WL k).lc (slAt WL k).ints (gt[k]?.getD 0) (Sort.grow (redrawn w d) os) (hIk.later (below_regrown w d os))))
      rw [show idxFrom (slAt WL k).ints (gt[k]?.getD 0) 0 = o from hoe] at CI
      have HIH := hide ih
      have HIW : Hid (∀ W, Below w.heap.size w W → Ints W (slAt WL k).la (slAt WL k).ln (slAt WL k).lc (lisA WL k)) := fun W hb => hIk.later hb
      have HR := hide hr
      have HBB := hide hB
      have HWW := hide hW
      have HGG := hide hG
      rw [hIl] at hol
      clear ih hr hg hIk hIl hoe hcG hcW hB hW hG
      generalize gt[k]?.getD 0 = gk at *
      generalize hsl : slAt WL k = sk at *
      obtain ⟨sa, sn, sc, sl⟩ := sk
      simp only at hck qk CI HIW hik1 hik2 hol
      clear hsl
      have z1 : IntKind.i64.wrap ((o : Int) + 1) = (o : Int) + 1 := by rw [IntKind.wrap_i64]; omega
      have z2 : (0 : Int) ≤ (o : Int) + 1 := by omega
      have z3 : (o : Int) + 1 ≤ (sc : Int) := by omega
      go_enter Try.func44, Try.ntmps44
      go_wp2_with fail
      refine wp_region_quiet_below (by kernel_rfl) (by kernel_rfl) ?_
      iterate 10 (quiet_step (with_reducible exact unhide CI _ _))
      refine wpQuiet_nil ?_
      intro w1 hw'
      obtain ⟨⟨dq, osq⟩, hw''⟩ := hw'
      have hb1 : Below w.heap.size w w1 := by rw [hw'']; exact below_regrown _ _ _
      clear hw'' q0 q1 qk qg CI
      have p0 := ((unhide HBB).later hb1).c0
      have pk := (hb1.cell (p := ⟨bW, oW + k, none⟩) hbW).trans hck
      go_wp2_with fail
      obtain ⟨F, hF⟩ : ∃ F : Nat → Bool, (fun i : Nat => left.testBit ((lisA WL k)[i]?.getD 0).toNat && dealL (lisA WL) gt (whoF set n (k + 1)) (left ^^^ 2 ^ ((lisA WL k)[i]?.getD 0).toNat) (gain || decide ((i : Int) < (o : Int)))) = F := ⟨_, rfl⟩
      rw [hF] at HDE
      have HFF : Hid (∀ i, F i = (left.testBit ((lisA WL k)[i]?.getD 0).toNat && dealL (lisA WL) gt (whoF set n (k + 1)) (left ^^^ 2 ^ ((lisA WL k)[i]?.getD 0).toNat) (gain || decide ((i : Int) < (o : Int))))) := fun i => by rw [← hF]
      clear hF p0 pk
      go_loopw [47, 12, 13] (fun iv _ _ wr => Below w.heap.size w wr ∧ ∃ i : Nat, i ≤ o + 1 ∧ iv = .int .i64 i ∧ anyFrom F (o + 1) 0 = anyFrom F (o + 1) i) (fun iv _ _ _ => o + 1 - (intOf iv).toNat)
      case atStart => exact ⟨hb1, 0, Nat.zero_le _, rfl, rfl⟩
      case round =>
        obtain ⟨hbr, i, hi, rfl, ha⟩ := hrel
        have HA := hide ha
        clear ha
        by_cases hlt : i < o + 1
        · obtain ⟨bS, oS, hsa, hbS, hcS⟩ := (unhide HIW wr hbr).cellAt (by omega)
          subst hsa
          have hcx := hcS i (by omega)
          have hlen : i < (lisA WL k).length := by have := (unhide HIW wr hbr).1; omega
          have hxr := unhide HR k _ (getD_mem hlen)
          obtain ⟨x, hx⟩ : ∃ x : Nat, (lisA WL k)[i]?.getD 0 = x := ⟨((lisA WL k)[i]?.getD 0).toNat, by omega⟩
          rw [hx] at hcx hxr
          have hx6 : x < 6 := by omega
          have hab2 := and_bit left hl x hx6
          have c3r := cell_regrown ((unhide HBB).later hbr).c3
          clear hcS hlen
          cases hbx : left.testBit x with
          | false =>
            rw [hbx, if_neg (by simp)] at hab2
            have HAY := hide (any_no (f := F) (N := o + 1) hlt (by rw [unhide HFF i, hx, Int.toNat_natCast, hbx]; rfl))
            clear hx
            go_wp2_with fail
            refine wp_region_quiet_below (by kernel_rfl) (by kernel_rfl) ?_
            iterate 6 (quiet_step (fail))
            iterate 14 (with_reducible refine quiet_skip (by kernel_rfl) ?_)
            iterate 1 (quiet_step (fail))
            refine wpQuiet_nil ?_
            intro w2 hw'
            obtain ⟨⟨dq, osq⟩, hw''⟩ := hw'
            have hb2 : Below wr.heap.size wr w2 := by rw [hw'']; exact below_regrown _ _ _
            clear hw''
            go_wp2
            go_roundw
            case rel => exact ⟨hbr.trans (hb2.mono hbr.size), i + 1, by omega, by go_num, by rw [unhide HA, unhide HAY]⟩
            case measure => simp [intOf]; omega
          | true =>
            rw [hbx, if_pos rfl] at hab2
            have hban := andNot_bit2 left hl x hx6 hbx
            have hl2 := xor_lt left hl x hx6
            obtain ⟨l2, hl2e⟩ : ∃ l2, left ^^^ 2 ^ x = l2 := ⟨_, rfl⟩
            rw [hl2e] at hban hl2
            have HL2 := hide hl2e
            clear hl2e
            have hw1 : IntKind.i64.wrap ((k : Int) + 1) = (k : Int) + 1 := by rw [IntKind.wrap_i64]; omega
            cases gain with
            | true =>
              have C0 := fun d os => unhide HIH (k + 1) ((k : Int) + 1) l2 (true || decide ((i : Int) < (o : Int))) (Sort.grow (redrawn wr d) os) (by omega) (by omega) (by omega) hl2 ((unhide HBB).later (hbr.trans ((below_regrown wr d os).mono hbr.size))) ((unhide HWW).later (hbr.trans ((below_regrown wr d os).mono hbr.size))) ((unhide HGG).later (hbr.trans ((below_regrown wr d os).mono hbr.size)))
              have HFR : Hid (F i = dealL (lisA WL) gt (whoF set n (k + 1)) l2 (true || decide ((i : Int) < (o : Int)))) := by
                show _ = _
                rw [unhide HFF i, hx, Int.toNat_natCast, hbx, unhide HL2]; rfl
              obtain ⟨Rv, hRv⟩ : ∃ Rv, dealL (lisA WL) gt (whoF set n (k + 1)) l2 (true || decide ((i : Int) < (o : Int))) = Rv := ⟨_, rfl⟩
              rw [hRv] at C0 HFR
              have C1 := hide (fun d os => Calls.regrown_of (C0 d os))
              simp only [Bool.true_or] at C1
              rw [← hban] at C1
              clear hban
              clear C0 hRv hx
              cases Rv with
              | true =>
                have HAY := hide (any_yes (N := o + 1) (by omega) (unhide HFR))
                go_wp2_with fail
                refine wp_region_quiet_below (by kernel_rfl) (by kernel_rfl) ?_
                iterate 15 (quiet_step (with_reducible exact unhide C1 _ _))
                iterate 3 (with_reducible refine quiet_skip (by kernel_rfl) ?_)
                iterate 3 (quiet_step (with_reducible exact unhide C1 _ _))
                refine wpQuiet_nil ?_
                intro w2 hw'
                obtain ⟨⟨dq, osq⟩, hw''⟩ := hw'
                have hb2 : Below wr.heap.size wr w2 := by rw [hw'']; exact below_regrown _ _ _
                clear hw''
                go_wp2
                go_ret
                exact ⟨ret_bool (by rw [unhide HDE, unhide HA, unhide HAY]), hbr.trans (hb2.mono hbr.size)⟩
              | false =>
                have HAY := hide (any_no (N := o + 1) (by omega) (unhide HFR))
                go_wp2_with fail
                refine wp_region_quiet_below (by kernel_rfl) (by kernel_rfl) ?_
                iterate 15 (quiet_step (with_reducible exact unhide C1 _ _))
                iterate 3 (with_reducible refine quiet_skip (by kernel_rfl) ?_)
                iterate 3 (quiet_step (with_reducible exact unhide C1 _ _))
                refine wpQuiet_nil ?_
                intro w2 hw'
                obtain ⟨⟨dq, osq⟩, hw''⟩ := hw'
                have hb2 : Below wr.heap.size wr w2 := by rw [hw'']; exact below_regrown _ _ _
                clear hw''
                go_wp2
                go_roundw
                case rel => exact ⟨hbr.trans (hb2.mono hbr.size), i + 1, by omega, by go_num, by rw [unhide HA, unhide HAY]⟩
                case measure => simp [intOf]; omega
            | false =>
              have C0 := fun d os => unhide HIH (k + 1) ((k : Int) + 1) l2 (false || decide ((i : Int) < (o : Int))) (Sort.grow (redrawn wr d) os) (by omega) (by omega) (by omega) hl2 ((unhide HBB).later (hbr.trans ((below_regrown wr d os).mono hbr.size))) ((unhide HWW).later (hbr.trans ((below_regrown wr d os).mono hbr.size))) ((unhide HGG).later (hbr.trans ((below_regrown wr d os).mono hbr.size)))
              have HFR : Hid (F i = dealL (lisA WL) gt (whoF set n (k + 1)) l2 (false || decide ((i : Int) < (o : Int)))) := by
                show _ = _
                rw [unhide HFF i, hx, Int.toNat_natCast, hbx, unhide HL2]; rfl
              obtain ⟨Rv, hRv⟩ : ∃ Rv, dealL (lisA WL) gt (whoF set n (k + 1)) l2 (false || decide ((i : Int) < (o : Int))) = Rv := ⟨_, rfl⟩
              rw [hRv] at C0 HFR
              have C1 := hide (fun d os => Calls.regrown_of (C0 d os))
              rw [Bool.false_or, show decide ((i : Int) < (o : Int)) = decide (i < o) by simp, ← hban] at C1
              clear hban
              clear C0 hRv hx
              cases Rv with
              | true =>
                have HAY := hide (any_yes (N := o + 1) (by omega) (unhide HFR))
                go_wp2_with fail
                refine wp_region_quiet_below (by kernel_rfl) (by kernel_rfl) ?_
                iterate 21 (quiet_step (with_reducible exact unhide C1 _ _))
                refine wpQuiet_nil ?_
                intro w2 hw'
                obtain ⟨⟨dq, osq⟩, hw''⟩ := hw'
                have hb2 : Below wr.heap.size wr w2 := by rw [hw'']; exact below_regrown _ _ _
                clear hw''
                go_wp2
                go_ret
                exact ⟨ret_bool (by rw [unhide HDE, unhide HA, unhide HAY]), hbr.trans (hb2.mono hbr.size)⟩
              | false =>
                have HAY := hide (any_no (N := o + 1) (by omega) (unhide HFR))
                go_wp2_with fail
                refine wp_region_quiet_below (by kernel_rfl) (by kernel_rfl) ?_
                iterate 21 (quiet_step (with_reducible exact unhide C1 _ _))
                refine wpQuiet_nil ?_
                intro w2 hw'
                obtain ⟨⟨dq, osq⟩, hw''⟩ := hw'
                have hb2 : Below wr.heap.size wr w2 := by rw [hw'']; exact below_regrown _ _ _
                clear hw''
                go_wp2
                go_roundw
                case rel => exact ⟨hbr.trans (hb2.mono hbr.size), i + 1, by omega, by go_num, by rw [unhide HA, unhide HAY]⟩
                case measure => simp [intOf]; omega
        · have HAE := hide (any_end (f := F) hlt)
          go_wp2
          go_ret
          exact ⟨ret_bool (by rw [unhide HDE, unhide HA, unhide HAE]), hbr⟩
end Go.Proofs.Ytihmbfapbkddeaa
