import Derived.Test.YtaaikaeknealkaaC
namespace Go.Proofs.Ytaaikaeknealkaa
open Go.RowKit
/-- What sets are worth to one, as far as s. -/
def WS (it : Nat) (f : Nat → Int) (s : Nat) : Prop := f 0 = 0 ∧ (∀ j, j < s → 0 ≤ f j ∧ f j ≤ 8 * j) ∧ (∀ j k, j < s → k < it → hs j k = true → f (j - 2 ^ k) ≤ f j) ∧ ∀ j, s ≤ j → f j = 0
/-- .. and of the set s, as far as the thing k. -/
def WK (_it : Nat) (f : Nat → Int) (s k : Nat) (x : Int) : Prop := 0 ≤ x ∧ x ≤ 8 * ((s : Int) - 1) ∧ ∀ j, j < k → hs s j = true → f (s - 2 ^ j) ≤ x
theorem WS.next {it s : Nat} {f : Nat → Int} {x : Int} {p : Nat} (h : WS it f s) (hk : WK it f s it x) (hs1 : 1 ≤ s) (hp : p ≤ 8) : WS it (upd f s (x + p)) (s + 1) := by
  obtain ⟨h1, h2, h3, h4⟩ := h
  obtain ⟨k1, k2, k3⟩ := hk
  refine ⟨by rw [upd_ne (by omega)]; exact h1, fun j hj => ?_, fun j k hj hkk hh => ?_, fun j hj => by rw [upd_ne (by omega)]; exact h4 j (by omega)⟩
  · by_cases e : j = s
    · subst e; rw [upd_at]; omega
    · rw [upd_ne e]; exact h2 j (by omega)
  · have hle := hs_le hh
    have hpos := Nat.two_pow_pos k
    by_cases e : j = s
    · subst e
      rw [upd_at, upd_ne (by omega)]
      have := k3 k hkk hh
      omega
    · rw [upd_ne e, upd_ne (by omega)]
      exact h3 j k (by omega) hkk hh
set_option maxRecDepth 100000 in
set_option maxHeartbeats 4000000 in
theorem worthOf_any (ra : Option Addr) (rn rc : Nat) (raw : List Int) (fr it : Nat) (w : World) (h : Ints w ra rn rc raw) (hr : ∀ x ∈ raw, InR x) (hrn : rn ≤ 256) (hfr : fr ≤ 100) (hit : it ≤ 4) :
    Calls Try.prog 14 #[.slice ra rn rc, .int .i64 fr, .int .i64 it] w fun e w' => ∃ f, WS it f (2 ^ it) ∧ e = .returned (.slice (some ⟨w.heap.size, 0, none⟩) (2 ^ it) (2 ^ it)) ∧ Row w.heap.size w' (some ⟨w.heap.size, 0, none⟩) (2 ^ it) f ∧ Below w.heap.size w w' := by
  obtain ⟨P, hP⟩ : ∃ P : Nat, P = 2 ^ it := ⟨_, rfl⟩
  rw [← hP]
  have hwp := wrap_pow hP hit
  have hP16 : P ≤ 16 := by rw [hP]; exact pow_le hit
  have hP0 : 0 < P := by rw [hP]; exact Nat.two_pow_pos it
  have HA : Hid (∀ W k, Below w.heap.size w W → k ≤ 1000 → Calls Try.prog 21 #[.slice ra rn rc, .int .i64 ((k : Nat) : Int)] W fun e w' => e = .returned (.int .i64 (atV raw k)) ∧ w' = W) := fun W k hW hk => at_val ra rn rc raw k W (h.later hW) hk (by omega)
  have HAI := hide (fun k => atV_in hr k)
  obtain ⟨i3, hi3, hz0, hz1, hz2⟩ := info_parts info3
  clear h hr hP
  go_enter Try.func14, Try.ntmps14
  go_wp2_with (at_make; refine wpList_make_full _ rfl _ _ 26 rfl w.heap.size 3 i3 _ 1 Try.underlying26 hi3 hz0 hz1 .i64 .i64 _ _ P rfl rfl rfl rfl (by rw [hz2]; omega) (by unfold maxLen; omega) (Nat.le_refl _) ?_; intro w1 ho1 hg1)
  have hb1 : Below w.heap.size w w1 := (Below.refl w.heap.size w).grown hg1 (Nat.le_refl _) (fun k hk => by cases hk)
  have HR1 := hide (row_made ho1)
  clear ho1 hg1
  go_wp2_with fail
  go_loopw [8, 9] (fun i _ wr => Below w.heap.size w wr ∧ ∃ (s : Nat) (f : Nat → Int), 1 ≤ s ∧ s ≤ P ∧ i = .int .i64 s ∧ Row w.heap.size wr (some ⟨w.heap.size, 0, none⟩) P f ∧ WS it f s) (fun i _ _ => P - (intOf i).toNat)
  case atStart => exact ⟨hb1, 1, fun _ => 0, by omega, hP0, rfl, unhide HR1, rfl, fun j hj => ⟨Int.le_refl _, by show (0 : Int) ≤ 8 * (j : Int); omega⟩, fun j k hj _ hh => Int.le_refl _, fun _ _ => rfl⟩
  case round =>
    rename World => W1
    obtain ⟨hbr, s, f, hs1, hsP, rfl, hR, hWS⟩ := hrel
    by_cases hlt : s < P
    · have HR := hide hR
      have HWS := hide hWS
      have hfs : f s = 0 := hWS.2.2.2 s (Nat.le_refl _)
      have HF : Hid (∀ j, j < s → 0 ≤ f j ∧ f j ≤ 8 * j) := hWS.2.1
      have HRS := hide (hR.same (f' := upd f s 0) (fun j _ => by
        by_cases e : j = s
        · subst e; rw [upd_at]; exact hfs
        · rw [upd_ne e]))
      clear hR hWS hfs
      go_wp2_with fail
      go_loopw [9] (fun i wr => Below w.heap.size w wr ∧ ∃ (k : Nat) (x : Int), k ≤ it ∧ i = .int .i64 k ∧ Row w.heap.size wr (some ⟨w.heap.size, 0, none⟩) P (upd f s x) ∧ WK it f s k x) (fun i _ => it - (intOf i).toNat)
      case atStart => exact ⟨hbr, 0, 0, Nat.zero_le _, rfl, unhide HRS, Int.le_refl _, by omega, fun j hj => by omega⟩
      case round =>
        obtain ⟨hbr2, k, x, hk, rfl, hR2, hWK⟩ := hrel
        have hx0 := hWK.1
        have hx1 := hWK.2.1
        have HWK := hide hWK
        obtain ⟨cs, fs', ss, sg⟩ := hR2.at hlt
        rw [upd_at] at cs
        by_cases hlk : k < it
        · obtain ⟨P2, hP2⟩ : ∃ P2 : Nat, P2 = 2 ^ k := ⟨_, rfl⟩
          have hwp2 := wrap_pow hP2 (by omega)
          have hP20 : 0 < P2 := by rw [hP2]; exact Nat.two_pow_pos k
          have hP21 : P2 ≤ 16 := by rw [hP2]; exact pow_le (by omega)
          have hPz : ((P2 : Int) == 0) = false := by simp; omega
          have hle : hs s k = true → P2 ≤ s := fun h => by rw [hP2]; exact hs_le h
          cases hh : hs s k
          · have hr := rem_no hP2 (by omega) hh
            have HWN : Hid (WK it f s (k + 1) x) := ⟨hx0, hx1, fun j hj hj2 => by
              by_cases e : j = k
              · subst e; rw [hh] at hj2; cases hj2
              · exact (unhide HWK).2.2 j (by omega) hj2⟩
            have HR2 := hide hR2
            clear hR2 hP2 hWK
            go_wp2_with fail
            go_quiet (fail)
            go_wp2_with fail
            go_roundw
            case rel => exact ⟨hbr2.trans ((below_drewN _ _ _).mono hbr2.size), k + 1, x, by omega, by go_num, (unhide HR2).later (below_drewN _ _ _), unhide HWN⟩
            case measure => simp [intOf]; omega
          · have hr := rem_yes hP2 (by omega) hh
            have hPs := hle hh
            obtain ⟨q, hq⟩ : ∃ q, q = s - P2 := ⟨_, rfl⟩
            have hqi : (s : Int) - (P2 : Int) = (q : Int) := by omega
            have hqs : q < s := by omega
            obtain ⟨cq, _, _, _⟩ := hR2.at (show q < P by omega)
            rw [upd_ne (by omega)] at cq
            have hfq := unhide HF q hqs
            have hvq : f (s - 2 ^ k) = f q := by rw [hq, hP2]
            obtain ⟨z, hz⟩ : ∃ z, z = f q := ⟨_, rfl⟩
            rw [← hz] at cq hfq hvq
            by_cases hxz : x < z
            · have HWN : Hid (WK it f s (k + 1) z) := ⟨by omega, by omega, fun j hj hj2 => by
                by_cases e : j = k
                · subst e; rw [hvq]; exact Int.le_refl _
                · have := (unhide HWK).2.2 j (by omega) hj2; omega⟩
              have hR2d : Row w.heap.size (wr.drewN 0) (some ⟨w.heap.size, 0, none⟩) P (upd f s x) := hR2
              have HRN : Hid (∀ W, Below wr.heap.size wr W → Row w.heap.size (W.setCell ⟨w.heap.size, s, none⟩ (.int .i64 z)) (some ⟨w.heap.size, 0, none⟩) P (upd f s z)) := fun W hW => (hR2.later hW).set hlt (fun j _ hj => by rw [upd_ne hj, upd_ne hj]) (upd_at _ _ _).symm
              clear hR2 hP2 hq hz hvq hWK hR2d
              go_wp2_with fail
              go_quiet (fail)
              have hbd : Below wr.heap.size wr (wr.drewN nq) := below_drewN _ _ _
              have cs2 : (wr.drewN nq).cell? ⟨w.heap.size, s, none⟩ = some (.int .i64 x) := cs
              have fs2 : (wr.drewN nq).frozen? ⟨w.heap.size, s, none⟩ = false := fs'
              have cq2 : (wr.drewN nq).cell? ⟨w.heap.size, q, none⟩ = some (.int .i64 z) := cq
              have ss2 : w.heap.size < (wr.drewN nq).heap.size := ss
              have HRM := hide (unhide HRN _ hbd)
              have hbe := hbr2.trans (hbd.mono hbr2.size)
              clear cs fs' cq HRN
              generalize wr.drewN nq = W2 at *
              go_wp2_with fail
              go_roundw
              case rel => exact ⟨hbe.setCell (p := ⟨w.heap.size, s, none⟩) (Nat.le_refl _) _, k + 1, z, by omega, by go_num, unhide HRM, unhide HWN⟩
              case measure => simp [intOf]; omega
            · have HWN : Hid (WK it f s (k + 1) x) := ⟨hx0, hx1, fun j hj hj2 => by
                by_cases e : j = k
                · subst e; rw [hvq]; omega
                · exact (unhide HWK).2.2 j (by omega) hj2⟩
              have HR2 := hide hR2
              clear hR2 hP2 hq hz hvq hWK
              go_wp2_with fail
              go_quiet (fail)
              go_wp2_with fail
              go_roundw
              case rel => exact ⟨hbr2.trans ((below_drewN _ _ _).mono hbr2.size), k + 1, x, by omega, by go_num, (unhide HR2).later (below_drewN _ _ _), unhide HWN⟩
              case measure => simp [intOf]; omega
        · obtain rfl : k = it := by omega
          have hbd : Below wr.heap.size wr wr.drew := (Below.refl _ _).drew
          have hbe := hbr2.trans (hbd.mono hbr2.size)
          have CA := unhide HA wr.drew (fr + s) hbe (by omega)
          have hin := unhide HAI (fr + s)
          have hfsi : ((fr + s : Nat) : Int) = (fr : Int) + (s : Int) := by omega
          rw [hfsi] at CA
          have CA := hide CA
          generalize atV raw (fr + s) = y at *
          have CB := hide (pick_val y 9 hin (by omega) (by omega) wr.drew)
          have hpk := pkN_lt y (show 0 < 9 by omega)
          generalize pkN y 9 = p at *
          have HWN : Hid (WS k (upd f s (x + p)) (s + 1)) := (unhide HWS).next hWK hs1 (by omega)
          have HRN : Hid (Row w.heap.size (wr.setCell ⟨w.heap.size, s, none⟩ (.int .i64 (x + p))) (some ⟨w.heap.size, 0, none⟩) P (upd f s (x + p))) := hR2.set hlt (fun j _ hj => by rw [upd_ne hj, upd_ne hj]) (upd_at _ _ _).symm
          have hb5 : Below w.heap.size w (wr.setCell ⟨w.heap.size, s, none⟩ (.int .i64 (x + p))) := hbr2.setCell (p := ⟨w.heap.size, s, none⟩) (Nat.le_refl _) _
          have hws : IntKind.i64.wrap ((fr : Int) + (s : Int)) = (fr : Int) + (s : Int) := wrap_in _ (by omega) (by omega)
          have hwx : IntKind.i64.wrap (x + (p : Int)) = x + (p : Int) := wrap_in _ (by omega) (by omega)
          clear hR2 hWK
          go_wp2_with fail
          refine wp_region_still_tail 14 (by kernel_rfl) (by kernel_rfl) ?_
          simp only [List.take_succ_cons, List.take_zero, List.drop_succ_cons, List.drop_zero]
          show wpStill Try.prog _ wr.drew (fun a' => wpList Try.prog _ _ _ a' wr.drew) _ _
          iterate 10 still_step
          still_call (unhide CA)
          still_call (unhide CB)
          iterate 2 still_step
          refine wpStill_nil ?_
          go_wp2_with fail
          go_roundw
          case rel => exact ⟨hb5.trans (Below.refl _ _).drew, s + 1, _, by omega, by omega, by go_num, (unhide HRN).later (Below.refl _ _).drew, unhide HWN⟩
          case measure => simp [intOf]; omega
    · obtain rfl : s = P := by omega
      go_wp2
      go_ret
      exact ⟨f, hWS, rfl, hR, hbr⟩
end Go.Proofs.Ytaaikaeknealkaa
