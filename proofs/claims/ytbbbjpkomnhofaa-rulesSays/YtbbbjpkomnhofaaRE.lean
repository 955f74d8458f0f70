import Derived.Test.YtbbbjpkomnhofaaRD
namespace Go.Proofs.Ytbbbjpkomnhofaa
open Go.RowKit Go.Shelf
theorem abv_self (l : List Int) (x : Int) : abv l x x = false := by simp [abv]
theorem pays0 (l : List Int) (p k : Nat) (hk : k < 6) : pays l (12 * p + k) = av (p / 6) (l[6 * (k % 6) + p % 6]?.getD 0) (l[p]?.getD 0) := by
  unfold pays whoO told0 told1 av
  rw [show (12 * p + k) / 6 % 2 = 0 by omega, if_pos rfl, if_pos rfl, if_pos rfl, show (12 * p + k) / 72 = p / 6 by omega, show (12 * p + k) % 6 = k % 6 by omega, show (12 * p + k) / 12 % 6 = p % 6 by omega, show 6 * (p / 6) + p % 6 = p by omega]
theorem pays1 (l : List Int) (p k : Nat) (h6 : 6 ≤ k) (hk : k < 12) : pays l (12 * p + k) = av (p % 6) (l[6 * (p / 6) + k % 6]?.getD 0) (l[p]?.getD 0) := by
  unfold pays whoO told0 told1 av
  rw [show (12 * p + k) / 6 % 2 = 1 by omega, if_neg (by omega), if_neg (by omega), if_neg (by omega), show (12 * p + k) / 72 = p / 6 by omega, show (12 * p + k) % 6 = k % 6 by omega, show (12 * p + k) / 12 % 6 = p % 6 by omega, show 6 * (p / 6) + p % 6 = p by omega]
def hoL (z : Nat) : List Int := [((z / 72 : Nat) : Int), ((z / 12 % 6 : Nat) : Int), ((z / 6 % 2 : Nat) : Int), ((z % 6 : Nat) : Int)]
theorem hoL_eq (p k : Nat) (hk : k < 12) : hoL (12 * p + k) = [(p : Int) / 6, (p : Int) % 6, (k : Int) / 6, (k : Int) % 6] := by
  unfold hoL
  rw [show (12 * p + k) / 72 = p / 6 by omega, show (12 * p + k) / 12 % 6 = p % 6 by omega, show (12 * p + k) / 6 % 2 = k / 6 by omega, show (12 * p + k) % 6 = k % 6 by omega]
  rfl
def HRPost (l : List Int) (w : World) (e : Ending) (w' : World) : Prop :=
  (∃ (t : Bool) (a : Option Addr) (c : Nat) (m : List Int), e = .returned (.tuple #[.bool t, .slice a 4 c]) ∧ Ints w' a 4 c m ∧
    ((t = true ∧ m = [0, 0, 0, 0] ∧ ∀ z, z < 432 → pays l z = false) ∨ (t = false ∧ ∃ z, z < 432 ∧ pays l z = true ∧ (∀ y, y < z → pays l y = false) ∧ m = hoL z))) ∧ Below w.heap.size w w'
theorem ints4 (w : World) (x0 x1 x2 x3 : Int) : Ints (w.alloc (.cells #[.int .i64 x0, .int .i64 x1, .int .i64 x2, .int .i64 x3] 3)) (some ⟨w.heap.size, 0, none⟩) 4 4 [x0, x1, x2, x3] := by
  refine ⟨rfl, Nat.le_refl _, by unfold maxLen; omega, .inr ⟨w.heap.size, 0, rfl, by simp, fun j hj => ?_⟩⟩
  have hn := World.alloc_heap_new w (.cells #[.int .i64 x0, .int .i64 x1, .int .i64 x2, .int .i64 x3] 3)
  rcases (by omega : j = 0 ∨ j = 1 ∨ j = 2 ∨ j = 3) with rfl | rfl | rfl | rfl <;> exact (cell_in hn rfl).1
set_option maxRecDepth 100000 in
set_option maxHeartbeats 8000000 in
theorem honestR_any (a : Option Addr) (c : Nat) (l : List Int) (w : World) (h : Ints w a 36 c l) :
    Calls Try.prog 23 #[.slice a 36 c] w fun e w' => HRPost l w e w' := by
  obtain ⟨b, off, rfl, hb, hcell⟩ := h.cellAt (by omega)
  have HCE := hide hcell
  have hcc := h.2.1
  have hcm := h.2.2.1
  unfold maxLen at hcm
  have OV := hide over_any
  clear h hcell
  go_enter Try.func23, Try.ntmps23
  go_wp2_with fail
  go_loopw [4, 5, 6, 7, 8, 9] (fun i _ _ _ _ _ wr => ∃ p : Nat, p ≤ 36 ∧ i = .int .i64 (p : Int) ∧ Below w.heap.size w wr ∧ ∀ y, y < 12 * p → pays l y = false) (fun i _ _ _ _ _ _ => 36 - (intOf i).toNat)
  case atStart => exact ⟨0, by omega, rfl, Below.refl _ _, fun p hp => by omega⟩
  case round =>
    obtain ⟨p, hp, rfl, hbp, hall⟩ := hrel
    have HA := hide hall
    have HBP := hide hbp
    clear hall hbp
    by_cases hlp : p < 36
    · go_wp2_with fail
      (try rw [show decide ((p : Int) < 36) = true by simp; omega])
      go_loopw [5, 6, 7, 8, 9] (fun i _ _ _ _ wr => ∃ k : Nat, k ≤ 12 ∧ i = .int .i64 (k : Int) ∧ Below w.heap.size w wr ∧ ∀ y, y < 12 * p + k → pays l y = false) (fun i _ _ _ _ _ => 12 - (intOf i).toNat)
      case atStart => exact ⟨0, by omega, rfl, unhide HBP, unhide HA⟩
      case round =>
        clear HBP
        obtain ⟨k, hk, rfl, hbp, hall⟩ := hrel
        have HK := hide hall
        clear hall
        by_cases hlk : k < 12
        · have r2 := cell_regrown ((hbp.cell (p := ⟨b, off + p, none⟩) hb).trans (unhide HCE p hlp))
          have HBP := hide hbp
          rcases Nat.lt_or_ge k 6 with h6 | h6
          · have hki : ((k : Int) / 6 == 1) = false := by simp; omega
            have hke : (k : Int) / 6 = 0 := by omega
            have hT : 6 * ((k : Int) % 6) + (p : Int) % 6 < 36 := by omega
            have hT0 : 0 ≤ 6 * ((k : Int) % 6) + (p : Int) % 6 := by omega
            have hTn : (6 * ((k : Int) % 6) + (p : Int) % 6).toNat = 6 * (k % 6) + p % 6 := by omega
            have r1 := cell_regrown ((hbp.cell (p := ⟨b, off + (6 * (k % 6) + p % 6), none⟩) hb).trans (unhide HCE (6 * (k % 6) + p % 6) (by omega)))
            have HPY := hide (pays0 l p k h6)
            have OV' : Hid (∀ x y d os, Calls Try.prog 36 #[.int .i64 ((p : Int) / 6), .int .i64 x, .int .i64 y] (Sort.grow (redrawn wr d) os) fun e w'' => e = .returned (.bool (av (p / 6) x y)) ∧ ∃ p : Regrown, w'' = Sort.grow (redrawn wr p.d) p.os) := fun x y d os => by
              rw [show (p : Int) / 6 = ((p / 6 : Nat) : Int) by omega]
              exact Calls.regrown_of (unhide OV _ (by omega) x y _)
            clear hbp
            generalize l[6 * (k % 6) + p % 6]?.getD 0 = v1 at *
            generalize l[p]?.getD 0 = v2 at *
            go_wp2_with fail
            refine wp_region_quiet_below (by kernel_rfl) (by kernel_rfl) ?_
            iterate 11 (quiet_step (with_reducible exact unhide OV' _ _ _ _))
            refine wpQuiet_nil ?_
            intro _ hw'
            obtain ⟨⟨dq, osq⟩, hw''⟩ := hw'
            subst hw''
            obtain ⟨Y, hY⟩ : ∃ y, y = Sort.grow (redrawn wr dq) osq := ⟨_, rfl⟩
            have hbq := below_regrown wr dq osq
            have r1 := cell_drewN (r1 dq osq)
            have r2 := cell_drewN (r2 dq osq)
            show Exit.then _ _ _ _ (Sort.grow (redrawn wr dq) osq)
            rw [← hY] at hbq r1 r2 ⊢
            have HYB : Hid (Below w.heap.size w Y) := (unhide HBP).trans (hbq.mono (unhide HBP).size)
            clear hY hbq
            obtain ⟨t, ht⟩ : ∃ t, av (p / 6) v1 v2 = t := ⟨_, rfl⟩
            have HT := hide ht
            rw [ht]
            clear ht
            by_cases hv : v1 = v2
            · subst hv
              have hf : t = false := by rw [← unhide HT]; exact abv_self _ _
              go_wp2_with fail
              go_quiet (fail)
              go_wp2_with fail
              go_roundw
              case rel => exact ⟨k + 1, by omega, by go_num, (unhide HYB).trans (below_drewN _ _ _), fun y hy => by
                by_cases e : y = 12 * p + k
                · rw [e, unhide HPY, unhide HT]; exact hf
                · exact unhide HK y (by omega)⟩
              case measure => simp [intOf]; omega
            · have hvb : (v1 == v2) = false := by simp [hv]
              have hvn : (v1 != v2) = true := by simp [hv]
              cases t with
              | false =>
                go_wp2_with fail
                go_quiet (fail)
                go_wp2_with fail
                go_roundw
                case rel => exact ⟨k + 1, by omega, by go_num, (unhide HYB).trans (below_drewN _ _ _), fun y hy => by
                  by_cases e : y = 12 * p + k
                  · rw [e, unhide HPY, unhide HT]
                  · exact unhide HK y (by omega)⟩
                case measure => simp [intOf]; omega
              | true =>
                go_wp2_with fail
                go_quiet (fail)
                go_wp2_with fail
                go_ret2
                exact ⟨⟨false, _, _, _, rfl, ints4 _ _ _ _ _, .inr ⟨rfl, 12 * p + k, by omega, (unhide HPY).trans (unhide HT), unhide HK, by rw [hoL_eq p k hlk, hke]⟩⟩, ((unhide HYB).trans (below_drewN _ _ _)).alloc ((unhide HYB).trans (below_drewN _ _ _)).size _⟩
            
          · have hki : ((k : Int) / 6 == 1) = true := by simp; omega
            have hke : (k : Int) / 6 = 1 := by omega
            have hT : 6 * ((p : Int) / 6) + (k : Int) % 6 < 36 := by omega
            have hT0 : 0 ≤ 6 * ((p : Int) / 6) + (k : Int) % 6 := by omega
            have hTn : (6 * ((p : Int) / 6) + (k : Int) % 6).toNat = 6 * (p / 6) + k % 6 := by omega
            have r1 := cell_regrown ((hbp.cell (p := ⟨b, off + (6 * (p / 6) + k % 6), none⟩) hb).trans (unhide HCE (6 * (p / 6) + k % 6) (by omega)))
            have HPY := hide (pays1 l p k h6 hlk)
            have OV' : Hid (∀ x y d os, Calls Try.prog 36 #[.int .i64 ((p : Int) % 6), .int .i64 x, .int .i64 y] (Sort.grow (redrawn wr d) os) fun e w'' => e = .returned (.bool (av (p % 6) x y)) ∧ ∃ p : Regrown, w'' = Sort.grow (redrawn wr p.d) p.os) := fun x y d os => by
              rw [show (p : Int) % 6 = ((p % 6 : Nat) : Int) by omega]
              exact Calls.regrown_of (unhide OV _ (by omega) x y _)
            clear hbp
            generalize l[6 * (p / 6) + k % 6]?.getD 0 = v1 at *
            generalize l[p]?.getD 0 = v2 at *
            go_wp2_with fail
            refine wp_region_quiet_below (by kernel_rfl) (by kernel_rfl) ?_
            iterate 11 (quiet_step (with_reducible exact unhide OV' _ _ _ _))
            refine wpQuiet_nil ?_
            intro _ hw'
            obtain ⟨⟨dq, osq⟩, hw''⟩ := hw'
            subst hw''
            obtain ⟨Y, hY⟩ : ∃ y, y = Sort.grow (redrawn wr dq) osq := ⟨_, rfl⟩
            have hbq := below_regrown wr dq osq
            have r1 := cell_drewN (r1 dq osq)
            have r2 := cell_drewN (r2 dq osq)
            show Exit.then _ _ _ _ (Sort.grow (redrawn wr dq) osq)
            rw [← hY] at hbq r1 r2 ⊢
            have HYB : Hid (Below w.heap.size w Y) := (unhide HBP).trans (hbq.mono (unhide HBP).size)
            clear hY hbq
            obtain ⟨t, ht⟩ : ∃ t, av (p % 6) v1 v2 = t := ⟨_, rfl⟩
            have HT := hide ht
            rw [ht]
            clear ht
            by_cases hv : v1 = v2
            · subst hv
              have hf : t = false := by rw [← unhide HT]; exact abv_self _ _
              go_wp2_with fail
              go_quiet (fail)
              go_wp2_with fail
              go_roundw
              case rel => exact ⟨k + 1, by omega, by go_num, (unhide HYB).trans (below_drewN _ _ _), fun y hy => by
                by_cases e : y = 12 * p + k
                · rw [e, unhide HPY, unhide HT]; exact hf
                · exact unhide HK y (by omega)⟩
              case measure => simp [intOf]; omega
            · have hvb : (v1 == v2) = false := by simp [hv]
              have hvn : (v1 != v2) = true := by simp [hv]
              cases t with
              | false =>
                go_wp2_with fail
                go_quiet (fail)
                go_wp2_with fail
                go_roundw
                case rel => exact ⟨k + 1, by omega, by go_num, (unhide HYB).trans (below_drewN _ _ _), fun y hy => by
                  by_cases e : y = 12 * p + k
                  · rw [e, unhide HPY, unhide HT]
                  · exact unhide HK y (by omega)⟩
                case measure => simp [intOf]; omega
              | true =>
                go_wp2_with fail
                go_quiet (fail)
                go_wp2_with fail
                go_ret2
                exact ⟨⟨false, _, _, _, rfl, ints4 _ _ _ _ _, .inr ⟨rfl, 12 * p + k, by omega, (unhide HPY).trans (unhide HT), unhide HK, by rw [hoL_eq p k hlk, hke]⟩⟩, ((unhide HYB).trans (below_drewN _ _ _)).alloc ((unhide HYB).trans (below_drewN _ _ _)).size _⟩
            
        · obtain rfl : k = 12 := by omega
          go_wp2_with fail
          go_roundw
          case rel => exact ⟨p + 1, by omega, by go_num, hbp, fun y hy => unhide HK y (by omega)⟩
          case measure => simp [intOf]; omega
    · obtain rfl : p = 36 := by omega
      go_wp2_with fail
      go_ret2
      exact ⟨⟨true, _, _, _, rfl, ints4 _ _ _ _ _, .inl ⟨rfl, rfl, fun z hz => unhide HA z (by omega)⟩⟩, (unhide HBP).alloc (unhide HBP).size _⟩
end Go.Proofs.Ytbbbjpkomnhofaa
