import Derived.Test.YtbbbjpkomnhofaaRC
namespace Go.Proofs.Ytbbbjpkomnhofaa
open Go.RowKit Go.Shelf
def apX (l : List Int) (p q x : Nat) : Prop := x / 3 ≠ x % 3 → av (p / 6) (ax x) (ay x) = av (q / 6) (ax x) (ay x) → av (p % 6) (ax x) (ay x) = av (q % 6) (ax x) (ay x) → av (rl l p) (ax x) (ay x) = av (rl l q) (ax x) (ay x)
theorem cell_drewN {w : World} {p : Addr} {v : Value} (h : w.cell? p = some v) (n : Nat) : (w.drewN n).cell? p = some v := h
set_option maxRecDepth 100000 in
set_option maxHeartbeats 8000000 in
theorem apartR_any (a : Option Addr) (c : Nat) (l : List Int) (w : World) (h : Ints w a 36 c l) (hok : okF l 6) :
    Calls Try.prog 22 #[.slice a 36 c] w fun e w' => BPost (∀ p, p < 36 → ∀ q, q < 36 → ∀ x, x < 9 → apX l p q x) w e w' := by
  obtain ⟨b, off, rfl, hb, hcell⟩ := h.cellAt (by omega)
  have HRL : Hid (∀ p, p < 36 → rl l p < 6 ∧ w.cell? ⟨b, off + p, none⟩ = some (.int .i64 ((rl l p : Nat) : Int))) := fun p hp => by
    have q := hcell p hp
    have hl := h.1
    have := hok p (by omega)
    have e : l[p]?.getD 0 = ((rl l p : Nat) : Int) := by unfold rl; omega
    rw [e] at q
    exact ⟨by unfold rl; omega, q⟩
  have hcc := h.2.1
  have hcm := h.2.2.1
  unfold maxLen at hcm
  clear h hcell hok
  go_enter Try.func22, Try.ntmps22
  go_wp2_with fail
  refine (overs_any _).mono ?_
  rintro e w1 ⟨⟨g, bs, rfl, hov, hg⟩, hb1⟩
  have HO := hide (And.intro hov (And.intro hg hb1))
  clear hov hg hb1
  go_wp2_with fail
  go_loopw [4, 5, 6, 7] (fun i _ _ _ wr => ∃ p : Nat, p ≤ 36 ∧ i = .int .i64 (p : Int) ∧ Below w1.heap.size w1 wr ∧ ∀ p', p' < p → ∀ q, q < 36 → ∀ x, x < 9 → apX l p' q x) (fun i _ _ _ _ => 36 - (intOf i).toNat)
  case atStart => exact ⟨0, by omega, rfl, Below.refl _ _, fun p hp => by omega⟩
  case round =>
    obtain ⟨p, hp, rfl, hbp, hall⟩ := hrel
    have HA := hide hall
    have HBP := hide hbp
    clear hall hbp
    by_cases hlp : p < 36
    · go_wp2_with fail
      (try rw [show decide ((p : Int) < 36) = true by simp; omega])
      go_loopw [5, 6, 7] (fun i _ _ wr => ∃ q : Nat, q ≤ 36 ∧ i = .int .i64 (q : Int) ∧ Below w1.heap.size w1 wr ∧ ∀ q', q' < q → ∀ x, x < 9 → apX l p q' x) (fun i _ _ _ => 36 - (intOf i).toNat)
      case atStart => exact ⟨0, by omega, rfl, unhide HBP, fun q hq => by omega⟩
      case round =>
        clear HBP
        obtain ⟨q, hq, rfl, hbp, hall⟩ := hrel
        have HQ := hide hall
        have HBP := hide hbp
        clear hall hbp
        by_cases hlq : q < 36
        · go_wp2_with fail
          (try rw [show decide ((q : Int) < 36) = true by simp; omega])
          go_loopw [6, 7] (fun i _ wr => ∃ x : Nat, x ≤ 9 ∧ i = .int .i64 (x : Int) ∧ Below w1.heap.size w1 wr ∧ ∀ x', x' < x → apX l p q x') (fun i _ _ => 9 - (intOf i).toNat)
          case atStart => exact ⟨0, by omega, rfl, unhide HBP, fun x hx => by omega⟩
          case round =>
            clear HBP
            obtain ⟨x, hx, rfl, hbp, hall⟩ := hrel
            have HX := hide hall
            clear hall
            by_cases hlx : x < 9
            · obtain ⟨hov, hg0, hb1⟩ := unhide HO
              have hg := (hbp.block _ (Array.getElem?_eq_some_iff.1 hg0).1).trans hg0
              obtain ⟨hm6, qq⟩ := unhide HRL p hlp
              obtain ⟨hn6, qr⟩ := unhide HRL q hlq
              have hbw := hb1.trans (hbp.mono hb1.size)
              have r1 := cell_drewN ((hbw.cell (p := ⟨b, off + p, none⟩) hb).trans qq)
              have r2 := cell_drewN ((hbw.cell (p := ⟨b, off + q, none⟩) hb).trans qr)
              have c1 := (cell_in hg (bArr_at (j := 9 * (p / 6) + x) (by have := hov.1; omega))).1
              have c2 := (cell_in hg (bArr_at (j := 9 * (p % 6) + x) (by have := hov.1; omega))).1
              have c3 := (cell_in hg (bArr_at (j := 9 * rl l p + x) (by have := hov.1; omega))).1
              have d1 := (cell_in hg (bArr_at (j := 9 * (q / 6) + x) (by have := hov.1; omega))).1
              have d2 := (cell_in hg (bArr_at (j := 9 * (q % 6) + x) (by have := hov.1; omega))).1
              have d3 := (cell_in hg (bArr_at (j := 9 * rl l q + x) (by have := hov.1; omega))).1
              rw [hov.at _ _ (by omega) hlx] at c1 c2 d1 d2
              rw [hov.at _ _ hm6 hlx] at c3
              rw [hov.at _ _ hn6 hlx] at d3
              have c1 := cell_drewN c1
              have c2 := cell_drewN c2
              have c3 := cell_drewN c3
              have d1 := cell_drewN d1
              have d2 := cell_drewN d2
              have d3 := cell_drewN d3
              have HBP := hide hbp
              clear hov hg hg0 hb1 qq qr hbw hbp
              have HAP : Hid (apX l p q x ↔ (x / 3 ≠ x % 3 → (av (p / 6) (ax x) (ay x) == av (q / 6) (ax x) (ay x)) = true → (av (p % 6) (ax x) (ay x) == av (q % 6) (ax x) (ay x)) = true → (av (rl l p) (ax x) (ay x) == av (rl l q) (ax x) (ay x)) = true)) := by
                show _ ↔ _
                unfold apX
                simp only [beq_iff_eq]
              generalize av (p / 6) (ax x) (ay x) = t1 at *
              generalize av (p % 6) (ax x) (ay x) = t2 at *
              generalize av (rl l p) (ax x) (ay x) = t3 at *
              generalize av (q / 6) (ax x) (ay x) = s1 at *
              generalize av (q % 6) (ax x) (ay x) = s2 at *
              generalize av (rl l q) (ax x) (ay x) = s3 at *
              obtain ⟨e1, E1⟩ : ∃ e, (t1 == s1) = e := ⟨_, rfl⟩
              obtain ⟨e2, E2⟩ : ∃ e, (t2 == s2) = e := ⟨_, rfl⟩
              obtain ⟨e3, E3⟩ : ∃ e, (t3 == s3) = e := ⟨_, rfl⟩
              rw [E1, E2, E3] at HAP
              by_cases hxy : x / 3 = x % 3
              · have hxi : ((x : Int) / 3 == (x : Int) % 3) = true := by simp; omega
                have hxb : ((x : Int) / 3 != (x : Int) % 3) = false := by simp; omega
                have hxe : (x : Int) / 3 = (x : Int) % 3 := by omega
                cases e1 with
                | false =>
                  go_wp2_with fail
                  go_quiet (fail)
                  go_wp2_with fail
                  obtain ⟨Y, hY⟩ : ∃ y, y = wr.drewN nq := ⟨_, rfl⟩
                  have r1 := cell_drewN (r1 nq)
                  have r2 := cell_drewN (r2 nq)
                  have c3 := cell_drewN (c3 nq)
                  have d3 := cell_drewN (d3 nq)
                  have HBP : Hid (Below w1.heap.size w1 Y) := by rw [hY]; exact (unhide HBP).trans (below_drewN _ _ _)
                  rw [← hY] at r1 r2 c3 d3 ⊢
                  clear hY c1 c2 d1 d2
                  go_quiet (fail)
                  go_wp2_with fail
                  go_roundw
                  case rel => exact ⟨x + 1, by omega, by go_num, (unhide HBP).trans (below_drewN _ _ _), fun x' hx' => by
                    by_cases e : x' = x
                    · subst e; exact (unhide HAP).2 (fun h => absurd hxy h)
                    · exact unhide HX x' (by omega)⟩
                  case measure => simp [intOf]; omega
                | true =>
                  cases e2 with
                  | false =>
                    go_wp2_with fail
                    go_quiet (fail)
                    go_wp2_with fail
                    obtain ⟨Y, hY⟩ : ∃ y, y = wr.drewN nq := ⟨_, rfl⟩
                    have r1 := cell_drewN (r1 nq)
                    have r2 := cell_drewN (r2 nq)
                    have c3 := cell_drewN (c3 nq)
                    have d3 := cell_drewN (d3 nq)
                    have HBP : Hid (Below w1.heap.size w1 Y) := by rw [hY]; exact (unhide HBP).trans (below_drewN _ _ _)
                    rw [← hY] at r1 r2 c3 d3 ⊢
                    clear hY c1 c2 d1 d2
                    go_quiet (fail)
                    go_wp2_with fail
                    go_roundw
                    case rel => exact ⟨x + 1, by omega, by go_num, (unhide HBP).trans (below_drewN _ _ _), fun x' hx' => by
                      by_cases e : x' = x
                      · subst e; exact (unhide HAP).2 (fun h => absurd hxy h)
                      · exact unhide HX x' (by omega)⟩
                    case measure => simp [intOf]; omega
                  | true =>
                    go_wp2_with fail
                    go_quiet (fail)
                    go_wp2_with fail
                    obtain ⟨Y, hY⟩ : ∃ y, y = wr.drewN nq := ⟨_, rfl⟩
                    have r1 := cell_drewN (r1 nq)
                    have r2 := cell_drewN (r2 nq)
                    have c3 := cell_drewN (c3 nq)
                    have d3 := cell_drewN (d3 nq)
                    have HBP : Hid (Below w1.heap.size w1 Y) := by rw [hY]; exact (unhide HBP).trans (below_drewN _ _ _)
                    rw [← hY] at r1 r2 c3 d3 ⊢
                    clear hY c1 c2 d1 d2
                    go_quiet (fail)
                    go_wp2_with fail
                    go_roundw
                    case rel => exact ⟨x + 1, by omega, by go_num, (unhide HBP).trans (below_drewN _ _ _), fun x' hx' => by
                      by_cases e : x' = x
                      · subst e; exact (unhide HAP).2 (fun h => absurd hxy h)
                      · exact unhide HX x' (by omega)⟩
                    case measure => simp [intOf]; omega
              · have hxi : ((x : Int) / 3 == (x : Int) % 3) = false := by simp; omega
                have hxb : ((x : Int) / 3 != (x : Int) % 3) = true := by simp; omega
                have hxe : ¬ (x : Int) / 3 = (x : Int) % 3 := by omega
                cases e1 with
                | false =>
                  go_wp2_with fail
                  go_quiet (fail)
                  go_wp2_with fail
                  obtain ⟨Y, hY⟩ : ∃ y, y = wr.drewN nq := ⟨_, rfl⟩
                  have r1 := cell_drewN (r1 nq)
                  have r2 := cell_drewN (r2 nq)
                  have c3 := cell_drewN (c3 nq)
                  have d3 := cell_drewN (d3 nq)
                  have HBP : Hid (Below w1.heap.size w1 Y) := by rw [hY]; exact (unhide HBP).trans (below_drewN _ _ _)
                  rw [← hY] at r1 r2 c3 d3 ⊢
                  clear hY c1 c2 d1 d2
                  go_quiet (fail)
                  go_wp2_with fail
                  go_roundw
                  case rel => exact ⟨x + 1, by omega, by go_num, (unhide HBP).trans (below_drewN _ _ _), fun x' hx' => by
                    by_cases e : x' = x
                    · subst e; exact (unhide HAP).2 (fun _ h => by cases h)
                    · exact unhide HX x' (by omega)⟩
                  case measure => simp [intOf]; omega
                | true =>
                  cases e2 with
                  | false =>
                    go_wp2_with fail
                    go_quiet (fail)
                    go_wp2_with fail
                    obtain ⟨Y, hY⟩ : ∃ y, y = wr.drewN nq := ⟨_, rfl⟩
                    have r1 := cell_drewN (r1 nq)
                    have r2 := cell_drewN (r2 nq)
                    have c3 := cell_drewN (c3 nq)
                    have d3 := cell_drewN (d3 nq)
                    have HBP : Hid (Below w1.heap.size w1 Y) := by rw [hY]; exact (unhide HBP).trans (below_drewN _ _ _)
                    rw [← hY] at r1 r2 c3 d3 ⊢
                    clear hY c1 c2 d1 d2
                    go_quiet (fail)
                    go_wp2_with fail
                    go_roundw
                    case rel => exact ⟨x + 1, by omega, by go_num, (unhide HBP).trans (below_drewN _ _ _), fun x' hx' => by
                      by_cases e : x' = x
                      · subst e; exact (unhide HAP).2 (fun _ _ h => by cases h)
                      · exact unhide HX x' (by omega)⟩
                    case measure => simp [intOf]; omega
                  | true =>
                    cases e3 with
                    | true =>
                      go_wp2_with fail
                      go_quiet (fail)
                      go_wp2_with fail
                      obtain ⟨Y, hY⟩ : ∃ y, y = wr.drewN nq := ⟨_, rfl⟩
                      have r1 := cell_drewN (r1 nq)
                      have r2 := cell_drewN (r2 nq)
                      have c3 := cell_drewN (c3 nq)
                      have d3 := cell_drewN (d3 nq)
                      have HBP : Hid (Below w1.heap.size w1 Y) := by rw [hY]; exact (unhide HBP).trans (below_drewN _ _ _)
                      rw [← hY] at r1 r2 c3 d3 ⊢
                      clear hY c1 c2 d1 d2
                      go_quiet (fail)
                      go_wp2_with fail
                      go_roundw
                      case rel => exact ⟨x + 1, by omega, by go_num, (unhide HBP).trans (below_drewN _ _ _), fun x' hx' => by
                        by_cases e : x' = x
                        · subst e; exact (unhide HAP).2 (by simp)
                        · exact unhide HX x' (by omega)⟩
                      case measure => simp [intOf]; omega
                    | false =>
                      go_wp2_with fail
                      go_quiet (fail)
                      go_wp2_with fail
                      obtain ⟨Y, hY⟩ : ∃ y, y = wr.drewN nq := ⟨_, rfl⟩
                      have r1 := cell_drewN (r1 nq)
                      have r2 := cell_drewN (r2 nq)
                      have c3 := cell_drewN (c3 nq)
                      have d3 := cell_drewN (d3 nq)
                      have HBP : Hid (Below w1.heap.size w1 Y) := by rw [hY]; exact (unhide HBP).trans (below_drewN _ _ _)
                      rw [← hY] at r1 r2 c3 d3 ⊢
                      clear hY c1 c2 d1 d2
                      go_quiet (fail)
                      go_wp2_with fail
                      go_ret
                      refine ⟨⟨false, rfl, (fun h => by cases h), fun h => ?_⟩, (unhide HO).2.2.trans (((unhide HBP).trans (below_drewN _ _ _)).mono (unhide HO).2.2.size)⟩
                      have := (unhide HAP).1 (h p hlp q hlq x hlx) hxy (by simp) (by simp)
                      cases this
            · obtain rfl : x = 9 := by omega
              go_wp2_with fail
              go_roundw
              case rel => exact ⟨q + 1, by omega, by go_num, hbp, fun q' hq' => by
                by_cases e : q' = q
                · subst e; exact unhide HX
                · exact unhide HQ q' (by omega)⟩
              case measure => simp [intOf]; omega
        · obtain rfl : q = 36 := by omega
          go_wp2_with fail
          go_roundw
          case rel => exact ⟨p + 1, by omega, by go_num, unhide HBP, fun p' hp' => by
            by_cases e : p' = p
            · subst e; exact unhide HQ
            · exact unhide HA p' (by omega)⟩
          case measure => simp [intOf]; omega
    · obtain rfl : p = 36 := by omega
      go_wp2_with fail
      go_ret
      exact ⟨⟨true, rfl, fun _ => unhide HA, fun _ => rfl⟩, (unhide HO).2.2.trans ((unhide HBP).mono (unhide HO).2.2.size)⟩
end Go.Proofs.Ytbbbjpkomnhofaa
