import Derived.Test.YtaaikaeknealkaaC
namespace Go.Proofs.Ytaaikaeknealkaa
open Go.RowKit
set_option maxRecDepth 100000 in
set_option maxHeartbeats 4000000 in
theorem setsMay_any (it : Int) (a : Option Addr) (n c : Nat) (L : List Sl) (w : World) (h : Lsts w a n c L) :
    Calls Try.prog 8 #[bidV it a n c] w fun e w' => e = .returned (.int .i64 (seE it L)) ∧ Below w.heap.size w w' := by
  unfold bidV
  have h1 := h.2.1
  have h2 := h.2.2.1
  unfold maxLen at h2
  have hl : n = L.length := h.1
  by_cases hit : it < 0 ∨ 4 < it
  · rw [seE_it hit]
    clear h hl
    rcases hit with hit | hit
    · go_enter Try.func8, Try.ntmps8
      go_wp2
      go_ret
      exact ⟨rfl, by go_grown⟩
    · go_enter Try.func8, Try.ntmps8
      go_wp2
      go_ret
      exact ⟨rfl, by go_grown⟩
  · by_cases hn : L.length < 1 ∨ 4 < L.length
    · rw [seE_n hit hn]
      rw [← hl] at hn
      clear h hl
      rcases hn with hn | hn
      · obtain rfl : n = 0 := by omega
        go_enter Try.func8, Try.ntmps8
        go_wp2
        go_ret
        exact ⟨rfl, by go_grown⟩
      · go_enter Try.func8, Try.ntmps8
        go_wp2
        go_ret
        exact ⟨rfl, by go_grown⟩
    · obtain ⟨t, rfl⟩ : ∃ t : Nat, it = t := ⟨it.toNat, by omega⟩
      have ht : t ≤ 4 := by omega
      have hn1 : 1 ≤ n := by omega
      have hn4 : n ≤ 4 := by omega
      have HEL := hide (fun q => seE_len (it := (t : Int)) (L := L) hit hn q)
      have HEV := hide (fun q => seE_val (it := (t : Int)) (L := L) hit hn q)
      rw [Int.toNat_natCast, ← hl] at HEL HEV
      have hA : Below w.heap.size w (w.alloc (.cells #[.int .i64 (t : Int), .slice a n c] 24)) := by go_grown
      have hBx : (w.alloc (.cells #[.int .i64 (t : Int), .slice a n c] 24)).cell? ⟨w.heap.size, 0, none⟩ = some (.int .i64 (t : Int)) ∧ (w.alloc (.cells #[.int .i64 (t : Int), .slice a n c] 24)).cell? ⟨w.heap.size, 1, none⟩ = some (.slice a n c) ∧ w.heap.size < (w.alloc (.cells #[.int .i64 (t : Int), .slice a n c] 24)).heap.size := ⟨by simp, by simp, by simp⟩
      have hLA := h.later hA
      obtain ⟨b, off, rfl, hb, hcell⟩ := hLA.cellAt hn1
      obtain ⟨P, hP⟩ : ∃ P : Nat, P = 2 ^ t := ⟨_, rfl⟩
      have hwp := wrap_pow hP ht
      have hP16 : P ≤ 16 := by rw [hP]; exact pow_le ht
      have hP0 : 0 < P := by rw [hP]; exact Nat.two_pow_pos t
      have HO : Hid (∀ i, oE t L i = fE (wE t (nth (slAt L i).ints)) P 0) := fun i => by unfold oE; rw [hP]
      rw [← hP] at HEL HEV
      clear h hl hit hn hP
      generalize seE (t : Int) L = E at *
      go_enter Try.func8, Try.ntmps8
      go_wp2
      generalize w.alloc (.cells #[.int .i64 (t : Int), .slice (some ⟨b, off, none⟩) n c] 24) = W1 at *
      have HX : Hid (∀ W, Below W1.heap.size W1 W → W.cell? ⟨w.heap.size, 0, none⟩ = some (.int .i64 (t : Int)) ∧ W.cell? ⟨w.heap.size, 1, none⟩ = some (.slice (some ⟨b, off, none⟩) n c) ∧ ∀ k, k < n → W.cell? ⟨b, off + k, none⟩ = some (.slice (slAt L k).la (slAt L k).ln (slAt L k).lc)) := fun W hW =>
        ⟨(hW.cell (p := ⟨w.heap.size, 0, none⟩) hBx.2.2).trans hBx.1, (hW.cell (p := ⟨w.heap.size, 1, none⟩) hBx.2.2).trans hBx.2.1, fun k hk => (hW.cell (p := ⟨b, off + k, none⟩) hb).trans (hcell k hk)⟩
      have HI : Hid (∀ W, Below W1.heap.size W1 W → ∀ k, k < n → Ints W (slAt L k).la (slAt L k).ln (slAt L k).lc (slAt L k).ints) := fun W hW k hk => (hLA.mem hk).later hW
      have HA := hide hA
      clear hcell hLA hBx hA
      go_loopw [3] (fun i wr => Below W1.heap.size W1 wr ∧ ∃ k : Nat, k ≤ n ∧ i = .int .i64 k ∧ ∀ j, j < k → (slAt L j).ln = P) (fun i _ => n - (intOf i).toNat)
      case atStart => exact ⟨Below.refl _ _, 0, Nat.zero_le _, rfl, fun j hj => by omega⟩
      case round =>
        obtain ⟨hbr, k, hk, rfl, hlen⟩ := hrel
        have HLN := hide hlen
        clear hlen
        obtain ⟨x0, x1, xc⟩ := unhide HX _ hbr
        by_cases hlt : k < n
        · have hck := xc k hlt
          have hik := unhide HI _ hbr k hlt
          have hk1 := hik.2.1
          have hk2 := hik.2.2.1
          unfold maxLen at hk2
          clear hik xc
          by_cases hlk : (slAt L k).ln = P
          · have HLN2 : Hid (∀ j, j < k + 1 → (slAt L j).ln = P) := fun j hj => by
              by_cases e : j = k
              · subst e; exact hlk
              · exact unhide HLN j (by omega)
            have hee : (((slAt L k).ln : Int) == (P : Int)) = true := by simp; omega
            clear hlk
            generalize slAt L k = s at *
            obtain ⟨sa, sn, sc, si⟩ := s
            simp only at hck hk1 hk2 hee
            go_wp2_with fail
            go_quiet (fail)
            go_wp2_with fail
            go_roundw
            case rel => exact ⟨hbr.trans ((below_drewN _ _ _).mono hbr.size), k + 1, by omega, by go_num, unhide HLN2⟩
            case measure => simp [intOf]; omega
          · have HR : Hid (E = 7) := unhide HEL ⟨k, hlt, hlk⟩
            have hee : (((slAt L k).ln : Int) == (P : Int)) = false := by simp; omega
            clear hlk
            generalize slAt L k = s at *
            obtain ⟨sa, sn, sc, si⟩ := s
            simp only at hck hk1 hk2 hee
            have hbD := (unhide HA).trans (hbr.mono (unhide HA).size)
            go_wp2_with fail
            go_quiet (fail)
            go_wp2
            go_ret
            exact ⟨ret_int (unhide HR).symm, hbD.trans ((below_drewN _ _ _).mono hbD.size)⟩
        · obtain rfl : n = k := by omega
          have HV : Hid (E = fE (oE t L) n 0) := unhide HEV (fun ⟨j, j1, j2⟩ => j2 (unhide HLN j j1))
          clear xc
          go_wp2
          go_loopw [4, 5, 6, 7] (fun i _ _ _ wr => Below W1.heap.size W1 wr ∧ ∃ k : Nat, k ≤ n ∧ i = .int .i64 k ∧ E = fE (oE t L) (n - k) k) (fun i _ _ _ _ => n - (intOf i).toNat)
          case atStart => exact ⟨hbr, 0, Nat.zero_le _, rfl, unhide HV⟩
          case round =>
            obtain ⟨hbr2, k, hk, rfl, hfe⟩ := hrel
            obtain ⟨z0, z1, zc⟩ := unhide HX _ hbr2
            by_cases hlt2 : k < n
            · have HY : Hid (oE t L k ≠ 0 → E = oE t L k) := fun e => by rw [hfe, fE_yes hlt2 e]
              have HN : Hid (oE t L k = 0 → E = fE (oE t L) (n - (k + 1)) (k + 1)) := fun e => by rw [hfe, fE_no hlt2 e]
              have hck := zc k hlt2
              have hlnk := unhide HLN k hlt2
              have HIk : Hid (∀ W, Below W1.heap.size W1 W → Ints W (slAt L k).la (slAt L k).ln (slAt L k).lc (slAt L k).ints) := fun W hW => unhide HI W hW k hlt2
              have HOk := hide (unhide HO k)
              clear hfe zc
              generalize hox : oE t L k = x at *
              clear hox
              generalize slAt L k = s at *
              obtain ⟨sa, sn, sc, si⟩ := s
              simp only at hck hlnk HIk HOk
              subst hlnk
              have hsi1 := (unhide HIk _ hbr2).2.1
              have hsi2 := (unhide HIk _ hbr2).2.2.1
              unfold maxLen at hsi2
              obtain ⟨sb, so, hsae, hsb, _⟩ := (unhide HIk _ (Below.refl _ _)).nth (by omega)
              subst hsae
              have HCS : Hid (∀ W, Below W1.heap.size W1 W → ∀ j, j < sn → W.cell? ⟨sb, so + j, none⟩ = some (.int .i64 (nth si j))) := fun W hW j hj => by
                obtain ⟨b', o', e', _, hc'⟩ := (unhide HIk W hW).nth (by omega)
                cases e'
                exact hc' j hj
              clear HIk
              generalize nth si = v at *
              have HE : Hid (∀ s, (v s < 0 ∨ 1000 < v s ∨ (s = 0 ∧ v s ≠ 0)) → wE t v s = 9) := fun s q => wE_val q
              have HF : Hid (∀ s, ¬ (v s < 0 ∨ 1000 < v s ∨ (s = 0 ∧ v s ≠ 0)) → (∃ k, k < t ∧ hs s k = true ∧ v s < v (s - 2 ^ k)) → wE t v s = 11) := fun s q r => wE_st q r
              have HG : Hid (∀ s, ¬ (v s < 0 ∨ 1000 < v s ∨ (s = 0 ∧ v s ≠ 0)) → (¬ ∃ k, k < t ∧ hs s k = true ∧ v s < v (s - 2 ^ k)) → wE t v s = 0) := fun s q r => wE_ok q r
              generalize wE t v = EE at *
              go_wp2
              go_loopw [6, 7] (fun i _ wr => Below W1.heap.size W1 wr ∧ ∃ s : Nat, s ≤ sn ∧ i = .int .i64 s ∧ x = fE EE (sn - s) s) (fun i _ _ => sn - (intOf i).toNat)
              case atStart => exact ⟨hbr2, 0, Nat.zero_le _, rfl, unhide HOk⟩
              case round =>
                obtain ⟨hbr3, s, hs', rfl, hfe⟩ := hrel
                obtain ⟨y0', y1', yc'⟩ := unhide HX _ hbr3
                clear yc'
                have hbD := (unhide HA).trans (hbr3.mono (unhide HA).size)
                by_cases hlt3 : s < sn
                · have hckS := unhide HCS _ hbr3 s hlt3
                  have HY2 : Hid (EE s ≠ 0 → x = EE s) := fun e => by rw [hfe, fE_yes hlt3 e]
                  have HN2 : Hid (EE s = 0 → x = fE EE (sn - (s + 1)) (s + 1)) := fun e => by rw [hfe, fE_no hlt3 e]
                  clear hfe
                  by_cases hbad : v s < 0 ∨ 1000 < v s ∨ (s = 0 ∧ v s ≠ 0)
                  · have he := unhide HE s hbad
                    have hx9 : x = 9 := by rw [unhide HY2 (by rw [he]; omega), he]
                    have HR : Hid (E = 9) := by rw [unhide HY (by omega), hx9]; rfl
                    clear HY HN HY2 HN2 he hx9
                    generalize v s = y at *
                    by_cases y1 : y < 0
                    · go_wp2
                      go_ret
                      exact ⟨ret_int (unhide HR).symm, hbD⟩
                    · by_cases y2 : 1000 < y
                      · go_wp2
                        go_ret
                        exact ⟨ret_int (unhide HR).symm, hbD⟩
                      · obtain ⟨s0, y3⟩ : s = 0 ∧ y ≠ 0 := by
                          rcases hbad with h | h | h
                          · omega
                          · omega
                          · exact h
                        have e0 : ((s : Int) == 0) = true := by simp; omega
                        have y4 : (y == 0) = false := by simpa using y3
                        clear s0 hbad
                        go_wp2
                        go_ret
                        exact ⟨ret_int (unhide HR).symm, hbD⟩
                  · have HK1 := hide (unhide HF s hbad)
                    have HK2 := hide (unhide HG s hbad)
                    have y1 : ¬ v s < 0 := fun h => hbad (.inl h)
                    have y2 : ¬ 1000 < v s := fun h => hbad (.inr (.inl h))
                    have y3 : s = 0 → v s = 0 := fun h => by
                      rcases Int.lt_trichotomy (v s) 0 with e | e | e
                      · exact absurd e y1
                      · exact e
                      · exact absurd (.inr (.inr ⟨h, by omega⟩)) hbad
                    obtain ⟨y, hy⟩ : ∃ y, y = v s := ⟨_, rfl⟩
                    rw [← hy] at y1 y2 hckS HK1 HK2
                    have y3' : s = 0 → y = 0 := fun h => by rw [hy]; exact y3 h
                    have HYv := hide hy
                    clear hbad y3 hy
                    by_cases s0 : s = 0
                    · have e0 : ((s : Int) == 0) = true := by simp; omega
                      have y0 : (y == 0) = true := by rw [y3' s0]; rfl
                      clear s0
                      clear y3'
                      go_wp2
                      go_loopw [7] (fun i wr => Below W1.heap.size W1 wr ∧ ∃ k : Nat, k ≤ t ∧ i = .int .i64 k ∧ ∀ j, j < k → ¬ (hs s j = true ∧ y < v (s - 2 ^ j))) (fun i _ => t - (intOf i).toNat)
                      case atStart => exact ⟨hbr3, 0, Nat.zero_le _, rfl, fun j hj => by omega⟩
                      case round =>
                        obtain ⟨hbr4, kk, hkk0, rfl, hkk⟩ := hrel
                        obtain ⟨q0, q1, qc⟩ := unhide HX _ hbr4
                        clear qc
                        have HKK := hide hkk
                        have hckT : wr.cell? ⟨sb, so + s, none⟩ = some (.int .i64 y) := by rw [unhide HCS _ hbr4 s hlt3, unhide HYv]
                        clear hkk
                        by_cases hlk : kk < t
                        · obtain ⟨P2, hP2⟩ : ∃ P2 : Nat, P2 = 2 ^ kk := ⟨_, rfl⟩
                          have hwp2 := wrap_pow hP2 (by omega)
                          have hP20 : 0 < P2 := by rw [hP2]; exact Nat.two_pow_pos kk
                          have hP21 : P2 ≤ 16 := by rw [hP2]; exact pow_le (by omega)
                          have hPz : ((P2 : Int) == 0) = false := by simp; omega
                          have hle : hs s kk = true → P2 ≤ s := fun h => by rw [hP2]; exact hs_le h
                          cases hh : hs s kk
                          · have hr := rem_no hP2 (by omega) hh
                            have HKN : Hid (∀ j, j < kk + 1 → ¬ (hs s j = true ∧ y < v (s - 2 ^ j))) := fun j hj hc => by
                              by_cases e : j = kk
                              · subst e; rw [hh] at hc; cases hc.1
                              · exact unhide HKK j (by omega) hc
                            clear hP2
                            go_wp2_with fail
                            go_quiet (fail)
                            go_wp2_with fail
                            go_roundw
                            case rel => exact ⟨hbr4.trans ((below_drewN _ _ _).mono hbr4.size), kk + 1, by omega, by go_num, unhide HKN⟩
                            case measure => simp [intOf]; omega
                          · have hr := rem_yes hP2 (by omega) hh
                            have hPs := hle hh
                            obtain ⟨q, hq⟩ : ∃ q, q = s - P2 := ⟨_, rfl⟩
                            have hqi : (s : Int) - (P2 : Int) = (q : Int) := by omega
                            have hqn : q < sn := by omega
                            have hcq := unhide HCS _ hbr4 q hqn
                            have hvq : v (s - 2 ^ kk) = v q := by rw [hq, hP2]
                            clear hq
                            obtain ⟨z, hz⟩ : ∃ z, z = v q := ⟨_, rfl⟩
                            rw [← hz] at hcq hvq
                            by_cases hyz : y < z
                            · have HR : Hid (E = 11) := by
                                have := unhide HK1 ⟨kk, hlk, hh, by rw [hvq]; exact hyz⟩
                                have hx11 : x = 11 := by rw [unhide HY2 (by rw [this]; omega), this]
                                rw [unhide HY (by omega), hx11]; rfl
                              have hbD2 := (unhide HA).trans (hbr4.mono (unhide HA).size)
                              clear hP2 hz hvq
                              go_wp2_with fail
                              go_quiet (fail)
                              go_wp2
                              go_ret
                              exact ⟨ret_int (unhide HR).symm, hbD2.trans ((below_drewN _ _ _).mono hbD2.size)⟩
                            · have HKN : Hid (∀ j, j < kk + 1 → ¬ (hs s j = true ∧ y < v (s - 2 ^ j))) := fun j hj hc => by
                                by_cases e : j = kk
                                · subst e; rw [hvq] at hc; exact hyz hc.2
                                · exact unhide HKK j (by omega) hc
                              clear hP2 hz hvq
                              go_wp2_with fail
                              go_quiet (fail)
                              go_wp2_with fail
                              go_roundw
                              case rel => exact ⟨hbr4.trans ((below_drewN _ _ _).mono hbr4.size), kk + 1, by omega, by go_num, unhide HKN⟩
                              case measure => simp [intOf]; omega
                        · obtain rfl : t = kk := by omega
                          have HR : Hid (x = fE EE (sn - (s + 1)) (s + 1)) := unhide HN2 (unhide HK2 (fun ⟨j, j1, j2⟩ => unhide HKK j j1 j2))
                          go_wp2_with fail
                          go_roundw
                          case rel => exact ⟨hbr4, s + 1, by omega, by go_num, unhide HR⟩
                          case measure => simp [intOf]; omega
                    · have e0 : ((s : Int) == 0) = false := by simp; omega
                      clear y3'
                      go_wp2
                      go_loopw [7] (fun i wr => Below W1.heap.size W1 wr ∧ ∃ k : Nat, k ≤ t ∧ i = .int .i64 k ∧ ∀ j, j < k → ¬ (hs s j = true ∧ y < v (s - 2 ^ j))) (fun i _ => t - (intOf i).toNat)
                      case atStart => exact ⟨hbr3, 0, Nat.zero_le _, rfl, fun j hj => by omega⟩
                      case round =>
                        obtain ⟨hbr4, kk, hkk0, rfl, hkk⟩ := hrel
                        obtain ⟨q0, q1, qc⟩ := unhide HX _ hbr4
                        clear qc
                        have HKK := hide hkk
                        have hckT : wr.cell? ⟨sb, so + s, none⟩ = some (.int .i64 y) := by rw [unhide HCS _ hbr4 s hlt3, unhide HYv]
                        clear hkk
                        by_cases hlk : kk < t
                        · obtain ⟨P2, hP2⟩ : ∃ P2 : Nat, P2 = 2 ^ kk := ⟨_, rfl⟩
                          have hwp2 := wrap_pow hP2 (by omega)
                          have hP20 : 0 < P2 := by rw [hP2]; exact Nat.two_pow_pos kk
                          have hP21 : P2 ≤ 16 := by rw [hP2]; exact pow_le (by omega)
                          have hPz : ((P2 : Int) == 0) = false := by simp; omega
                          have hle : hs s kk = true → P2 ≤ s := fun h => by rw [hP2]; exact hs_le h
                          cases hh : hs s kk
                          · have hr := rem_no hP2 (by omega) hh
                            have HKN : Hid (∀ j, j < kk + 1 → ¬ (hs s j = true ∧ y < v (s - 2 ^ j))) := fun j hj hc => by
                              by_cases e : j = kk
                              · subst e; rw [hh] at hc; cases hc.1
                              · exact unhide HKK j (by omega) hc
                            clear hP2
                            go_wp2_with fail
                            go_quiet (fail)
                            go_wp2_with fail
                            go_roundw
                            case rel => exact ⟨hbr4.trans ((below_drewN _ _ _).mono hbr4.size), kk + 1, by omega, by go_num, unhide HKN⟩
                            case measure => simp [intOf]; omega
                          · have hr := rem_yes hP2 (by omega) hh
                            have hPs := hle hh
                            obtain ⟨q, hq⟩ : ∃ q, q = s - P2 := ⟨_, rfl⟩
                            have hqi : (s : Int) - (P2 : Int) = (q : Int) := by omega
                            have hqn : q < sn := by omega
                            have hcq := unhide HCS _ hbr4 q hqn
                            have hvq : v (s - 2 ^ kk) = v q := by rw [hq, hP2]
                            clear hq
                            obtain ⟨z, hz⟩ : ∃ z, z = v q := ⟨_, rfl⟩
                            rw [← hz] at hcq hvq
                            by_cases hyz : y < z
                            · have HR : Hid (E = 11) := by
                                have := unhide HK1 ⟨kk, hlk, hh, by rw [hvq]; exact hyz⟩
                                have hx11 : x = 11 := by rw [unhide HY2 (by rw [this]; omega), this]
                                rw [unhide HY (by omega), hx11]; rfl
                              have hbD2 := (unhide HA).trans (hbr4.mono (unhide HA).size)
                              clear hP2 hz hvq
                              go_wp2_with fail
                              go_quiet (fail)
                              go_wp2
                              go_ret
                              exact ⟨ret_int (unhide HR).symm, hbD2.trans ((below_drewN _ _ _).mono hbD2.size)⟩
                            · have HKN : Hid (∀ j, j < kk + 1 → ¬ (hs s j = true ∧ y < v (s - 2 ^ j))) := fun j hj hc => by
                                by_cases e : j = kk
                                · subst e; rw [hvq] at hc; exact hyz hc.2
                                · exact unhide HKK j (by omega) hc
                              clear hP2 hz hvq
                              go_wp2_with fail
                              go_quiet (fail)
                              go_wp2_with fail
                              go_roundw
                              case rel => exact ⟨hbr4.trans ((below_drewN _ _ _).mono hbr4.size), kk + 1, by omega, by go_num, unhide HKN⟩
                              case measure => simp [intOf]; omega
                        · obtain rfl : t = kk := by omega
                          have HR : Hid (x = fE EE (sn - (s + 1)) (s + 1)) := unhide HN2 (unhide HK2 (fun ⟨j, j1, j2⟩ => unhide HKK j j1 j2))
                          go_wp2_with fail
                          go_roundw
                          case rel => exact ⟨hbr4, s + 1, by omega, by go_num, unhide HR⟩
                          case measure => simp [intOf]; omega
                · obtain rfl : sn = s := by omega
                  have hx0 : x = 0 := by rw [hfe, fE_end]
                  have HR := hide (unhide HN hx0)
                  clear hfe
                  go_wp2_with fail
                  go_roundw
                  case rel => exact ⟨hbr3, k + 1, by omega, by go_num, unhide HR⟩
                  case measure => simp [intOf]; omega
            · obtain rfl : n = k := by omega
              have HR : Hid (E = 0) := by rw [hfe, fE_end]; rfl
              have hbD := (unhide HA).trans (hbr2.mono (unhide HA).size)
              clear hfe zc
              go_wp2
              go_ret
              exact ⟨ret_int (unhide HR).symm, hbD⟩
end Go.Proofs.Ytaaikaeknealkaa
