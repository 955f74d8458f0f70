import Derived.Test.YtkeanlpgnnikjaaC
namespace Go.Proofs.Ytkeanlpgnnikjaa
open Go.RowKit
set_option maxRecDepth 100000 in
set_option maxHeartbeats 4000000 in
theorem shareMay_any (a : Option Addr) (n c : Nat) (L : List Sl) (w : World) (h : Lsts w a n c L) :
    Calls Try.prog 7 #[.slice a n c] w fun e w' => e = .returned (.int .i64 (smE L)) ∧ Below w.heap.size w w' := by
  have h1 := h.2.1
  have h2 := h.2.2.1
  unfold maxLen at h2
  have hl : n = L.length := h.1
  by_cases hn : L.length < 1 ∨ 4 < L.length
  · rw [smE_n hn]
    rw [← hl] at hn
    clear h hl
    rcases hn with hn | hn
    · obtain rfl : n = 0 := by omega
      go_enter Try.func7, Try.ntmps7
      go_wp2
      go_ret
      exact ⟨rfl, Below.refl _ _⟩
    · go_enter Try.func7, Try.ntmps7
      go_wp2
      go_ret
      exact ⟨rfl, Below.refl _ _⟩
  · have hn1 : 1 ≤ n := by omega
    have hn4 : n ≤ 4 := by omega
    obtain ⟨b, off, rfl, hb, hcell⟩ := h.cellAt hn1
    have HC : Hid (∀ W, Below w.heap.size w W → ∀ j, j < n → W.cell? ⟨b, off + j, none⟩ = some (.slice (slAt L j).la (slAt L j).ln (slAt L j).lc)) := fun W hW j hj => by rw [hW.cell (p := ⟨b, off + j, none⟩) hb, hcell j hj]
    have HI : Hid (∀ W, Below w.heap.size w W → ∀ k, k < n → Ints W (slAt L k).la (slAt L k).ln (slAt L k).lc (slAt L k).ints) := fun W hW k hk => (h.mem (k := k) hk).later hW
    obtain ⟨G, hG⟩ : ∃ G, (slAt L 0).ln = G := ⟨_, rfl⟩
    have HEG := hide (fun q => smE_g (L := L) hn q)
    have HEL := hide (fun p q => smE_len (L := L) hn p q)
    have HEO := hide (fun p q r => smE_ok (L := L) hn p q r)
    have HEB := hide (fun p q r => smE_bad (L := L) hn p q r)
    have HG := hide hG
    rw [hG] at HEG HEL HEO HEB
    rw [← hl] at HEL HEO HEB
    have i0 := h.mem (k := 0) hn1
    have i1 := i0.2.1
    have i2 := i0.2.2.1
    unfold maxLen at i2
    have HC0 : Hid (∀ W, Below w.heap.size w W → W.cell? ⟨b, off, none⟩ = some (.slice (slAt L 0).la G (slAt L 0).lc)) := fun W hW => by have := unhide HC W hW 0 hn1; rw [Nat.add_zero, hG] at this; exact this
    rw [hG] at i1
    clear h hl hn hG hcell i0
    generalize smE L = E at *
    generalize (slAt L 0).la = la0 at *
    generalize (slAt L 0).lc = lc0 at *
    go_enter Try.func7, Try.ntmps7
    go_wp2
    go_loopw [3] (fun i wr => Below w.heap.size w wr ∧ ∃ k : Nat, k ≤ n ∧ i = .int .i64 k ∧ ∀ j, j < k → (slAt L j).ln ≤ 8 ∧ (slAt L j).ln = G) (fun i _ => n - (intOf i).toNat)
    case atStart => exact ⟨Below.refl _ _, 0, Nat.zero_le _, rfl, fun j hj => by omega⟩
    case round =>
      obtain ⟨hbr, k, hk, rfl, hlen⟩ := hrel
      have HLN := hide hlen
      clear hlen
      by_cases hlt : k < n
      · have hck := unhide HC _ hbr k hlt
        have hik := unhide HI _ hbr k hlt
        have hc0 := unhide HC0 _ hbr
        have hk1 := hik.2.1
        have hk2 := hik.2.2.1
        unfold maxLen at hk2
        clear hik
        by_cases h8 : 8 < (slAt L k).ln
        · have HR : Hid (E = 7) := by
            by_cases hg : 8 < G
            · exact unhide HEG hg
            · exact unhide HEL hg ⟨k, hlt, by omega⟩
          have hd : decide ((8 : Int) < ((slAt L k).ln : Int)) = true := by simp; omega
          generalize slAt L k = s at *
          obtain ⟨sa, sn, sc, si⟩ := s
          simp only at hck hk1 hk2 h8 hd
          go_wp2_with fail
          go_quiet (fail)
          go_wp2
          go_ret
          exact ⟨ret_int (unhide HR).symm, hbr.trans ((below_drewN _ _ _).mono hbr.size)⟩
        · by_cases hlk : (slAt L k).ln = G
          · have HLN2 : Hid (∀ j, j < k + 1 → (slAt L j).ln ≤ 8 ∧ (slAt L j).ln = G) := fun j hj => by
              by_cases e : j = k
              · subst e; exact ⟨by omega, hlk⟩
              · exact unhide HLN j (by omega)
            have hd : decide ((8 : Int) < ((slAt L k).ln : Int)) = false := by simp; omega
            have hee : (((slAt L k).ln : Int) == (G : Int)) = true := by simp; omega
            clear hlk
            generalize slAt L k = s at *
            obtain ⟨sa, sn, sc, si⟩ := s
            simp only at hck hk1 hk2 hee h8 hd
            go_wp2_with fail
            go_quiet (fail)
            go_wp2
            go_roundw
            case rel => exact ⟨hbr.trans ((below_drewN _ _ _).mono hbr.size), k+1, by omega, by go_num, unhide HLN2⟩
            case measure => simp [intOf]; omega
          · have HR : Hid (E = 7) := by
              by_cases hg : 8 < G
              · exact unhide HEG hg
              · exact unhide HEL hg ⟨k, hlt, hlk⟩
            have hd : decide ((8 : Int) < ((slAt L k).ln : Int)) = false := by simp; omega
            have hee : (((slAt L k).ln : Int) == (G : Int)) = false := by simp; omega
            clear hlk
            generalize slAt L k = s at *
            obtain ⟨sa, sn, sc, si⟩ := s
            simp only at hck hk1 hk2 hee h8 hd
            go_wp2_with fail
            go_quiet (fail)
            go_wp2
            go_ret
            exact ⟨ret_int (unhide HR).symm, hbr.trans ((below_drewN _ _ _).mono hbr.size)⟩
      · obtain rfl : n = k := by omega
        have hne : ¬ ∃ j, j < n ∧ (slAt L j).ln ≠ G := fun ⟨j, j1, j2⟩ => j2 (unhide HLN j j1).2
        have hg : ¬ 8 < G := by have := unhide HLN 0 hn1; omega
        have HEO := hide (unhide HEO hg hne)
        have HEB := hide (unhide HEB hg hne)
        clear hne HEL HEG
        go_wp2
        go_loop [4, 5] (fun i _ => ∃ k : Nat, k ≤ n ∧ i = .int .i64 k ∧ OkV k G L) (fun i _ => n - (intOf i).toNat)
        case atStart => exact ⟨0, Nat.zero_le _, rfl, fun j hj => by omega⟩
        case round =>
          obtain ⟨k, hk, rfl, hok⟩ := hrel
          have HOK := hide hok
          clear hok
          by_cases hlt2 : k < n
          · have hck := unhide HC _ hbr k hlt2
            have hik := unhide HI _ hbr k hlt2
            have hk1 := hik.2.1
            have hk2 := hik.2.2.1
            have hlk := (unhide HLN k hlt2).2
            have HV : Hid (∀ g, vl L k g = nth (slAt L k).ints g) := fun g => rfl
            have HIK := hide hik
            unfold maxLen at hk2
            clear hik
            generalize slAt L k = s at *
            obtain ⟨sa, sn, sc, si⟩ := s
            simp only at hck hk1 hk2 HV HIK hlk
            subst hlk
            go_wp2
            go_loop [5] (fun i => ∃ m : Nat, m ≤ sn ∧ i = .int .i64 m ∧ ∀ g, g < m → 0 ≤ vl L k g ∧ vl L k g ≤ 1000) (fun i => sn - (intOf i).toNat)
            case atStart => exact ⟨0, Nat.zero_le _, rfl, fun j hj => by omega⟩
            case round =>
              obtain ⟨m, hm, rfl, hgs⟩ := hrel
              have HGS := hide hgs
              clear hgs
              by_cases hlt3 : m < sn
              · obtain ⟨b2, o2, rfl, hb2, hc2⟩ := (unhide HIK).nth (by omega)
                have hcm := hc2 m hlt3
                rw [← unhide HV m] at hcm
                clear hc2
                have HBD : Hid (¬ (0 ≤ vl L k m ∧ vl L k m ≤ 1000) → E = 9) := fun q => unhide HEB (fun z => q (z k hlt2 m hlt3))
                have HGN : Hid (0 ≤ vl L k m ∧ vl L k m ≤ 1000 → ∀ g, g < m + 1 → 0 ≤ vl L k g ∧ vl L k g ≤ 1000) := fun q g hg => by
                  by_cases e : g = m
                  · subst e; exact q
                  · exact unhide HGS g (by omega)
                generalize vl L k m = x at hcm HBD HGN
                by_cases hx : x < 0
                · go_wp2
                  go_ret
                  exact ⟨ret_int (unhide HBD (by omega)).symm, hbr⟩
                · by_cases hy : 1000 < x
                  · go_wp2
                    go_ret
                    exact ⟨ret_int (unhide HBD (by omega)).symm, hbr⟩
                  · go_wp2
                    exact ⟨⟨m + 1, by omega, by go_num, unhide HGN ⟨by omega, by omega⟩⟩, by simp [intOf]; omega⟩
              · obtain rfl : sn = m := by omega
                have HON : Hid (OkV (k + 1) sn L) := fun i hi g hg => by
                  by_cases e : i = k
                  · subst e; exact unhide HGS g hg
                  · exact unhide HOK i (by omega) g hg
                go_wp2
                exact ⟨⟨k + 1, by omega, by go_num, unhide HON⟩, by simp [intOf]; omega⟩
          · obtain rfl : n = k := by omega
            have HR : Hid (E = 0) := unhide HEO (unhide HOK)
            go_wp2
            go_ret
            exact ⟨ret_int (unhide HR).symm, hbr⟩
end Go.Proofs.Ytkeanlpgnnikjaa
