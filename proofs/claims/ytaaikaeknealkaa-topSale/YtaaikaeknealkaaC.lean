import Derived.Test.YtaaikaeknealkaaB
namespace Go.Proofs.Ytaaikaeknealkaa
open Go.RowKit
/-- What one bidder's numbers say. -/
noncomputable def oE (it : Nat) (L : List Sl) (i : Nat) : Int := fE (wE it (nth (slAt L i).ints)) (2 ^ it) 0
open Classical in
/-- What May says. -/
noncomputable def seE (it : Int) (L : List Sl) : Int := if it < 0 ∨ 4 < it then 2 else if L.length < 1 ∨ 4 < L.length then 7 else if ∃ j, j < L.length ∧ (slAt L j).ln ≠ 2 ^ it.toNat then 7 else fE (oE it.toNat L) L.length 0
theorem seE_it {it : Int} {L : List Sl} (h : it < 0 ∨ 4 < it) : seE it L = 2 := by unfold seE; rw [if_pos h]
theorem seE_n {it : Int} {L : List Sl} (h : ¬ (it < 0 ∨ 4 < it)) (h2 : L.length < 1 ∨ 4 < L.length) : seE it L = 7 := by unfold seE; rw [if_neg h, if_pos h2]
theorem seE_len {it : Int} {L : List Sl} (h : ¬ (it < 0 ∨ 4 < it)) (h2 : ¬ (L.length < 1 ∨ 4 < L.length)) (h3 : ∃ j, j < L.length ∧ (slAt L j).ln ≠ 2 ^ it.toNat) : seE it L = 7 := by unfold seE; rw [if_neg h, if_neg h2, if_pos h3]
theorem seE_val {it : Int} {L : List Sl} (h : ¬ (it < 0 ∨ 4 < it)) (h2 : ¬ (L.length < 1 ∨ 4 < L.length)) (h3 : ¬ ∃ j, j < L.length ∧ (slAt L j).ln ≠ 2 ^ it.toNat) : seE it L = fE (oE it.toNat L) L.length 0 := by unfold seE; rw [if_neg h, if_neg h2, if_neg h3]
def bidV (it : Int) (a : Option Addr) (n c : Nat) : Value := .agg #[.int .i64 it, .slice a n c]
set_option maxRecDepth 100000 in
set_option maxHeartbeats 2000000 in
theorem may_any (it : Int) (a : Option Addr) (n c : Nat) (L : List Sl) (w : World) (h : Lsts w a n c L) :
    Calls Try.prog 9 #[bidV it a n c] w fun e w' => e = .returned (.int .i64 (seE it L)) ∧ Below w.heap.size w w' := by
  unfold bidV
  have h1 := h.2.1
  have h2 := h.2.2.1
  unfold maxLen at h2
  have hl : n = L.length := h.1
  by_cases hit : it < 0 ∨ 4 < it
  · rw [seE_it hit]
    clear h hl
    rcases hit with hit | hit
    · go_enter Try.func9, Try.ntmps9
      go_wp2
      go_ret
      exact ⟨rfl, by go_grown⟩
    · go_enter Try.func9, Try.ntmps9
      go_wp2
      go_ret
      exact ⟨rfl, by go_grown⟩
  · by_cases hn : L.length < 1 ∨ 4 < L.length
    · rw [seE_n hit hn]
      rw [← hl] at hn
      clear h hl
      rcases hn with hn | hn
      · obtain rfl : n = 0 := by omega
        go_enter Try.func9, Try.ntmps9
        go_wp2
        go_ret
        exact ⟨rfl, by go_grown⟩
      · go_enter Try.func9, Try.ntmps9
        go_wp2
        go_ret
        exact ⟨rfl, by go_grown⟩
    · obtain ⟨t, rfl⟩ : ∃ t : Nat, it = t := ⟨it.toNat, by omega⟩
      have ht : t ≤ 4 := by omega
      have hn1 : 1 ≤ n := by omega
      have hn4 : n ≤ 4 := by omega
      have HEL := hide (fun q => seE_len (it := (t : Int)) (L := L) hit hn q)
      have HEV := hide (fun q => seE_val (it := (t : Int)) (L := L) hit hn q)
      rw [Int.toNat_natCast, ← hl] at HEL HEV
      have hA : Below w.heap.size w (w.alloc (.cells #[.int .i64 (t : Int), .slice a n c] 24)) := by go_grown
      have hLA := h.later hA
      obtain ⟨b, off, rfl, hb, hcell⟩ := hLA.cellAt hn1
      have HC := hide hcell
      have HI := hide (fun k hk => hLA.mem (k := k) hk)
      obtain ⟨P, hP⟩ : ∃ P : Nat, P = 2 ^ t := ⟨_, rfl⟩
      have hwp := wrap_pow hP ht
      have hP16 : P ≤ 16 := by rw [hP]; exact pow_le ht
      have HO : Hid (∀ i, oE t L i = fE (wE t (nth (slAt L i).ints)) P 0) := fun i => by unfold oE; rw [hP]
      have HPP := hide hP
      rw [← hP] at HEL HEV
      have HA := hide hA
      clear h hLA hcell hl hit hn hP hA
      generalize seE (t : Int) L = E at *
      go_enter Try.func9, Try.ntmps9
      go_wp2
      go_loop [29, 4] (fun i _ => ∃ k : Nat, k ≤ n ∧ i = .int .i64 k ∧ ∀ j, j < k → (slAt L j).ln = P) (fun i _ => n - (intOf i).toNat)
      case atStart => exact ⟨0, Nat.zero_le _, rfl, fun j hj => by omega⟩
      case round =>
        obtain ⟨k, hk, rfl, hlen⟩ := hrel
        have HLN := hide hlen
        clear hlen
        by_cases hlt : k < n
        · have hck := unhide HC k hlt
          have hik := unhide HI k hlt
          have hk1 := hik.2.1
          have hk2 := hik.2.2.1
          unfold maxLen at hk2
          clear hik
          by_cases hlk : (slAt L k).ln = P
          · have HLN2 : Hid (∀ j, j < k + 1 → (slAt L j).ln = P) := fun j hj => by
              by_cases e : j = k
              · subst e; exact hlk
              · exact unhide HLN j (by omega)
            have hee : (((slAt L k).ln : Int) == (P : Int)) = true := by simp; omega
            clear hlk
            generalize slAt L k = s at *
            obtain ⟨sa, sn, sc, si⟩ := s
            simp only at hck hk1 hk2 hee
            go_wp2
            exact ⟨⟨k + 1, by omega, by go_num, unhide HLN2⟩, by simp [intOf]; omega⟩
          · have HR : Hid (E = 7) := unhide HEL ⟨k, hlt, hlk⟩
            have hee : (((slAt L k).ln : Int) == (P : Int)) = false := by simp; omega
            clear hlk
            generalize slAt L k = s at *
            obtain ⟨sa, sn, sc, si⟩ := s
            simp only at hck hk1 hk2 hee
            go_wp2
            go_ret
            exact ⟨ret_int (unhide HR).symm, unhide HA⟩
        · obtain rfl : n = k := by omega
          have HV : Hid (E = fE (oE t L) n 0) := unhide HEV (fun ⟨j, j1, j2⟩ => j2 (unhide HLN j j1))
          go_wp2
          go_loop [43, 6, 7] (fun i _ _ => ∃ k : Nat, k ≤ n ∧ i = .int .i64 k ∧ E = fE (oE t L) (n - k) k) (fun i _ _ => n - (intOf i).toNat)
          case atStart => exact ⟨0, Nat.zero_le _, rfl, unhide HV⟩
          case round =>
            obtain ⟨k, hk, rfl, hfe⟩ := hrel
            by_cases hlt2 : k < n
            · have HY : Hid (oE t L k ≠ 0 → E = oE t L k) := fun e => by rw [hfe, fE_yes hlt2 e]
              have HN : Hid (oE t L k = 0 → E = fE (oE t L) (n - (k + 1)) (k + 1)) := fun e => by rw [hfe, fE_no hlt2 e]
              have hck := unhide HC k hlt2
              have hik := unhide HI k hlt2
              have hlnk := unhide HLN k hlt2
              have CM := mayWorth_any _ _ _ _ t _ hik ht (hlnk.trans (unhide HPP))
              rw [hlnk, ← unhide HO k] at CM
              have CM := hide CM
              have hk1 := hik.2.1
              have hk2 := hik.2.2.1
              unfold maxLen at hk2
              clear hik hfe
              generalize oE t L k = x at *
              generalize slAt L k = s at *
              obtain ⟨sa, sn, sc, si⟩ := s
              simp only at hck hk1 hk2 hlnk CM
              subst hlnk
              by_cases hx : x = 0
              · have HR := hide (unhide HN hx)
                subst hx
                go_wp2_with fail
                refine (unhide CM).mono ?_
                rintro e w2 ⟨rfl, hw2⟩
                subst w2
                go_wp2
                exact ⟨⟨k + 1, by omega, by go_num, unhide HR⟩, by simp [intOf]; omega⟩
              · have HR := hide (unhide HY hx)
                have hx2 : (x == 0) = false := by simpa using hx
                go_wp2_with fail
                refine (unhide CM).mono ?_
                rintro e w2 ⟨rfl, hw2⟩
                subst w2
                go_wp2
                go_ret
                exact ⟨ret_int (unhide HR).symm, unhide HA⟩
            · obtain rfl : n = k := by omega
              have HR : Hid (E = 0) := by rw [hfe, fE_end]; rfl
              clear hfe
              go_wp2
              go_ret
              exact ⟨ret_int (unhide HR).symm, unhide HA⟩
end Go.Proofs.Ytaaikaeknealkaa
