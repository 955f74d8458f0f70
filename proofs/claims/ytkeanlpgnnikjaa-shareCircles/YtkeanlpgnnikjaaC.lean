import Derived.Test.YtkeanlpgnnikjaaA
namespace Go.Proofs.Ytkeanlpgnnikjaa
open Go.RowKit
/-- What a good is worth to a guest. -/
def vl (L : List Sl) (i g : Nat) : Int := nth (slAt L i).ints g
def OkV (k G : Nat) (L : List Sl) : Prop := ∀ i, i < k → ∀ g, g < G → 0 ≤ vl L i g ∧ vl L i g ≤ 1000
open Classical in
/-- What May says. -/
noncomputable def smE (L : List Sl) : Int := if L.length < 1 ∨ 4 < L.length then 7 else if 8 < (slAt L 0).ln then 7 else if ∃ j, j < L.length ∧ (slAt L j).ln ≠ (slAt L 0).ln then 7 else if OkV L.length (slAt L 0).ln L then 0 else 9
theorem smE_n {L : List Sl} (h : L.length < 1 ∨ 4 < L.length) : smE L = 7 := by unfold smE; rw [if_pos h]
theorem smE_g {L : List Sl} (h : ¬ (L.length < 1 ∨ 4 < L.length)) (h2 : 8 < (slAt L 0).ln) : smE L = 7 := by unfold smE; rw [if_neg h, if_pos h2]
theorem smE_len {L : List Sl} (h : ¬ (L.length < 1 ∨ 4 < L.length)) (h2 : ¬ 8 < (slAt L 0).ln) (h3 : ∃ j, j < L.length ∧ (slAt L j).ln ≠ (slAt L 0).ln) : smE L = 7 := by unfold smE; rw [if_neg h, if_neg h2, if_pos h3]
theorem smE_ok {L : List Sl} (h : ¬ (L.length < 1 ∨ 4 < L.length)) (h2 : ¬ 8 < (slAt L 0).ln) (h3 : ¬ ∃ j, j < L.length ∧ (slAt L j).ln ≠ (slAt L 0).ln) (h4 : OkV L.length (slAt L 0).ln L) : smE L = 0 := by unfold smE; rw [if_neg h, if_neg h2, if_neg h3, if_pos h4]
theorem smE_bad {L : List Sl} (h : ¬ (L.length < 1 ∨ 4 < L.length)) (h2 : ¬ 8 < (slAt L 0).ln) (h3 : ¬ ∃ j, j < L.length ∧ (slAt L j).ln ≠ (slAt L 0).ln) (h4 : ¬ OkV L.length (slAt L 0).ln L) : smE L = 9 := by unfold smE; rw [if_neg h, if_neg h2, if_neg h3, if_neg h4]
/-- Values that may be, of n guests and G goods. -/
structure Vals (n G : Nat) (L : List Sl) : Prop where
  len : L.length = n
  n1 : 1 ≤ n
  n4 : n ≤ 4
  g8 : G ≤ 8
  row : ∀ j, j < n → (slAt L j).ln = G
  ok : OkV n G L
theorem smE_vals {L : List Sl} (h : smE L = 0) : Vals L.length (slAt L 0).ln L := by
  by_cases h1 : L.length < 1 ∨ 4 < L.length
  · rw [smE_n h1] at h; omega
  · by_cases h2 : 8 < (slAt L 0).ln
    · rw [smE_g h1 h2] at h; omega
    · by_cases h3 : ∃ j, j < L.length ∧ (slAt L j).ln ≠ (slAt L 0).ln
      · rw [smE_len h1 h2 h3] at h; omega
      · by_cases h4 : OkV L.length (slAt L 0).ln L
        · exact ⟨rfl, by omega, by omega, by omega, fun j hj => Decidable.byContradiction fun e => h3 ⟨j, hj, e⟩, h4⟩
        · rw [smE_bad h1 h2 h3 h4] at h; omega
theorem Vals.smE {n G : Nat} {L : List Sl} (h : Vals n G L) : smE L = 0 := by
  have e0 := h.row 0 h.n1
  have h1 := h.n1
  have h4 := h.n4
  have h8 := h.g8
  have hl := h.len
  refine smE_ok (by omega) (by omega) ?_ ?_
  · rintro ⟨j, j1, j2⟩
    have := h.row j (by omega)
    omega
  · rw [hl, e0]; exact h.ok
set_option maxRecDepth 100000 in
set_option maxHeartbeats 2000000 in
theorem mayBe_any (a : Option Addr) (n c : Nat) (L : List Sl) (w : World) (h : Lsts w a n c L) :
    Calls Try.prog 27 #[.slice a n c, .int .i64 0, .int .i64 8] w fun e w' => e = .returned (.int .i64 (smE L)) ∧ w' = w := by
  have h1 := h.2.1
  have h2 := h.2.2.1
  unfold maxLen at h2
  have hl : n = L.length := h.1
  by_cases hn : L.length < 1 ∨ 4 < L.length
  · rw [smE_n hn]
    rw [← hl] at hn
    clear h hl
    rcases hn with hn | hn
    · obtain rfl : n = 0 := by omega
      go_enter Try.func27, Try.ntmps27
      go_wp2
      go_ret
      exact ⟨rfl, rfl⟩
    · go_enter Try.func27, Try.ntmps27
      go_wp2
      go_ret
      exact ⟨rfl, rfl⟩
  · have hn1 : 1 ≤ n := by omega
    have hn4 : n ≤ 4 := by omega
    obtain ⟨b, off, rfl, hb, hcell⟩ := h.cellAt hn1
    have HC := hide hcell
    have HI := hide (fun k hk => h.mem (k := k) hk)
    have c0 := hcell 0 hn1
    rw [Nat.add_zero] at c0
    have i0 := h.mem (k := 0) hn1
    have i1 := i0.2.1
    have i2 := i0.2.2.1
    unfold maxLen at i2
    clear i0
    obtain ⟨G, hG⟩ : ∃ G, (slAt L 0).ln = G := ⟨_, rfl⟩
    have HEG := hide (fun q => smE_g (L := L) hn q)
    have HEL := hide (fun p q => smE_len (L := L) hn p q)
    have HEO := hide (fun p q r => smE_ok (L := L) hn p q r)
    have HEB := hide (fun p q r => smE_bad (L := L) hn p q r)
    rw [hG] at HEG HEL HEO HEB c0 i1
    rw [← hl] at HEL HEO HEB
    clear h hl hn hG hcell
    generalize smE L = E at *
    by_cases hg : 8 < G
    · have HR := hide (unhide HEG hg)
      go_enter Try.func27, Try.ntmps27
      go_wp2
      go_ret
      exact ⟨ret_int (unhide HR).symm, rfl⟩
    · have HEL := hide (unhide HEL hg)
      have HEO := hide (unhide HEO hg)
      have HEB := hide (unhide HEB hg)
      clear HEG
      go_enter Try.func27, Try.ntmps27
      go_wp2
      go_loop [36, 9] (fun i _ => ∃ k : Nat, k ≤ n ∧ i = .int .i64 k ∧ ∀ j, j < k → (slAt L j).ln = G) (fun i _ => n - (intOf i).toNat)
      case atStart => exact ⟨0, Nat.zero_le _, rfl, fun j hj => by omega⟩
      case round =>
        obtain ⟨k, hk, rfl, hlen⟩ := hrel
        have HLN := hide hlen
        clear hlen
        by_cases hlt : k < n
        · have hck := unhide HC k hlt
          have hik := unhide HI k hlt
          have hk1 := hik.2.1
          have hk2 := hik.2.2.1
          unfold maxLen at hk2
          clear hik
          by_cases hlk : (slAt L k).ln = G
          · have HLN2 : Hid (∀ j, j < k + 1 → (slAt L j).ln = G) := fun j hj => by
              by_cases e : j = k
              · subst e; exact hlk
              · exact unhide HLN j (by omega)
            have hee : (((slAt L k).ln : Int) == (G : Int)) = true := by simp; omega
            clear hlk
            generalize slAt L k = s at *
            obtain ⟨sa, sn, sc, si⟩ := s
            simp only at hck hk1 hk2 hee
            go_wp2
            exact ⟨⟨k + 1, by omega, by go_num, unhide HLN2⟩, by simp [intOf]; omega⟩
          · have HR : Hid (E = 7) := unhide HEL ⟨k, hlt, hlk⟩
            have hee : (((slAt L k).ln : Int) == (G : Int)) = false := by simp; omega
            clear hlk
            generalize slAt L k = s at *
            obtain ⟨sa, sn, sc, si⟩ := s
            simp only at hck hk1 hk2 hee
            go_wp2
            go_ret
            exact ⟨ret_int (unhide HR).symm, rfl⟩
        · obtain rfl : n = k := by omega
          have hne : ¬ ∃ j, j < n ∧ (slAt L j).ln ≠ G := fun ⟨j, j1, j2⟩ => j2 (unhide HLN j j1)
          have HEO := hide (unhide HEO hne)
          have HEB := hide (unhide HEB hne)
          clear hne HEL
          go_wp2
          go_loop [47, 11, 13] (fun i _ _ => ∃ k : Nat, k ≤ n ∧ i = .int .i64 k ∧ OkV k G L) (fun i _ _ => n - (intOf i).toNat)
          case atStart => exact ⟨0, Nat.zero_le _, rfl, fun j hj => by omega⟩
          case round =>
            obtain ⟨k, hk, rfl, hok⟩ := hrel
            have HOK := hide hok
            clear hok
            by_cases hlt2 : k < n
            · have hck := unhide HC k hlt2
              have hik := unhide HI k hlt2
              have hk1 := hik.2.1
              have hk2 := hik.2.2.1
              have hlk := unhide HLN k hlt2
              have HV : Hid (∀ g, vl L k g = nth (slAt L k).ints g) := fun g => rfl
              have HIK := hide hik
              unfold maxLen at hk2
              clear hik
              generalize slAt L k = s at *
              obtain ⟨sa, sn, sc, si⟩ := s
              simp only at hck hk1 hk2 HV HIK hlk
              subst hlk
              go_wp2
              go_loop [53, 13] (fun i _ => ∃ m : Nat, m ≤ sn ∧ i = .int .i64 m ∧ ∀ g, g < m → 0 ≤ vl L k g ∧ vl L k g ≤ 1000) (fun i _ => sn - (intOf i).toNat)
              case atStart => exact ⟨0, Nat.zero_le _, rfl, fun j hj => by omega⟩
              case round =>
                obtain ⟨m, hm, rfl, hgs⟩ := hrel
                have HGS := hide hgs
                clear hgs
                by_cases hlt3 : m < sn
                · obtain ⟨b2, o2, rfl, hb2, hc2⟩ := (unhide HIK).nth (by omega)
                  have hcm := hc2 m hlt3
                  rw [← unhide HV m] at hcm
                  clear hc2
                  have HBD : Hid (¬ (0 ≤ vl L k m ∧ vl L k m ≤ 1000) → E = 9) := fun q => unhide HEB (fun z => q (z k hlt2 m hlt3))
                  have HGN : Hid (0 ≤ vl L k m ∧ vl L k m ≤ 1000 → ∀ g, g < m + 1 → 0 ≤ vl L k g ∧ vl L k g ≤ 1000) := fun q g hg => by
                    by_cases e : g = m
                    · subst e; exact q
                    · exact unhide HGS g (by omega)
                  generalize vl L k m = x at hcm HBD HGN
                  by_cases hx : x < 0
                  · go_wp2
                    go_ret
                    exact ⟨ret_int (unhide HBD (by omega)).symm, rfl⟩
                  · by_cases hy : 1000 < x
                    · go_wp2
                      go_ret
                      exact ⟨ret_int (unhide HBD (by omega)).symm, rfl⟩
                    · go_wp2
                      exact ⟨⟨m + 1, by omega, by go_num, unhide HGN ⟨by omega, by omega⟩⟩, by simp [intOf]; omega⟩
                · obtain rfl : sn = m := by omega
                  have HON : Hid (OkV (k + 1) sn L) := fun i hi g hg => by
                    by_cases e : i = k
                    · subst e; exact unhide HGS g hg
                    · exact unhide HOK i (by omega) g hg
                  go_wp2
                  exact ⟨⟨k + 1, by omega, by go_num, unhide HON⟩, by simp [intOf]; omega⟩
            · obtain rfl : n = k := by omega
              have HR : Hid (E = 0) := unhide HEO (unhide HOK)
              go_wp2
              go_ret
              exact ⟨ret_int (unhide HR).symm, rfl⟩
theorem may_any (a : Option Addr) (n c : Nat) (L : List Sl) (w : World) (h : Lsts w a n c L) :
    Calls Try.prog 11 #[.slice a n c] w fun e w' => e = .returned (.int .i64 (smE L)) ∧ w' = w := by
  have CM := hide (mayBe_any a n c L w h)
  go_enter Try.func11, Try.ntmps11
  go_wp2_with fail
  refine (unhide CM).mono ?_
  rintro e w2 ⟨rfl, hw2⟩
  subst w2
  go_wp2
  go_ret
  exact ⟨rfl, rfl⟩
end Go.Proofs.Ytkeanlpgnnikjaa
