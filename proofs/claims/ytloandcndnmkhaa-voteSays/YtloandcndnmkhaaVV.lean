import Derived.Test.YtloandcndnmkhaaUU
namespace Go.Proofs.Ytloandcndnmkhaa
open Go.RowKit
theorem pc_pos : ∀ t : Nat, t < 64 → 0 < t → 0 < pc t := by decide +kernel
theorem rules_sm (n : Nat) (a : Option Addr) (m c : Nat) (l : List Bal) (sa : Option Addr) (sc t : Nat) (w : World) (h : Bals w a m c l) (hg : Good n l) (hs : Ints w sa (smL t n).length sc (smL t n)) (b : Bool)
    (hb : b = true ↔ Dom (prf l l.length) n t) :
    Calls Try.prog 62 #[.int .i64 n, .slice a m c, .slice sa (smL t n).length sc] w fun e w' => e = .returned (.bool b) ∧ w' = w :=
  rules_any n a m c l sa (smL t n).length sc (smN t n) w h hg (by rw [← smL_map t n]; exact hs) b (by rw [← smL_map t n]; exact hb.trans (rul_dom _ n t).symm)
/-- Where the best of the sets so far stands. -/
def BestP (p : Nat → Nat → Int) (n s : Nat) (v : Value) (wr : World) : Prop :=
  (v = .slice none 0 0 ∧ ∀ u, 0 < u → u < s → ¬ Dom p n u) ∨
  ∃ t a c, 0 < t ∧ t < 2 ^ n ∧ Dom p n t ∧ v = .slice a (pc t) c ∧ Ints wr a (pc t) c (smL t n) ∧ ∀ u, 0 < u → u < s → Dom p n u → pc t ≤ pc u
set_option maxRecDepth 100000 in
set_option maxHeartbeats 8000000 in
theorem smithR_any (n : Nat) (a : Option Addr) (m c : Nat) (l : List Bal) (w : World) (h : Bals w a m c l) (hg : Good n l) :
    Calls Try.prog 35 #[.int .i64 n, .slice a m c] w fun e w' => ∃ L a c, LeastP (prf l l.length) n L ∧ e = .returned (.slice a (smL L n).length c) ∧ Ints w' a (smL L n).length c (smL L n) ∧ Below w.heap.size w w' := by
  have hn1 := hg.1
  have hn6 := hg.2.1
  have CR := hide (fun (wr : World) (hb : Below w.heap.size w wr) sa sc t hs b hbb => rules_sm n a m c l sa sc t wr (h.later hb) hg hs b hbb)
  have hm1 := h.2.1
  have hm2 := h.2.2.1
  clear h hg
  generalize prf l l.length = p at *
  obtain ⟨e1, h64, e3⟩ := pow_small n hn6
  have HDA := hide (dom_all p n)
  have hN1 : 2 ≤ 2 ^ n := by
    have : 2 ^ 1 ≤ 2 ^ n := Nat.pow_le_pow_right (by omega) hn1
    omega
  have HBP : Hid (∀ s v wr, BestP p n s v wr ↔ (v = .slice none 0 0 ∧ ∀ u, 0 < u → u < s → ¬ Dom p n u) ∨ ∃ t a c, 0 < t ∧ t < 2 ^ n ∧ Dom p n t ∧ v = .slice a (pc t) c ∧ Ints wr a (pc t) c (smL t n) ∧ ∀ u, 0 < u → u < s → Dom p n u → pc t ≤ pc u) := fun _ _ _ => Iff.rfl
  have HLP : Hid (∀ L, LeastP p n L ↔ Dom p n L ∧ 0 < L ∧ L < 2 ^ n ∧ ∀ t, 0 < t → t < 2 ^ n → Dom p n t → pc L ≤ pc t) := fun L => Iff.rfl
  have HPC : Hid (∀ t, t < 2 ^ n → (smL t n).length = pc t) := fun t ht => sm_pc0 n (by omega) t (by omega) ht
  obtain ⟨N, hN⟩ : ∃ N : Nat, N = 2 ^ n := ⟨_, rfl⟩
  rw [← hN] at e1 e3 h64 HDA hN1 HLP HBP HPC
  have hn64 : n < 64 := by omega
  clear hN
  go_enter Try.func35, Try.ntmps35
  go_wp2_with fail
  go_loopw [6, 5, 7, 8] (fun i v _ _ wr => Below w.heap.size w wr ∧ ∃ s : Nat, 0 < s ∧ s ≤ N ∧ i = .int .i64 s ∧ BestP p n s v wr) (fun i _ _ _ _ => N - (intOf i).toNat)
  case atStart => exact ⟨Below.refl _ _, 1, by omega, by omega, rfl, (unhide HBP _ _ _).2 (.inl ⟨rfl, fun u h1 h2 => by omega⟩)⟩
  case round =>
    obtain ⟨hbr, s, hs0, hsN, rfl, hbest⟩ := hrel
    by_cases hlt : s < N
    · have HBE := hide hbest
      clear hbest
      have C := hide (bits_any s n wr hn6 (by omega))
      go_wp2_with fail
      refine (unhide C).mono ?_
      rintro e w1 ⟨a1, c1, rfl, hI1, hb1⟩
      have hbb := hbr.trans (hb1.mono hbr.size)
      have hpl := unhide HPC s hlt
      by_cases hd : Dom p n s
      · have CS := hide (unhide CR w1 hbb a1 c1 s hI1 true ⟨fun _ => hd, fun _ => rfl⟩)
        rw [hpl] at hI1 CS
        rw [hpl]
        have HI := hide hI1
        have HD := hide hd
        clear hI1 hd C
        have hpp := pc_lt s (by omega)
        have hpz := pc_pos s (by omega) hs0
        rcases (unhide HBP _ _ _).1 (unhide HBE) with ⟨hv, hno⟩ | ⟨t, at1, ct, ht0, htN, hdt, hv, hIt, hmin⟩
        · subst hv
          have HREL : Hid (BestP p n (s + 1) (.slice a1 (pc s) c1) w1) := (unhide HBP _ _ _).2 (.inr ⟨s, a1, c1, hs0, hlt, unhide HD, rfl, unhide HI, fun u u1 u2 u3 => by
            by_cases e : u = s
            · exact Nat.le_of_eq (congrArg pc e.symm)
            · exact absurd u3 (hno u u1 (by omega))⟩)
          clear hno HBE HI HD
          go_wp2_with fail
          refine (unhide CS).mono ?_
          rintro e w2 ⟨rfl, hw2⟩
          subst w2
          go_wp2_with fail
          go_roundw
          case rel => exact ⟨hbb, s + 1, by omega, by omega, by go_num, unhide HREL⟩
          case measure => simp [intOf]; omega
        · subst hv
          have htp := pc_lt t (by omega)
          have htz := pc_pos t (by omega) ht0
          by_cases hc : pc s < pc t
          · have HREL : Hid (BestP p n (s + 1) (.slice a1 (pc s) c1) w1) := (unhide HBP _ _ _).2 (.inr ⟨s, a1, c1, hs0, hlt, unhide HD, rfl, unhide HI, fun u u1 u2 u3 => by
              by_cases e : u = s
              · exact Nat.le_of_eq (congrArg pc e.symm)
              · have := hmin u u1 (by omega) u3
                omega⟩)
            clear hmin HBE HI HD hIt hdt
            go_wp2_with fail
            refine (unhide CS).mono ?_
            rintro e w2 ⟨rfl, hw2⟩
            subst w2
            go_wp2_with fail
            go_roundw
            case rel => exact ⟨hbb, s + 1, by omega, by omega, by go_num, unhide HREL⟩
            case measure => simp [intOf]; omega
          · have HREL : Hid (BestP p n (s + 1) (.slice at1 (pc t) ct) w1) := (unhide HBP _ _ _).2 (.inr ⟨t, at1, ct, ht0, htN, hdt, rfl, hIt.later hb1, fun u u1 u2 u3 => by
              by_cases e : u = s
              · rw [e]; omega
              · exact hmin u u1 (by omega) u3⟩)
            clear hmin HBE HI HD hIt hdt
            go_wp2_with fail
            refine (unhide CS).mono ?_
            rintro e w2 ⟨rfl, hw2⟩
            subst w2
            go_wp2_with fail
            go_roundw
            case rel => exact ⟨hbb, s + 1, by omega, by omega, by go_num, unhide HREL⟩
            case measure => simp [intOf]; omega
      · have CS := hide (unhide CR w1 hbb a1 c1 s hI1 false ⟨fun hh => (by cases hh), fun hh => absurd hh hd⟩)
        rw [hpl] at CS
        rw [hpl]
        clear hI1 C
        have hpp := pc_lt s (by omega)
        rcases (unhide HBP _ _ _).1 (unhide HBE) with ⟨hv, hno⟩ | ⟨t, at1, ct, ht0, htN, hdt, hv, hIt, hmin⟩
        · subst hv
          have HREL : Hid (BestP p n (s + 1) (.slice none 0 0) w1) := (unhide HBP _ _ _).2 (.inl ⟨rfl, fun u u1 u2 => by
            by_cases e : u = s
            · rw [e]; exact hd
            · exact hno u u1 (by omega)⟩)
          clear hno HBE hd
          go_wp2_with fail
          refine (unhide CS).mono ?_
          rintro e w2 ⟨rfl, hw2⟩
          subst w2
          go_wp2_with fail
          go_roundw
          case rel => exact ⟨hbb, s + 1, by omega, by omega, by go_num, unhide HREL⟩
          case measure => simp [intOf]; omega
        · subst hv
          have HREL : Hid (BestP p n (s + 1) (.slice at1 (pc t) ct) w1) := (unhide HBP _ _ _).2 (.inr ⟨t, at1, ct, ht0, htN, hdt, rfl, hIt.later hb1, fun u u1 u2 u3 => by
            by_cases e : u = s
            · rw [e] at u3; exact absurd u3 hd
            · exact hmin u u1 (by omega) u3⟩)
          clear hmin HBE hIt hdt hd
          go_wp2_with fail
          refine (unhide CS).mono ?_
          rintro e w2 ⟨rfl, hw2⟩
          subst w2
          go_wp2_with fail
          go_roundw
          case rel => exact ⟨hbb, s + 1, by omega, by omega, by go_num, unhide HREL⟩
          case measure => simp [intOf]; omega
    · obtain rfl : s = N := by omega
      rcases (unhide HBP _ _ _).1 hbest with ⟨hv, hno⟩ | ⟨t, at1, ct, ht0, htN, hdt, hv, hIt, hmin⟩
      · exact absurd (unhide HDA) (hno (s - 1) (by omega) (by omega))
      · subst hv
        have HL : Hid (LeastP p n t) := (unhide HLP t).2 ⟨hdt, ht0, htN, hmin⟩
        have hpl := unhide HPC t htN
        have HI := hide hIt
        clear hmin hdt hIt hbest
        go_wp2_with fail
        go_ret
        exact ⟨t, at1, ct, unhide HL, by rw [hpl]; rfl, by rw [hpl]; exact unhide HI, hbr⟩
end Go.Proofs.Ytloandcndnmkhaa
