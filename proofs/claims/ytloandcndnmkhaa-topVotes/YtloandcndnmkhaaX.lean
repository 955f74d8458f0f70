import Derived.Test.YtloandcndnmkhaaW
namespace Go.Proofs.Ytloandcndnmkhaa
open Go.RowKit
/-- The fewest that beat all others. -/
def LeastP (p : Nat → Nat → Int) (n L : Nat) : Prop := Dom p n L ∧ 0 < L ∧ L < 2 ^ n ∧ ∀ t, 0 < t → t < 2 ^ n → Dom p n t → pc L ≤ pc t
def smL (s : Nat) : Nat → List Int
  | 0 => []
  | k + 1 => if s.testBit k = true then smL s k ++ [(k : Int)] else smL s k
theorem smL_len (s : Nat) : ∀ k, (smL s k).length ≤ k := by
  intro k
  induction k with
  | zero => simp [smL]
  | succ k ih =>
    unfold smL
    by_cases c : s.testBit k = true
    · rw [if_pos c, List.length_append]; simp; omega
    · rw [if_neg c]; omega
theorem smL_mem {s : Nat} {x : Int} : ∀ k, x ∈ smL s k ↔ ∃ i : Nat, i < k ∧ x = i ∧ s.testBit i = true := by
  intro k
  induction k with
  | zero => exact ⟨fun h => (by cases h), fun ⟨i, h, _⟩ => (by omega)⟩
  | succ k ih =>
    unfold smL
    by_cases c : s.testBit k = true
    · rw [if_pos c, List.mem_append, ih, List.mem_singleton]
      refine ⟨fun h => ?_, fun ⟨i, h1, h2, h3⟩ => ?_⟩
      · rcases h with ⟨i, h1, h2⟩ | h
        · exact ⟨i, by omega, h2⟩
        · exact ⟨k, by omega, h, c⟩
      · by_cases e : i = k
        · exact .inr (by rw [h2, e])
        · exact .inl ⟨i, by omega, h2, h3⟩
    · rw [if_neg c, ih]
      refine ⟨fun ⟨i, h1, h2⟩ => ⟨i, by omega, h2⟩, fun ⟨i, h1, h2, h3⟩ => ?_⟩
      by_cases e : i = k
      · subst e; exact absurd h3 c
      · exact ⟨i, by omega, h2, h3⟩
theorem dom_all (p : Nat → Nat → Int) (n : Nat) : Dom p n (2 ^ n - 1) := fun x y _ hy _ h => by
  rw [Nat.testBit_two_pow_sub_one, decide_eq_false_iff_not] at h
  exact absurd hy h
theorem u64_small : ∀ s : Nat, s < 64 → IntKind.u64.wrap (s : Int) = (s : Int) := by decide +kernel
theorem pc_lt : ∀ s : Nat, s < 64 → pc s ≤ 6 := by decide +kernel
def SmiPost (p : Nat → Nat → Int) (n : Nat) (w : World) (e : Ending) (w' : World) : Prop := ∃ L a c, LeastP p n L ∧ e = .returned (two (.slice a (smL L n).length c) 0) ∧ Ints w' a (smL L n).length c (smL L n) ∧ Below w.heap.size w w'
set_option maxRecDepth 100000 in
set_option maxHeartbeats 8000000 in
theorem smith_any (n : Nat) (a : Option Addr) (m c : Nat) (l : List Bal) (w : World) (h : Bals w a m c l) (hg : Good n l) :
    Calls Try.prog 15 #[.int .i64 n, .slice a m c] w fun e w' => SmiPost (prf l l.length) n w e w' := by
  have CP := hide (pairs_any n a m c l w h hg)
  have hn1 := hg.1
  have hn6 := hg.2.1
  clear h hg
  generalize prf l l.length = p at *
  obtain ⟨e1, h64, e3⟩ := pow_small n hn6
  have HDA := hide (dom_all p n)
  have hN1 : 2 ≤ 2 ^ n := by
    have : 2 ^ 1 ≤ 2 ^ n := Nat.pow_le_pow_right (by omega) hn1
    omega
  have HLP : Hid (∀ L, LeastP p n L ↔ Dom p n L ∧ 0 < L ∧ L < 2 ^ n ∧ ∀ t, 0 < t → t < 2 ^ n → Dom p n t → pc L ≤ pc t) := fun L => Iff.rfl
  obtain ⟨N, hN⟩ : ∃ N : Nat, N = 2 ^ n := ⟨_, rfl⟩
  rw [← hN] at e1 e3 h64 HDA hN1 HLP
  have hn64 : n < 64 := by omega
  clear hN
  have z1 : (N : Int) - 1 = ((N - 1 : Nat) : Int) := by omega
  go_enter Try.func15, Try.ntmps15
  go_wp2_with fail
  refine (unhide CP).mono ?_
  rintro e w1 ⟨G, Bf, rfl, hT, hb1⟩
  unfold two
  have HT := hide hT
  clear hT CP
  go_wp2_with fail
  go_loopw [9, 8] (fun i L wr => Below w1.heap.size w1 wr ∧ ∃ s t : Nat, 0 < s ∧ s ≤ N ∧ i = .int .i64 s ∧ L = .int .i64 t ∧ Dom p n t ∧ 0 < t ∧ t < N ∧ ∀ u, 0 < u → u < s → Dom p n u → pc t ≤ pc u) (fun i _ _ => N - (intOf i).toNat)
  case atStart => exact ⟨Below.refl _ _, 1, N - 1, by omega, by omega, rfl, rfl, unhide HDA, by omega, by omega, fun u h1 h2 => by omega⟩
  case round =>
    obtain ⟨hbr, s, t, hs0, hsN, rfl, rfl, hdt, ht0, htN, hmin⟩ := hrel
    have HDT := hide hdt
    have HMIN := hide hmin
    clear hdt hmin
    by_cases hlt : s < N
    · have hs64 : s < 64 := by omega
      have ht64 : t < 64 := by omega
      have us := u64_small s hs64
      have ut := u64_small t ht64
      have ps := pc_lt s hs64
      have pt := pc_lt t ht64
      have CS := hide (fun W => ones_any s hs64 W)
      have CT := hide (fun W => ones_any t ht64 W)
      by_cases hd : Dom p n s
      · have C := hide (rest_any w.heap.size wr G Bf n p s ((unhide HT).later hbr) hn6 hs64 true ⟨fun _ => hd, fun _ => rfl⟩)
        have HD := hide hd
        clear hd
        by_cases hc : pc s < pc t
        · have HLE : Hid (∀ u, 0 < u → u < s + 1 → Dom p n u → pc s ≤ pc u) := fun u h1 h2 h3 => by
            by_cases e : u = s
            · rw [e]; exact Nat.le_refl _
            · have := unhide HMIN u h1 (by omega) h3; omega
          generalize pc s = q1 at CS ps hc
          generalize pc t = q2 at CT pt hc
          have hc2 : decide ((q1 : Int) < (q2 : Int)) = true := decide_eq_true (by omega)
          go_wp2_with fail
          refine (unhide C).mono ?_
          rintro e w3 ⟨rfl, hb3⟩
          go_wp2_with fail
          refine (unhide CS _).mono ?_
          rintro e w4 ⟨rfl, hw4⟩
          subst w4
          go_wp2_with fail
          refine (unhide CT _).mono ?_
          rintro e w4 ⟨rfl, hw4⟩
          subst w4
          go_wp2_with fail
          go_roundw
          case rel => exact ⟨hbr.trans (hb3.mono hbr.size), s + 1, s, by omega, by omega, by go_num, rfl, unhide HD, hs0, hlt, unhide HLE⟩
          case measure => simp [intOf]; omega
        · have HLE : Hid (∀ u, 0 < u → u < s + 1 → Dom p n u → pc t ≤ pc u) := fun u h1 h2 h3 => by
            by_cases e : u = s
            · rw [e]; omega
            · exact unhide HMIN u h1 (by omega) h3
          generalize pc s = q1 at CS ps hc
          generalize pc t = q2 at CT pt hc
          have hc2 : decide ((q1 : Int) < (q2 : Int)) = false := decide_eq_false (by omega)
          go_wp2_with fail
          refine (unhide C).mono ?_
          rintro e w3 ⟨rfl, hb3⟩
          go_wp2_with fail
          refine (unhide CS _).mono ?_
          rintro e w4 ⟨rfl, hw4⟩
          subst w4
          go_wp2_with fail
          refine (unhide CT _).mono ?_
          rintro e w4 ⟨rfl, hw4⟩
          subst w4
          go_wp2_with fail
          go_roundw
          case rel => exact ⟨hbr.trans (hb3.mono hbr.size), s + 1, t, by omega, by omega, by go_num, rfl, unhide HDT, ht0, htN, unhide HLE⟩
          case measure => simp [intOf]; omega
      · have C := hide (rest_any w.heap.size wr G Bf n p s ((unhide HT).later hbr) hn6 hs64 false ⟨fun h => (by cases h), fun h => absurd h hd⟩)
        have HLE : Hid (∀ u, 0 < u → u < s + 1 → Dom p n u → pc t ≤ pc u) := fun u h1 h2 h3 => by
          by_cases e : u = s
          · rw [e] at h3; exact absurd h3 hd
          · exact unhide HMIN u h1 (by omega) h3
        clear hd
        go_wp2_with fail
        refine (unhide C).mono ?_
        rintro e w3 ⟨rfl, hb3⟩
        go_wp2_with fail
        go_roundw
        case rel => exact ⟨hbr.trans (hb3.mono hbr.size), s + 1, t, by omega, by omega, by go_num, rfl, unhide HDT, ht0, htN, unhide HLE⟩
        case measure => simp [intOf]; omega
    · obtain rfl : s = N := by omega
      have HL : Hid (LeastP p n t) := (unhide HLP t).2 ⟨unhide HDT, ht0, htN, unhide HMIN⟩
      have ht64 : t < 64 := by omega
      have HAB : Hid (∀ x, x < n → bits .and .i64 ((t : Int) / 2 ^ x) 1 = if t.testBit x = true then 1 else 0) := fun x hx => and_bit t ht64 x (by omega)
      go_wp2_with fail
      rename World => wq
      go_loopw [44, 10, 11] (fun i v _ wr => Below wq.heap.size wq wr ∧ ∃ k : Nat, k ≤ n ∧ i = .int .i64 k ∧ wr.ownsRow wq.heap.size 3 1 v (smL t k).length (intVals (smL t k))) (fun i _ _ _ => n - (intOf i).toNat)
      case atStart => exact ⟨Below.refl _ _, 0, Nat.zero_le _, rfl, World.ownsRow_nil _ _ _ _⟩
      case round =>
        obtain ⟨hbr2, k, hk, rfl, hown⟩ := hrel
        by_cases hltk : k < n
        · have HO := hide hown
          clear hown
          have hbk := unhide HAB k hltk
          have hk64 : k < 64 := by omega
          have hll := smL_len t k
          have HS : Hid (smL t (k + 1) = if t.testBit k = true then smL t k ++ [(k : Int)] else smL t k) := rfl
          cases hb : t.testBit k with
          | false =>
            rw [hb, if_neg (by simp)] at hbk
            rw [hb, if_neg (by simp)] at HS
            go_wp2_with fail
            go_roundw
            case rel => exact ⟨hbr2, k + 1, by omega, by go_num, by rw [unhide HS]; exact unhide HO⟩
            case measure => simp [intOf]; omega
          | true =>
            rw [hb, if_pos rfl] at hbk
            rw [hb, if_pos rfl] at HS
            go_wp2_with (at_builtin; refine wpList_append_int _ rfl _ _ rfl wq.heap.size _ _ _ rfl ((unhide HO).alloc _) wr.heap.size (k : Int) rfl (by simp) (by omega) (by have := hbr2.size; simp; omega) ?_; intro v2 w2 ho2 hg2)
            go_roundw
            case rel =>
              have hb5 := (((Below.refl wq.heap.size wr).alloc hbr2.size (.cells #[.int .i64 (k : Int)] 3)).grown hg2 (by have := hbr2.size; simp; omega) (fun q hq => ((unhide HO).lt q hq).1))
              refine ⟨hbr2.trans hb5, k+1, by omega, by go_num, ?_⟩
              rw [unhide HS, intVals_append, List.length_append]
              exact ho2
            case measure => simp [intOf]; omega
        · obtain rfl : n = k := by omega
          have hll := smL_len t n
          obtain ⟨aa, cc, hv, hI, _⟩ := Ints.of_owns hown (by omega)
          subst hv
          clear hown
          go_wp2_with fail
          go_ret2
          have hb1r := hb1.trans (hbr.mono hb1.size)
          exact ⟨t, aa, cc, unhide HL, rfl, hI, hb1r.trans (hbr2.mono hb1r.size)⟩
end Go.Proofs.Ytloandcndnmkhaa
