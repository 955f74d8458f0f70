import Derived.Test.YtihmbfapbkddeaaZ6
namespace Go.Proofs.Ytihmbfapbkddeaa
open Go.RowKit
/-- An int of 64 bits. -/
def InR (c : Int) : Prop := -9223372036854775808 ≤ c ∧ c ≤ 9223372036854775807
set_option maxHeartbeats 400000 in
theorem pick_any (c : Int) (n : Nat) (hc : InR c) (hn : 0 < n) (hm : n ≤ 1000) (w : World) :
    Calls Try.prog 17 #[.int .i64 c, .int .i64 n] w fun e w' => ∃ k : Nat, k < n ∧ e = .returned (.int .i64 k) ∧ w' = w := by
  obtain ⟨h1, h2⟩ := hc
  have hnz : ((n : Int) == 0) = false := by simp; omega
  by_cases hneg : c < 0
  · go_enter Try.func17, Try.ntmps17
    go_wp2
    go_ret
    refine ⟨((-(c + 1)) % (n : Int)).toNat, ?_, ret_int ?_, rfl⟩
    · have := Int.emod_lt_of_pos (-(c + 1)) (show (0 : Int) < n by omega)
      have := Int.emod_nonneg (-(c + 1)) (show (n : Int) ≠ 0 by omega)
      omega
    · have h0 := Int.emod_nonneg (-(c + 1)) (show (n : Int) ≠ 0 by omega)
      rw [← Int.neg_tmod, Int.tmod_eq_emod_of_nonneg (by omega)]
      omega
  · go_enter Try.func17, Try.ntmps17
    go_wp2
    go_ret
    refine ⟨(c % (n : Int)).toNat, ?_, ret_int ?_, rfl⟩
    · have := Int.emod_lt_of_pos c (show (0 : Int) < n by omega)
      have := Int.emod_nonneg c (show (n : Int) ≠ 0 by omega)
      omega
    · have h0 := Int.emod_nonneg c (show (n : Int) ≠ 0 by omega)
      omega
theorem at_any (a : Option Addr) (n c : Nat) (l : List Int) (ki : Int) (w : World) (h : Ints w a n c l) (hr : ∀ x ∈ l, InR x) (hk0 : 0 ≤ ki) (hk : ki ≤ 1000) (hn : n ≤ 256) :
    Calls Try.prog 35 #[.slice a n c, .int .i64 ki] w fun e w' => ∃ x, InR x ∧ e = .returned (.int .i64 x) ∧ w' = w := by
  obtain ⟨k, rfl⟩ : ∃ k : Nat, ki = k := ⟨ki.toNat, by omega⟩
  obtain ⟨hl, hc, hm, h⟩ := h
  unfold maxLen at hm
  rcases h with h0 | ⟨b, off, rfl, hb, hcell⟩
  · subst h0
    go_enter Try.func35, Try.ntmps35
    go_wp2
    go_ret
    exact ⟨0, ⟨by omega, by omega⟩, rfl, rfl⟩
  · by_cases hz : n = 0
    · subst hz
      go_enter Try.func35, Try.ntmps35
      go_wp2
      go_ret
      exact ⟨0, ⟨by omega, by omega⟩, rfl, rfl⟩
    · have hnz : ((n : Int) == 0) = false := by simp; omega
      have hlt : k % n < n := Nat.mod_lt _ (by omega)
      have hck := hcell (k % n) hlt
      have hin : InR (l[k % n]?.getD 0) := by
        rw [List.getElem?_eq_getElem (by omega)]
        exact hr _ (by simp)
      have HL : Hid (n = l.length) := hl
      clear hl hcell
      go_enter Try.func35, Try.ntmps35
      go_wp2
      go_ret
      exact ⟨_, hin, rfl, rfl⟩
/-- 0, 1, .., n - 1. -/
def upL (n : Nat) : List Int := (List.range n).map (fun i : Nat => (i : Int))
theorem upL_succ (n : Nat) : upL (n + 1) = upL n ++ [(n : Int)] := by simp [upL, List.range_succ]
set_option maxHeartbeats 1000000 in
theorem upTo_any (n : Nat) (w : World) (hn : n ≤ 6) :
    Calls Try.prog 34 #[.int .i64 n] w fun e w' => ∃ v, e = .returned v ∧ w'.ownsRow w.heap.size 3 1 v n (intVals (upL n)) ∧ Below w.heap.size w w' := by
  go_enter Try.func34, Try.ntmps34
  go_wp2
  go_loopw [4, 3] (fun i v wr => Below w.heap.size w wr ∧ ∃ k : Nat, k ≤ n ∧ i = .int .i64 k ∧ wr.ownsRow w.heap.size 3 1 v k (intVals (upL k))) (fun i _ _ => n - (intOf i).toNat)
  case atStart => exact ⟨Below.refl _ _, 0, Nat.zero_le _, rfl, World.ownsRow_nil _ _ _ _⟩
  case round =>
    obtain ⟨hbr, k, hk, rfl, hown⟩ := hrel
    by_cases hlt : k < n
    · have HO := hide hown
      clear hown
      go_wp2_with (at_builtin; refine wpList_append_int _ rfl _ _ rfl w.heap.size _ k _ rfl ((unhide HO).alloc _) wr.heap.size (k : Int) rfl (by simp) (by omega) (by have := hbr.size; simp; omega) ?_; intro v2 w2 ho2 hg2)
      go_roundw
      case rel =>
        have hb5 := (((Below.refl w.heap.size wr).alloc hbr.size (.cells #[.int .i64 (k : Int)] 3)).grown hg2 (by have := hbr.size; simp; omega) (fun q hq => ((unhide HO).lt q hq).1))
        refine ⟨hbr.trans hb5, k+1, by omega, by go_num, ?_⟩
        rw [upL_succ, intVals_append]
        exact ho2
      case measure => simp [intOf]; omega
    · obtain rfl : k = n := by omega
      go_wp2
      go_ret
      exact ⟨_, rfl, hown, hbr⟩
theorem wrap_in (x : Int) (h1 : -9223372036854775808 ≤ x) (h2 : x ≤ 9223372036854775807) : IntKind.i64.wrap x = x := by
  rw [IntKind.wrap_i64]
  omega
set_option maxRecDepth 100000 in
set_option maxHeartbeats 4000000 in
theorem perm_any (a : Option Addr) (m c : Nat) (raw : List Int) (fi : Int) (n : Nat) (w : World) (h : Ints w a m c raw) (hr : ∀ x ∈ raw, InR x) (hf0 : 0 ≤ fi) (hf : fi ≤ 500) (hm : m ≤ 256) (hn : n ≤ 6) :
    Calls Try.prog 19 #[.slice a m c, .int .i64 fi, .int .i64 n] w fun e w' => ∃ v l, e = .returned v ∧ w'.ownsRow w.heap.size 3 1 v n (intVals l) ∧ l.Perm (upL n) ∧ Below w.heap.size w w' := by
  have HR := hide hr
  clear hr
  go_enter Try.func19, Try.ntmps19
  go_wp2_with fail
  refine (upTo_any n w hn).mono ?_
  rintro e w1 ⟨v1, rfl, ho1, hb1⟩
  obtain ⟨a1, c1, hv1, hI1, _⟩ := Ints.of_owns ho1 (by omega)
  subst hv1
  clear ho1
  go_wp2_with fail
  go_loopw [9, 7, 8] (fun i vl vo wr => Below w.heap.size w wr ∧ ∃ (k q : Nat) (al : Option Addr) (cl : Nat) (ll lo : List Int), q + k = n ∧ i = .int .i64 k ∧ vl = .slice al q cl ∧ Ints wr al q cl ll ∧ wr.ownsRow w.heap.size 3 1 vo k (intVals lo) ∧ (0 < q → ∀ g, vo.ownBlock = some g → ∀ ad, al = some ad → ad.block ≠ g) ∧ (lo ++ ll).Perm (upL n)) (fun i _ _ _ => n - (intOf i).toNat)
  case atStart => exact ⟨hb1, 0, n, a1, c1, upL n, [], by omega, rfl, rfl, hI1, World.ownsRow_nil _ _ _ _, fun _ g hg => (by cases hg), List.Perm.refl _⟩
  case round =>
    obtain ⟨hbr, k, q, al, cl, ll, lo, hk, rfl, rfl, hIl, hown, hap, hperm⟩ := hrel
    have HP := hide hperm
    have HAP := hide hap
    clear hperm hap
    by_cases hlt : k < n
    · have hIl0 := hIl
      obtain ⟨b, off, rfl, hb, hcell⟩ := hIl.cellAt (by omega)
      have hqc := hIl.2.1
      have hcm := hIl.2.2.1
      unfold maxLen at hcm
      have HIL := hide hIl0
      have HLN := hide hIl.1
      clear hIl hIl0
      go_wp2_with fail
      refine (at_any a m c raw (fi + k) wr (h.later hbr) (unhide HR) (by omega) (by omega) hm).mono ?_
      rintro e w2 ⟨x, hx, rfl, hw2⟩
      subst w2
      go_wp2_with fail
      refine (pick_any x q hx (by omega) (by omega) wr).mono ?_
      rintro e w2 ⟨i, hi, rfl, hw2⟩
      subst w2
      have hci := hcell i hi
      have HC := hide hcell
      have HO := hide hown
      clear hcell hown
      go_wp2_with (at_builtin; refine wpList_append_int _ rfl _ _ rfl w.heap.size _ k _ rfl ((unhide HO).alloc _) wr.heap.size (ll[i]?.getD 0) rfl (by simp) (by omega) (by have := hbr.size; simp; omega) ?_; intro v2 w2 ho2 hg2)
      have hg3 : (wr.alloc (.cells #[.int .i64 (ll[i]?.getD 0)] 3)).grownBy w2 u8.ownBlock := hg2
      have hI2 : Ints w2 (some ⟨b, off, none⟩) q cl ll := by
        obtain ⟨g1, g2, g3, _⟩ := unhide HIL
        refine ⟨g1, g2, g3, .inr ⟨b, off, rfl, Nat.lt_of_lt_of_le (Nat.lt_of_lt_of_le hb (by rw [World.size_alloc]; omega)) hg3.size, fun j hj => ?_⟩⟩
        rw [hg3.cell_far ⟨b, off + j, none⟩ (by have := World.size_alloc wr (.cells #[.int .i64 (ll[i]?.getD 0)] 3); show b < _; omega) (fun e => unhide HAP (by omega) b e.symm _ rfl rfl)]
        rw [World.cell?_alloc_past _ _ _ hb]
        exact unhide HC j hj
      have hb2 : Below w.heap.size w w2 := hbr.trans ((((Below.refl w.heap.size wr).alloc hbr.size (.cells #[.int .i64 (ll[i]?.getD 0)] 3)).grown hg3 (by have := hbr.size; simp; omega) (fun q hq => ((unhide HO).lt q hq).1)))
      clear hg2 hg3
      have HB : Hid (∀ W, Below w2.heap.size w2 W → Ints W (some ⟨b, off, none⟩) q cl ll) := fun W hW => hI2.later hW
      have HO2 := hide ho2
      clear ho2 hci HC
      have z0 : (0 : Int) ≤ (i : Int) := by omega
      have z1 : (i : Int) ≤ (cl : Int) := by omega
      have z2 : IntKind.i64.wrap ((i : Int) + 1) = (i : Int) + 1 := wrap_in _ (by omega) (by omega)
      have z3 : (0 : Int) ≤ (i : Int) + 1 := by omega
      have z4 : (i : Int) + 1 ≤ (q : Int) := by omega
      have z5 : (i : Int) + 1 ≤ (cl : Int) := by omega
      have z6 : (q : Int) ≤ (cl : Int) := by omega
      go_region_held3 (fun W => Below w2.heap.size w2 W)
        (first | exact (Below.refl _ _).drew | exact Below.refl _ _ | assumption | exact Below.alloc (by assumption) (‹Below w2.heap.size w2 _›).size _)
        (first
          | (refine step_append_ints _ rfl (.tmp 33) (.tmp 36) rfl w2.heap.size _ 0 [] (by simp [Act.eval]; rfl) (by first | exact own_empty _ _ (by simp) | exact (own_empty _ _ (by simp)).alloc _ | exact own_empty2 _ _ _ (by simp)) (some ⟨b, off, none⟩) i cl (ll.take i) (by simp [Act.eval]) ((unhide HB _ (by assumption)).take i (by omega)) (by omega) (‹Below w2.heap.size w2 _›).size ?_; intro v3 w3 ho3 hg3; have hbn := (‹Below w2.heap.size w2 _›).grown hg3 (‹Below w2.heap.size w2 _›).size (fun q hq => by cases hq; simp))
          | (refine step_append_ints _ rfl (.tmp 37) (.tmp 41) rfl w2.heap.size _ (0 + i) ([] ++ ll.take i) (by simp [Act.eval]; rfl) (by first | exact ho3 | exact ho3.alloc _) _ (q - (i + 1)) (cl - (i + 1)) (ll.drop (i + 1)) (by simp [Act.eval]) ((unhide HB _ (by assumption)).dropAt (i + 1) (by omega)) (by omega) (‹Below w2.heap.size w2 _›).size ?_; intro v4 w4 ho4 hg4; have hbn := (‹Below w2.heap.size w2 _›).grown hg4 (‹Below w2.heap.size w2 _›).size (fun q hq => (ho3.lt q hq).1); simp only [Nat.zero_add, List.nil_append] at ho4; obtain ⟨a4, c4, hv4, hI4, hg4b⟩ := Ints.of_owns ho4 (by omega); subst hv4))
      all_goals
        have hbW := ‹Below w2.heap.size w2 _›
        go_wp2
        go_roundw
        case rel =>
          refine ⟨hb2.trans (hbW.mono hb2.size), k + 1, i + (q - (i + 1)), a4, c4, ll.take i ++ ll.drop (i + 1), lo ++ [ll[i]?.getD 0], by omega, by go_num, rfl, hI4, ?_, ?_, ?_⟩
          · rw [intVals_append]
            exact owns_later (unhide HO2) hbW
          · intro hq0 g hg ad had
            rcases hg4b with h0 | ⟨g', hg', _, e⟩
            · omega
            · rw [e] at had
              cases had
              have := ((unhide HO2).lt g hg).2
              show g' ≠ g
              omega
          · refine List.Perm.trans ?_ (unhide HP)
            rw [List.append_assoc]
            refine List.Perm.append_left lo ?_
            have hil : i < ll.length := by have := unhide HLN; omega
            have e : ll = ll.take i ++ ll[i]?.getD 0 :: ll.drop (i + 1) := by
              rw [List.getElem?_eq_getElem hil]
              simp
            conv => rhs; rw [e]
            show (ll[i]?.getD 0 :: (ll.take i ++ ll.drop (i + 1))).Perm _
            exact List.perm_middle.symm
        case measure => simp [intOf]; omega
    · obtain rfl : q = 0 := by omega
      obtain rfl : k = n := by omega
      go_wp2
      go_ret
      have hl0 : ll = [] := List.length_eq_zero_iff.1 hIl.1.symm
      refine ⟨_, lo, rfl, hown, ?_, hbr⟩
      have := unhide HP
      rwa [hl0, List.append_nil] at this
end Go.Proofs.Ytihmbfapbkddeaa
