import Derived.Test.YtfknnededkdodaaE
namespace Go.Proofs.Ytfknnededkdodaa
open Go.RowKit
/-- Where a clock stands: the price, and who has stayed so far. -/
def Clk (v : Nat → Int) (n : Nat) (w0 wr : World) (pv sv : Value) : Prop :=
  Below w0.heap.size w0 wr ∧ ∃ (k m : Nat) (a : Option Addr) (c : Nat), k ≤ 1000 ∧ pv = .int .i64 k ∧ sv = .slice a m c ∧ Ints wr a m c (iL (stN v n k)) ∧ (k = 0 ∨ 2 ≤ (stN v n k).length)
set_option maxRecDepth 100000 in
set_option maxHeartbeats 2000000 in
theorem clock_any (a : Option Addr) (n c : Nat) (l : List Int) (w : World) (h : Ints w a n c l) :
    Calls Try.prog 8 #[.slice a n c] w (SecP n (nth l) w) := by
  have CM := hide (mayBid_any a n c l w h)
  have h1 := h.2.1
  have h2 := h.2.2.1
  unfold maxLen at h2
  by_cases hz : bE n (nth l) = 0
  · obtain ⟨hn1, hn4, hBl⟩ := bE_zero hz
    have HF : Hid (∀ e w', Below w.heap.size w w' → (∃ (q : Nat) (s : Int), Win (nth l) n q ∧ Sec (nth l) n q s ∧ e = .returned (three q s 0)) → SecP n (nth l) w e w') := fun e w' hb he => ⟨hb, .inr ⟨hz, he⟩⟩
    rw [hz] at CM
    have HB := hide hBl
    have HI := hide h
    have HAB := hide (fun (sa : Option Addr) (m sc : Nat) (S : List Nat) (p : Int) (W : World) (hW : Below w.heap.size w W) => above_any a n c l sa m sc S p W (h.later hW))
    clear hz h hBl
    generalize SecP n (nth l) w = PP at *
    generalize nth l = v at *
    go_enter Try.func8, Try.ntmps8
    go_wp2_with fail
    refine (unhide CM).mono ?_
    rintro e w2 ⟨rfl, hw2⟩
    subst w2
    go_wp2
    go_loopw [16, 6, 7] (fun i s _ wr => Below w.heap.size w wr ∧ ∃ k : Nat, k ≤ n ∧ i = .int .i64 k ∧ wr.ownsRow w.heap.size 3 1 s k (intVals (upL k))) (fun i _ _ _ => n - (intOf i).toNat)
    case atStart => exact ⟨Below.refl _ _, 0, Nat.zero_le _, rfl, World.ownsRow_nil _ _ _ _⟩
    case round =>
      obtain ⟨hbr, k, hk, rfl, hown⟩ := hrel
      have HO := hide hown
      clear hown
      by_cases hlt : k < n
      · go_wp2_with (at_builtin; refine wpList_append_int _ rfl _ _ rfl w.heap.size _ k _ rfl ((unhide HO).alloc _) wr.heap.size (k : Int) rfl (by simp) (by omega) (by have := hbr.size; simp; omega) ?_; intro v2 w2 ho2 hg2)
        go_roundw
        case rel =>
          have hb5 := (((Below.refl w.heap.size wr).alloc hbr.size (.cells #[.int .i64 (k : Int)] 3)).grown hg2 (by have := hbr.size; simp; omega) (fun q hq => ((unhide HO).lt q hq).1))
          refine ⟨hbr.trans hb5, k+1, by omega, by go_num, ?_⟩
          rw [upL_succ, intVals_append]
          exact ho2
        case measure => simp [intOf]; omega
      · obtain rfl : n = k := by omega
        obtain ⟨sa, sc, hsv, hSI, _⟩ := Ints.of_owns (unhide HO) (by omega)
        subst hsv
        have HS : Hid (Ints wr sa n sc (iL (stN v n 0))) := by
          show Ints _ _ _ _ _
          rw [stN_zero (unhide HB)]
          exact hSI
        clear hSI HO
        go_wp2
        go_loopw [3, 6, 8] (fun p s _ wr => Clk v n w wr p s) (fun p _ _ _ => 1001 - (intOf p).toNat)
        case atStart => exact ⟨hbr, 0, n, sa, sc, by omega, rfl, rfl, unhide HS, .inl rfl⟩
        case round =>
          obtain ⟨hbr, k, m, sa, sc, hk, rfl, rfl, hI, hk2⟩ := hrel
          have hm : m = (stN v n k).length := by have := hI.1; rw [iL_len] at this; exact this
          have hmn := stN_len v n k
          have C21 := unhide HAB sa m sc (stN v n k) (k : Int) _ hbr hI (fun i hi => (mem_stN.1 hi).1) (by omega)
          rw [stN_next] at C21
          have C21 := hide C21
          have H1 := hide (clock_one (v := v) (n := n) (p := (k : Int)) (by omega) (by omega))
          have H0 := hide (clock_none (v := v) (n := n) (p := (k : Int)) (unhide HB) (by omega) (by omega) (by omega))
          have H2 := hide (clock_more (v := v) (n := n) (p := (k : Int)) (unhide HB))
          have hln := stN_len v n ((k : Int) + 1)
          have HIc := hide hI
          have HM := hide hm
          have h5 := hI.2.1
          have h6 := hI.2.2.1
          unfold maxLen at h6
          clear hI hk2 hm
          go_wp2_with fail
          refine (unhide C21).mono ?_
          rintro e w3 ⟨v3, rfl, ho3, hb3⟩
          obtain ⟨a3, c3, hv3, hI3, _⟩ := Ints.of_owns ho3 (by omega)
          subst hv3
          have h7 := hI3.2.1
          have h8 := hI3.2.2.1
          unfold maxLen at h8
          have hbw := hbr.trans (hb3.mono hbr.size)
          clear ho3
          by_cases e1 : (stN v n ((k : Int) + 1)).length = 1
          · obtain ⟨b4, o4, hs4, hb4, hc4⟩ := hI3.cellAt (by omega)
            subst hs4
            have hc5 := hc4 0 (by omega)
            rw [iL_at (by omega), Nat.add_zero] at hc5
            have HH := hide (unhide H1 e1)
            clear hI3 hc4 H0 H1 H2
            generalize (stN v n ((k : Int) + 1))[0]?.getD 0 = q at *
            rw [e1] at *
            clear e1
            go_wp2
            exact unhide HF _ _ hbw ⟨q, k, (unhide HH).1, (unhide HH).2, rfl⟩
          · by_cases e0 : (stN v n ((k : Int) + 1)).length = 0
            · obtain ⟨z1, z2, z3⟩ := unhide H0 e0
              obtain ⟨b4, o4, hs4, hb4, hc4⟩ := ((unhide HIc).later hb3).cellAt (by have := unhide HM; omega)
              subst hs4
              have hm0 : 0 < m := by have := unhide HM; omega
              have hc5 := hc4 0 hm0
              rw [iL_at (by omega), Nat.add_zero] at hc5
              have HH := hide (And.intro z2 z3)
              clear hI3 hc4 H0 H1 H2 z1 z2 z3
              generalize (stN v n (k : Int))[0]?.getD 0 = q at *
              rw [e0] at *
              clear e0
              go_wp2
              exact unhide HF _ _ hbw ⟨q, k, (unhide HH).1, (unhide HH).2, rfl⟩
            · have hk3 := unhide H2 (by omega)
              have HH : Hid (Ints w3 a3 (stN v n ((k : Int) + 1)).length c3 (iL (stN v n (((k + 1 : Nat) : Int)))) ∧ 2 ≤ (stN v n (((k + 1 : Nat) : Int))).length) := ⟨hI3, by
                show 2 ≤ (stN v n ((k : Int) + 1)).length
                omega⟩
              clear hI3 H0 H1 H2
              generalize (stN v n ((k : Int) + 1)).length = t at *
              have e1' : ((t : Int) == 1) = false := by simp; omega
              have e0' : ((t : Int) == 0) = false := by simp; omega
              go_wp2_with fail
              go_roundw
              case rel => exact ⟨hbw, k + 1, t, a3, c3, by omega, by go_num, rfl, (unhide HH).1, .inr (unhide HH).2⟩
              case measure => simp [intOf]; omega
  · have HF : Hid (SecP n (nth l) w (.returned (three 0 0 (bE n (nth l)))) w) := ⟨Below.refl _ _, .inl ⟨hz, rfl⟩⟩
    have hz2 : (bE n (nth l) == 0) = false := by simpa using hz
    clear h hz
    generalize SecP n (nth l) w = PP at *
    generalize bE n (nth l) = E at *
    go_enter Try.func8, Try.ntmps8
    go_wp2_with fail
    refine (unhide CM).mono ?_
    rintro e w2 ⟨rfl, hw2⟩
    subst w2
    go_wp2
    exact unhide HF
end Go.Proofs.Ytfknnededkdodaa
