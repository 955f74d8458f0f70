import Derived.Test.YtfknnededkdodaaF
namespace Go.Proofs.Ytfknnededkdodaa
open Go.RowKit
def duo (a b : Int) : Value := .tuple #[.int .i64 a, .int .i64 b]
set_option maxRecDepth 100000 in
set_option maxHeartbeats 2000000 in
theorem clockR_any (a : Option Addr) (n c : Nat) (l : List Int) (w : World) (h : Ints w a n c l) (hz : bE n (nth l) = 0) :
    Calls Try.prog 10 #[.slice a n c] w fun e w' => Below w.heap.size w w' ∧ ∃ (q : Nat) (s : Int), Win (nth l) n q ∧ Sec (nth l) n q s ∧ e = .returned (duo q s) := by
  have h1 := h.2.1
  have h2 := h.2.2.1
  unfold maxLen at h2
  obtain ⟨hn1, hn4, hBl⟩ := bE_zero hz
  obtain ⟨b, off, rfl, hb, hcell⟩ := h.nth hn1
  have HB := hide hBl
  have HC := hide hcell
  clear hz h hBl hcell
  have CU := hide (upTo_any n w (by omega))
  generalize nth l = v at *
  go_enter Try.func10, Try.ntmps10
  go_wp2_with fail
  refine (unhide CU).mono ?_
  rintro e w2 ⟨v2, rfl, ho2, hb2⟩
  obtain ⟨sa, sc, hsv, hSI, _⟩ := Ints.of_owns ho2 (by omega)
  subst hsv
  have HS : Hid (Ints w2 sa n sc (iL (stN v n 0))) := by
    show Ints _ _ _ _ _
    rw [stN_zero (unhide HB)]
    exact hSI
  clear hSI ho2 CU
  go_wp2
  go_loopw [5, 4, 6, 7] (fun p s _ _ wr => Clk v n w wr p s) (fun p _ _ _ _ => 1001 - (intOf p).toNat)
  case atStart => exact ⟨hb2, 0, n, sa, sc, by omega, rfl, rfl, unhide HS, .inl rfl⟩
  case round =>
    rename World => W1
    obtain ⟨hbr, k, m, sa, sc, hk, rfl, rfl, hI, hk2⟩ := hrel
    have hm : m = (stN v n k).length := by have := hI.1; rw [iL_len] at this; exact this
    have hmn := stN_len v n k
    have hm4 : m ≤ 4 := by omega
    have H1 := hide (clock_one (v := v) (n := n) (p := (k : Int)) (by omega) (by omega))
    have H0 := hide (clock_none (v := v) (n := n) (p := (k : Int)) (unhide HB) (by omega) (by omega) (by omega))
    have H2 := hide (clock_more (v := v) (n := n) (p := (k : Int)) (unhide HB))
    have hln := stN_len v n ((k : Int) + 1)
    have HIc := hide hI
    have HM := hide hm
    have h5 := hI.2.1
    have h6 := hI.2.2.1
    unfold maxLen at h6
    have HT : Hid (∀ j, j < m → ((stN v n k).take (j + 1)).filter (fun i => decide ((k : Int) < v i)) = ((stN v n k).take j).filter (fun i => decide ((k : Int) < v i)) ++ (if decide ((k : Int) < v ((stN v n k)[j]?.getD 0)) = true then [(stN v n k)[j]?.getD 0] else [])) := fun j hj => filter_take (by omega)
    have HN : Hid (∀ j, (((stN v n k).take j).filter (fun i => decide ((k : Int) < v i))).length ≤ m) := fun j => by rw [hm]; exact filter_take_len _ _ _
    have HR : Hid (∀ j, j < m → (stN v n k)[j]?.getD 0 < n) := fun j hj => (mem_stN.1 (show (stN v n k)[j]?.getD 0 ∈ stN v n k by rw [List.getElem?_eq_getElem (by omega)]; exact List.getElem_mem _)).1
    have HL : Hid (((stN v n k).take m).filter (fun i => decide ((k : Int) < v i)) = stN v n ((k : Int) + 1)) := by
      show _ = _
      rw [hm, List.take_length, stN_next]
    have HZ : Hid (((stN v n k).take 0).filter (fun i => decide ((k : Int) < v i)) = []) := by show _ = _; simp
    have HX : Hid (∀ W, Below W1.heap.size W1 W → 0 < m → ∃ b off, sa = some ⟨b, off, none⟩ ∧ b < W1.heap.size ∧ ∀ j, j < m → W.cell? ⟨b, off + j, none⟩ = some (.int .i64 (((stN v n k)[j]?.getD 0 : Nat) : Int))) := fun W hW hn => by
      obtain ⟨b, off, h1, h2, h3⟩ := (unhide HIc).cellAt hn
      exact ⟨b, off, h1, h2, fun j hj => by rw [hW.cell (p := ⟨b, off + j, none⟩) h2, h3 j hj, iL_at (by omega)]⟩
    clear hI hk2 hm
    generalize hF : (fun j : Nat => ((stN v n k).take j).filter (fun i => decide ((k : Int) < v i))) = F at *
    have hF2 : ∀ j : Nat, ((stN v n k).take j).filter (fun i => decide ((k : Int) < v i)) = F j := fun k => by rw [← hF]
    simp only [hF2] at HT HN HZ HL ⊢
    clear hF hF2
    go_wp2
    go_loopw [7, 6] (fun i s ws => Below W1.heap.size W1 ws ∧ ∃ j : Nat, j ≤ m ∧ i = .int .i64 j ∧ ws.ownsRow W1.heap.size 3 1 s (F j).length (intVals (iL (F j)))) (fun i _ _ => m - (intOf i).toNat)
    case atStart => exact ⟨Below.refl _ _, 0, Nat.zero_le _, rfl, by rw [unhide HZ]; exact World.ownsRow_nil _ _ _ _⟩
    case round =>
      obtain ⟨hbs, j, hj, rfl, hown⟩ := hrel
      have HO := hide hown
      clear hown
      have hbw := hbr.trans (hbs.mono hbr.size)
      by_cases hlt : j < m
      · obtain ⟨b1, o1, hs1, hb1, hc1⟩ := unhide HX _ hbs (by omega)
        subst hs1
        have hck := hc1 j hlt
        have hxn := unhide HR j hlt
        have hcl := (hbw.cell (p := ⟨b, off + (stN v n (k : Int))[j]?.getD 0, none⟩) hb).trans (unhide HC _ hxn)
        have HTk := hide (unhide HT j hlt)
        have hFn := unhide HN j
        have hb1' := Nat.lt_of_lt_of_le hb1 hbs.size
        clear hc1 H0 H1 H2 HIc HM HR HX HT HL
        generalize (stN v n (k : Int))[j]?.getD 0 = z at *
        generalize v z = y at *
        by_cases hy : (k : Int) < y
        · rw [if_pos (by simpa using hy)] at HTk
          go_wp2_with (at_builtin; refine wpList_append_int _ rfl _ _ rfl W1.heap.size _ _ _ rfl ((unhide HO).alloc _) wr.heap.size (z : Int) rfl (by simp) (by omega) (by have := hbs.size; simp; omega) ?_; intro v2 w2 ho2 hg2)
          go_roundw
          case rel =>
            have hb5 := (((Below.refl W1.heap.size wr).alloc hbs.size (.cells #[.int .i64 (z : Int)] 3)).grown hg2 (by have := hbs.size; simp; omega) (fun q hq => ((unhide HO).lt q hq).1))
            refine ⟨hbs.trans hb5, j+1, by omega, by go_num, ?_⟩
            rw [unhide HTk, iL_append, intVals_append, List.length_append]
            exact ho2
          case measure => simp [intOf]; omega
        · rw [if_neg (by simpa using hy), List.append_nil] at HTk
          go_wp2_with fail
          go_roundw
          case rel => exact ⟨hbs, j+1, by omega, by go_num, by rw [unhide HTk]; exact unhide HO⟩
          case measure => simp [intOf]; omega
      · obtain rfl : m = j := by omega
        have ho3 := unhide HO
        rw [unhide HL] at ho3
        obtain ⟨a3, c3, hv3, hI3, _⟩ := Ints.of_owns ho3 (by omega)
        subst hv3
        have h7 := hI3.2.1
        have h8 := hI3.2.2.1
        unfold maxLen at h8
        clear ho3 HO HT HN HZ HL HR
        by_cases e1 : (stN v n ((k : Int) + 1)).length = 1
        · obtain ⟨b4, o4, hs4, hb4, hc4⟩ := hI3.cellAt (by omega)
          subst hs4
          have hc5 := hc4 0 (by omega)
          rw [iL_at (by omega), Nat.add_zero] at hc5
          have HH := hide (unhide H1 e1)
          clear hI3 hc4 H0 H1 H2
          generalize (stN v n ((k : Int) + 1))[0]?.getD 0 = q at *
          rw [e1] at *
          clear e1
          go_wp2
          go_ret2
          exact ⟨hbw, q, k, (unhide HH).1, (unhide HH).2, rfl⟩
        · by_cases e0 : (stN v n ((k : Int) + 1)).length = 0
          · obtain ⟨z1, z2, z3⟩ := unhide H0 e0
            obtain ⟨b4, o4, hs4, hb4, hc4⟩ := ((unhide HIc).later hbs).cellAt (by have := unhide HM; omega)
            subst hs4
            have hm0 : 0 < m := by have := unhide HM; omega
            have hc5 := hc4 0 hm0
            rw [iL_at (by omega), Nat.add_zero] at hc5
            have HH := hide (And.intro z2 z3)
            clear hI3 hc4 H0 H1 H2 z1 z2 z3 HX
            generalize (stN v n (k : Int))[0]?.getD 0 = q at *
            rw [e0] at *
            clear e0
            go_wp2
            go_ret2
            exact ⟨hbw, q, k, (unhide HH).1, (unhide HH).2, rfl⟩
          · have hk3 := unhide H2 (by omega)
            have HH : Hid (Ints wr a3 (stN v n ((k : Int) + 1)).length c3 (iL (stN v n (((k + 1 : Nat) : Int)))) ∧ 2 ≤ (stN v n (((k + 1 : Nat) : Int))).length) := ⟨hI3, by
              show 2 ≤ (stN v n ((k : Int) + 1)).length
              omega⟩
            clear hI3 H0 H1 H2
            generalize (stN v n ((k : Int) + 1)).length = t at *
            have e1' : ((t : Int) == 1) = false := by simp; omega
            have e0' : ((t : Int) == 0) = false := by simp; omega
            go_wp2_with fail
            go_roundw
            case rel => exact ⟨hbw, k + 1, t, a3, c3, by omega, by go_num, rfl, (unhide HH).1, .inr (unhide HH).2⟩
            case measure => simp [intOf]; omega
end Go.Proofs.Ytfknnededkdodaa
