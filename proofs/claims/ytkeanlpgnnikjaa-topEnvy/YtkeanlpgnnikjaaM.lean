import Derived.Test.YtkeanlpgnnikjaaE
namespace Go.Proofs.Ytkeanlpgnnikjaa
open Go.RowKit
/-- A table as lists. -/
def rowsL (f : Nat → Nat → Int) (n k : Nat) : List (List Int) := (List.range k).map fun x => (List.range n).map (f x)
theorem rowsL_succ (f : Nat → Nat → Int) (n k : Nat) : rowsL f n (k + 1) = rowsL f n k ++ [(List.range n).map (f k)] := by simp [rowsL, List.range_succ]
/-- What each envies each. -/
def levT (L : List Sl) (give : Nat → Int) (G : Nat) (i j : Nat) : Int := lev (vl L i) give i j G
open Classical in
/-- What Envy says of who gets what. -/
noncomputable def enE (n G : Nat) (gl : List Int) : Int := if gl.length ≠ G then 7 else if ∃ j, j < G ∧ (nth gl j < -1 ∨ (n : Int) ≤ nth gl j) then 8 else 0
def EnvPost (n : Nat) (rows : List (List Int)) (w : World) (e : Ending) (w' : World) : Prop := ∃ a c LL, e = .returned (two (.slice a n c) 0) ∧ Lsts w' a n c LL ∧ lists LL = rows ∧ Below w.heap.size w w'
set_option maxRecDepth 100000 in
set_option maxHeartbeats 4000000 in
theorem envyR_err (a : Option Addr) (n c : Nat) (L : List Sl) (a' : Option Addr) (m c' : Nat) (w : World) (h : Lsts w a n c L) (he : smE L ≠ 0) :
    Calls Try.prog 10 #[.slice a n c, .slice a' m c'] w fun e w' => e = .returned (two (.slice none 0 0) (smE L)) ∧ Below w.heap.size w w' := by
  have CM := hide (shareMay_any a n c L w h)
  have hz : (smE L == 0) = false := by simpa using he
  clear h he
  generalize smE L = E at *
  go_enter Try.func10, Try.ntmps10
  go_wp2_with fail
  refine (unhide CM).mono ?_
  rintro e w2 ⟨rfl, hb⟩
  go_wp2
  go_ret2
  exact ⟨rfl, hb⟩
set_option maxRecDepth 100000 in
set_option maxHeartbeats 4000000 in
theorem envyR_len (a : Option Addr) (n c G : Nat) (L : List Sl) (a' : Option Addr) (m c' : Nat) (gl : List Int) (w : World) (h : Lsts w a n c L) (hV : Vals n G L) (h' : Ints w a' m c' gl) (hne : m ≠ G) :
    Calls Try.prog 10 #[.slice a n c, .slice a' m c'] w fun e w' => e = .returned (two (.slice none 0 0) 7) ∧ Below w.heap.size w w' := by
  have CM := shareMay_any a n c L w h
  rw [hV.smE] at CM
  have CM := hide CM
  have hn1 := hV.n1
  have hn4 := hV.n4
  have d1 := h.2.1
  have d2 := h.2.2.1
  have c1 := h'.2.1
  have c2 := h'.2.2.1
  unfold maxLen at d2 c2
  obtain ⟨b, off, rfl, hb, hcell⟩ := h.cellAt hn1
  have HC0 : Hid (∀ W, Below w.heap.size w W → W.cell? ⟨b, off, none⟩ = some (.slice (slAt L 0).la G (slAt L 0).lc)) := fun W hW => by have := (hW.cell (p := ⟨b, off + 0, none⟩) hb).trans (hcell 0 hn1); rw [Nat.add_zero, hV.row 0 hn1] at this; exact this
  have i0 := h.mem (k := 0) hn1
  have i1 := i0.2.1
  have i2 := i0.2.2.1
  rw [hV.row 0 hn1] at i1
  unfold maxLen at i2
  have hd : ((m : Int) == (G : Int)) = false := by simp; omega
  generalize (slAt L 0).la = la0 at *
  generalize (slAt L 0).lc = lc0 at *
  clear h h' hV i0 hcell
  go_enter Try.func10, Try.ntmps10
  go_wp2_with fail
  refine (unhide CM).mono ?_
  rintro e w2 ⟨rfl, hb2⟩
  have hc0 := unhide HC0 _ hb2
  go_wp2
  go_ret2
  exact ⟨rfl, hb2⟩
def BadW (n : Nat) (x : Int) : Prop := x < -1 ∨ (n : Int) ≤ x
set_option maxRecDepth 100000 in
set_option maxHeartbeats 8000000 in
theorem envyR_any (a : Option Addr) (n c G : Nat) (L : List Sl) (a' : Option Addr) (c' : Nat) (gl : List Int) (w : World) (h : Lsts w a n c L) (hV : Vals n G L) (h' : Ints w a' G c' gl) :
    Calls Try.prog 10 #[.slice a n c, .slice a' G c'] w fun e w' => (∀ j, j < G → ¬ BadW n (nth gl j)) ∧ EnvPost n (rowsL (levT L (nth gl) G) n n) w e w' ∨ (∃ j, j < G ∧ BadW n (nth gl j)) ∧ e = .returned (two (.slice none 0 0) 8) ∧ Below w.heap.size w w' := by
  have CM := shareMay_any a n c L w h
  rw [hV.smE] at CM
  have CM := hide CM
  have hn1 := hV.n1
  have hn4 := hV.n4
  have hG := hV.g8
  have d1 := h.2.1
  have d2 := h.2.2.1
  have c1 := h'.2.1
  have c2 := h'.2.2.1
  unfold maxLen at d2 c2
  obtain ⟨b, off, rfl, hb, hcell⟩ := h.cellAt hn1
  have HC : Hid (∀ W, Below w.heap.size w W → ∀ j, j < n → W.cell? ⟨b, off + j, none⟩ = some (.slice (slAt L j).la G (slAt L j).lc)) := fun W hW j hj => by rw [hW.cell (p := ⟨b, off + j, none⟩) hb, hcell j hj, hV.row j hj]
  have HC0 : Hid (∀ W, Below w.heap.size w W → W.cell? ⟨b, off, none⟩ = some (.slice (slAt L 0).la G (slAt L 0).lc)) := fun W hW => by have := unhide HC W hW 0 hn1; rw [Nat.add_zero] at this; exact this
  have HL : Hid (∀ k, k < n → G ≤ (slAt L k).lc ∧ (slAt L k).lc ≤ 9223372036854775807) := fun k hk => by
    have := h.mem (k := k) hk
    have q := this.2.1
    have r := this.2.2.1
    rw [hV.row k hk] at q
    unfold maxLen at r
    exact ⟨q, by omega⟩
  have HI : Hid (∀ W, Below w.heap.size w W → ∀ i, i < n → ∀ g, g < G → ∃ bb oo, (slAt L i).la = some ⟨bb, oo, none⟩ ∧ W.cell? ⟨bb, oo + g, none⟩ = some (.int .i64 (vl L i g))) := fun W hW i hi g hg => by
    have := (h.mem (k := i) hi).later hW
    rw [hV.row i hi] at this
    obtain ⟨bb, oo, e1, -, e3⟩ := this.nth (by omega)
    exact ⟨bb, oo, e1, e3 g hg⟩
  have HGV : Hid (∀ W, Below w.heap.size w W → ∀ g, g < G → ∃ bb oo, a' = some ⟨bb, oo, none⟩ ∧ W.cell? ⟨bb, oo + g, none⟩ = some (.int .i64 (nth gl g))) := fun W hW g hg => by
    obtain ⟨bb, oo, e1, -, e3⟩ := (h'.later hW).nth (by omega)
    exact ⟨bb, oo, e1, e3 g hg⟩
  have HH : Hid (∀ W, Below w.heap.size w W → ∀ i, i < n → ∀ k : Int, Calls Try.prog 23 #[.slice (some ⟨b, off, none⟩) n c, .slice a' G c', .int .i64 (i : Int), .int .i64 k] W fun e w' => e = .returned (.int .i64 (hv (vl L i) (nth gl) k G)) ∧ w' = W) := fun W hW i hi k => has_any _ n c G L a' c' gl i k W (h.later hW) hV (h'.later hW) hi
  have HOK : Hid (∀ i, i < n → OkF (vl L i) G) := fun i hi => hV.okF hi
  have HLV : Hid (∀ i k, levT L (nth gl) G i k = lev (vl L i) (nth gl) i k G) := fun i k => rfl
  have i12 := unhide HL 0 hn1
  obtain ⟨i1, i2⟩ := i12
  clear h h' hV hcell
  generalize vl L = v at *
  generalize nth gl = f at *
  generalize levT L f G = p at *
  go_enter Try.func10, Try.ntmps10
  go_wp2_with fail
  refine (unhide CM).mono ?_
  rintro e w2 ⟨rfl, hb2⟩
  have hc0 := unhide HC0 _ hb2
  clear CM HC0
  go_wp2
  go_loop [7] (fun i => ∃ k : Nat, k ≤ G ∧ i = .int .i64 k ∧ Hid (∀ j, j < k → ¬ BadW n (f j))) (fun i => G - (intOf i).toNat)
  case atStart => exact ⟨0, Nat.zero_le _, rfl, fun j hj => by omega⟩
  case round =>
    obtain ⟨k, hk, rfl, HN⟩ := hrel
    by_cases hlt : k < G
    · obtain ⟨bb, oo, rfl, hck⟩ := unhide HGV _ hb2 k hlt
      by_cases hbad : BadW n (f k)
      · have HX : Hid (∃ j, j < G ∧ BadW n (f j)) := ⟨k, hlt, hbad⟩
        unfold BadW at hbad
        clear HH HI HGV HC HN HLV HL HOK
        generalize f k = x at *
        rcases hbad with q | q
        · go_wp2
          go_ret2
          exact .inr ⟨HX, rfl, hb2⟩
        · have q2 : ¬ x < -1 := by omega
          go_wp2
          go_ret2
          exact .inr ⟨HX, rfl, hb2⟩
      · have HN2 : Hid (∀ j, j < k + 1 → ¬ BadW n (f j)) := fun j hj => by
          by_cases e : j = k
          · subst e; exact hbad
          · exact unhide HN j (by omega)
        unfold BadW at hbad
        have q1 : ¬ f k < -1 := fun q => hbad (.inl q)
        have q2 : ¬ (n : Int) ≤ f k := fun q => hbad (.inr q)
        clear HH HI HGV HC HN HLV HL HOK hbad
        generalize f k = x at *
        go_wp2
        exact ⟨⟨k + 1, by omega, by go_num, HN2⟩, by simp [intOf]; omega⟩
    · obtain rfl : G = k := by omega
      have HN2 := HN
      clear HN
      go_wp2
      go_loopw [9, 8, 10, 11, 12, 13, 14, 15, 16] (fun i o _ _ _ _ _ _ _ wr => Hid (Below w.heap.size w wr) ∧ ∃ (k : Nat) (LL : List Sl), k ≤ n ∧ i = .int .i64 k ∧ Hid (wr.ownsRow w.heap.size 23 1 o k (slVals LL)) ∧ Hid (lists LL = rowsL p n k) ∧ Hid (∀ s ∈ LL, Ints wr s.la s.ln s.lc s.ints ∧ T3 wr s.la s.ln)) (fun i _ _ _ _ _ _ _ _ _ => n - (intOf i).toNat)
      case atStart => exact ⟨hb2, 0, [], Nat.zero_le _, rfl, World.ownsRow_nil _ _ _ _, rfl, fun s hs => (by cases hs)⟩
      case round =>
        obtain ⟨HBr, i, LL, hi, rfl, HOWN, HLS, HLL⟩ := hrel
        by_cases hlt2 : i < n
        · go_wp2
          rename World => wq
          go_loopw [11, 10, 12, 13, 14, 15, 16] (fun i' r _ _ _ _ _ wr => Hid (Below wq.heap.size wq wr) ∧ ∃ t : Nat, t ≤ n ∧ i' = .int .i64 t ∧ Hid (wr.ownsRow wq.heap.size 3 1 r t (intVals ((List.range t).map (p i))))) (fun i _ _ _ _ _ _ _ => n - (intOf i).toNat)
          case atStart => exact ⟨Below.refl _ _, 0, Nat.zero_le _, rfl, World.ownsRow_nil _ _ _ _⟩
          case round =>
            obtain ⟨HB2, k, hk2, rfl, HR⟩ := hrel
            have HBB : Hid (Below w.heap.size w wr) := (unhide HBr).trans ((unhide HB2).mono (unhide HBr).size)
            by_cases hlt3 : k < n
            · have CO := hide (unhide HH wr (unhide HBB) i hlt2 (i : Int))
              have CK := hide (unhide HH wr (unhide HBB) i hlt2 (k : Int))
              have q1 := hv_le (give := f) (who := (i : Int)) (unhide HOK i hlt2) G (Nat.le_refl _)
              have q2 := hv_le (give := f) (who := (k : Int)) (unhide HOK i hlt2) G (Nat.le_refl _)
              have HPV : Hid (p i k = if hv (v i) f (k : Int) G ≤ hv (v i) f (i : Int) G then 0 else if hv (v i) f (k : Int) G - mv (v i) f (k : Int) G ≤ hv (v i) f (i : Int) G then 1 else 2) := unhide HLV i k
              obtain ⟨x, hx⟩ : ∃ x, hv (v i) f (i : Int) G = x := ⟨_, rfl⟩
              obtain ⟨y, hy⟩ : ∃ y, hv (v i) f (k : Int) G = y := ⟨_, rfl⟩
              have HSE : Hid (i = k → x = y) := fun e => by subst e; rw [← hx, ← hy]
              rw [hx] at CO q1 HPV
              rw [hy] at CK q2 HPV
              have HHY := hide hy
              clear hx hy
              go_wp2_with fail
              refine (unhide CO).mono ?_
              rintro e w4 ⟨rfl, hw4⟩
              subst w4
              go_wp2_with fail
              refine (unhide CK).mono ?_
              rintro e w4 ⟨rfl, hw4⟩
              subst w4
              go_wp2
              go_loop [15, 14] (fun i' l => ∃ t : Nat, t ≤ G ∧ i' = .int .i64 t ∧ l = .int .i64 (y - mv (v i) f (k : Int) t)) (fun i _ => G - (intOf i).toNat)
              case atStart => exact ⟨0, Nat.zero_le _, rfl, by simp [mv]⟩
              case round =>
                obtain ⟨t, ht, rfl, rfl⟩ := hrel
                have m1 := mv_le (give := f) (who := (k : Int)) (unhide HOK i hlt2) t ht
                by_cases hlt4 : t < G
                · obtain ⟨bb, oo, rfl, hg1⟩ := unhide HGV _ (unhide HBB) t hlt4
                  obtain ⟨b5, o5, hla, hg2⟩ := unhide HI _ (unhide HBB) i hlt2 t hlt4
                  have hck := unhide HC _ (unhide HBB) i hlt2
                  obtain ⟨l1, l2⟩ := unhide HL i hlt2
                  have hvt := unhide HOK i hlt2 t hlt4
                  rw [hla] at hck
                  generalize (slAt L i).lc = lc at *
                  clear hla
                  by_cases e : f t = (k : Int)
                  · have HM := hide (mv_yes (v := v i) e)
                    rw [e] at hg1
                    generalize mv (v i) f (k : Int) t = m at *
                    generalize v i t = z at *
                    have hw1 : wrap64 (y - z) = y - z := wrap64_in _ (by omega) (by omega)
                    by_cases e2 : y - z < y - m
                    · go_wp2
                      exact ⟨⟨t + 1, by omega, by go_num, by rw [unhide HM, show max m z = z by omega]⟩, by simp [intOf]; omega⟩
                    · go_wp2
                      exact ⟨⟨t + 1, by omega, by go_num, by rw [unhide HM, show max m z = m by omega]⟩, by simp [intOf]; omega⟩
                  · have HM := hide (mv_no (v := v i) e)
                    have ee : (f t == (k : Int)) = false := by simpa using e
                    generalize mv (v i) f (k : Int) t = m at *
                    generalize f t = u at *
                    go_wp2
                    exact ⟨⟨t + 1, by omega, by go_num, by rw [unhide HM]⟩, by simp [intOf]; omega⟩
                · obtain rfl : G = t := by omega
                  have m2 := m1.2.2
                  rw [unhide HHY] at m2
                  generalize mv (v i) f (k : Int) G = q at *
                  clear HGV HI HH HOK HC HL CO CK HHY
                  by_cases eik : i = k
                  · have exy := unhide HSE eik
                    have ei : ((i : Int) == (k : Int)) = true := by simp; omega
                    rw [if_pos (by omega)] at HPV
                    have z1 : ¬ x < y := by omega
                    have z2 : ¬ x < y - q := by omega
                    clear exy eik HSE
                    go_wp2_with (at_builtin; refine wpList_append_int _ rfl _ _ rfl wq.heap.size _ _ _ rfl ((unhide HR).alloc _) wr.heap.size 0 rfl (by simp) (by omega) (by have := (unhide HB2).size; simp; omega) ?_; intro v2 w3 ho2 hg2)
                    go_roundw
                    case rel =>
                      have hb5 := (((Below.refl wq.heap.size wr).alloc (unhide HB2).size (.cells #[.int .i64 0] 3)).grown hg2 (by have := (unhide HB2).size; simp; omega) (fun q hq => ((unhide HR).lt q hq).1))
                      refine ⟨(unhide HB2).trans hb5, k + 1, by omega, by go_num, ?_⟩
                      show _root_.Go.World.ownsRow _ _ _ _ _ _ _
                      rw [List.range_succ, List.map_append, intVals_append]
                      show _root_.Go.World.ownsRow _ _ _ _ _ _ (_ ++ intVals [p i k])
                      rw [unhide HPV]
                      exact ho2
                    case measure => simp [intOf]; omega
                  · have ei : ((i : Int) == (k : Int)) = false := by simp; omega
                    clear eik HSE
                    by_cases e1 : y ≤ x
                    · rw [if_pos e1] at HPV
                      have z1 : ¬ x < y := by omega
                      have z2 : ¬ x < y - q := by omega
                      go_wp2_with (at_builtin; refine wpList_append_int _ rfl _ _ rfl wq.heap.size _ _ _ rfl ((unhide HR).alloc _) wr.heap.size 0 rfl (by simp) (by omega) (by have := (unhide HB2).size; simp; omega) ?_; intro v2 w3 ho2 hg2)
                      go_roundw
                      case rel =>
                        have hb5 := (((Below.refl wq.heap.size wr).alloc (unhide HB2).size (.cells #[.int .i64 0] 3)).grown hg2 (by have := (unhide HB2).size; simp; omega) (fun q hq => ((unhide HR).lt q hq).1))
                        refine ⟨(unhide HB2).trans hb5, k + 1, by omega, by go_num, ?_⟩
                        show _root_.Go.World.ownsRow _ _ _ _ _ _ _
                        rw [List.range_succ, List.map_append, intVals_append]
                        show _root_.Go.World.ownsRow _ _ _ _ _ _ (_ ++ intVals [p i k])
                        rw [unhide HPV]
                        exact ho2
                      case measure => simp [intOf]; omega
                    · by_cases e2 : y - q ≤ x
                      · rw [if_neg e1, if_pos e2] at HPV
                        have z1 : x < y := by omega
                        have z2 : ¬ x < y - q := by omega
                        go_wp2_with (at_builtin; refine wpList_append_int _ rfl _ _ rfl wq.heap.size _ _ _ rfl ((unhide HR).alloc _) wr.heap.size 1 rfl (by simp) (by omega) (by have := (unhide HB2).size; simp; omega) ?_; intro v2 w3 ho2 hg2)
                        go_roundw
                        case rel =>
                          have hb5 := (((Below.refl wq.heap.size wr).alloc (unhide HB2).size (.cells #[.int .i64 1] 3)).grown hg2 (by have := (unhide HB2).size; simp; omega) (fun q hq => ((unhide HR).lt q hq).1))
                          refine ⟨(unhide HB2).trans hb5, k + 1, by omega, by go_num, ?_⟩
                          show _root_.Go.World.ownsRow _ _ _ _ _ _ _
                          rw [List.range_succ, List.map_append, intVals_append]
                          show _root_.Go.World.ownsRow _ _ _ _ _ _ (_ ++ intVals [p i k])
                          rw [unhide HPV]
                          exact ho2
                        case measure => simp [intOf]; omega
                      · rw [if_neg e1, if_neg e2] at HPV
                        have z1 : x < y := by omega
                        have z2 : x < y - q := by omega
                        go_wp2_with (at_builtin; refine wpList_append_int _ rfl _ _ rfl wq.heap.size _ _ _ rfl ((unhide HR).alloc _) wr.heap.size 2 rfl (by simp) (by omega) (by have := (unhide HB2).size; simp; omega) ?_; intro v2 w3 ho2 hg2)
                        go_roundw
                        case rel =>
                          have hb5 := (((Below.refl wq.heap.size wr).alloc (unhide HB2).size (.cells #[.int .i64 2] 3)).grown hg2 (by have := (unhide HB2).size; simp; omega) (fun q hq => ((unhide HR).lt q hq).1))
                          refine ⟨(unhide HB2).trans hb5, k + 1, by omega, by go_num, ?_⟩
                          show _root_.Go.World.ownsRow _ _ _ _ _ _ _
                          rw [List.range_succ, List.map_append, intVals_append]
                          show _root_.Go.World.ownsRow _ _ _ _ _ _ (_ ++ intVals [p i k])
                          rw [unhide HPV]
                          exact ho2
                        case measure => simp [intOf]; omega
            · obtain rfl : n = k := by omega
              obtain ⟨a2, c2', hv2, hI2, _⟩ := Ints.of_owns (unhide HR) (by omega)
              have hT2 := T3.of_owns (by rw [hv2] at HR; exact unhide HR)
              subst hv2
              have hbA : Below wr.heap.size wr (wr.alloc (.cells #[.slice a2 n c2'] 23)) := by go_grown
              have HBA := hide hbA
              have HI3 := hide (hI2.later hbA)
              have HT3 := hide (hT2.later hbA)
              have HO3 := hide (owns_later (unhide HOWN) ((unhide HB2).trans (hbA.mono (unhide HB2).size)))
              have HX := hide (show Lsts (wr.alloc (.cells #[.slice a2 n c2'] 23)) (some ⟨wr.heap.size, 0, none⟩) 1 1 [⟨a2, n, c2', (List.range n).map (p i)⟩] from lsts_one (s := ⟨a2, n, c2', (List.range n).map (p i)⟩) (by simp) (unhide HI3))
              clear hI2 hT2 hbA HGV HI HH HOK HC HL
              go_wp2_with (at_builtin; refine wpList_append_lsts _ rfl _ _ rfl w.heap.size _ i LL rfl (unhide HO3) _ 1 1 [⟨a2, n, c2', (List.range n).map (p i)⟩] rfl (unhide HX) (by omega) (by have := (unhide HBB).size; simp; omega) ?_; intro v4 w4 ho4 hg4)
              go_roundw
              case rel =>
                have hbA2 : Below wq.heap.size wq (wr.alloc (.cells #[.slice a2 n c2'] 23)) := (unhide HB2).trans ((unhide HBA).mono (unhide HB2).size)
                have hbw : Below w.heap.size w (wr.alloc (.cells #[.slice a2 n c2'] 23)) := (unhide HBB).trans ((unhide HBA).mono (unhide HBB).size)
                refine ⟨hbw.trans ((Below.refl w.heap.size _).grown hg4 hbw.size (fun q hq => ((unhide HO3).lt q hq).1)), i + 1, LL ++ [(⟨a2, n, c2', (List.range n).map (p i)⟩ : Sl)], by omega, by go_num, hide ho4, ?_, fun s hs => ?_⟩
                · show _ = _
                  rw [rowsL_succ, ← unhide HLS]; simp [lists]
                · rcases List.mem_append.1 hs with h | h
                  · have h1 := unhide HLL s h
                    have := (h1.2.later hbA2).grown (h1.1.later hbA2) (unhide HO3) hg4
                    exact ⟨this.2, this.1⟩
                  · rw [List.mem_singleton] at h
                    subst h
                    have := (unhide HT3).grown (unhide HI3) (unhide HO3) hg4
                    exact ⟨this.2, this.1⟩
              case measure => simp [intOf]; omega
        · obtain rfl : n = i := by omega
          obtain ⟨aa, cc, hv, hLL⟩ := Lsts.of_owns (unhide HOWN) (fun s hs => (unhide HLL s hs).1)
          subst hv
          go_wp2
          go_ret2
          exact .inl ⟨unhide HN2, aa, cc, LL, rfl, hLL, unhide HLS, HBr⟩
end Go.Proofs.Ytkeanlpgnnikjaa
