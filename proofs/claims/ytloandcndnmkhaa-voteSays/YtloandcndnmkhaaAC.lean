import Derived.Test.YtloandcndnmkhaaAB
import Derived.Test.YtloandcndnmkhaaGG
namespace Go.Proofs.Ytloandcndnmkhaa
open Go.RowKit
theorem ints_single (w : World) (k : Int) : Ints (w.alloc (.cells #[.int .i64 k] 3)) (some ⟨w.heap.size, 0, none⟩) 1 1 [k] := by
  refine ⟨rfl, Nat.le_refl _, by unfold maxLen; omega, .inr ⟨_, 0, rfl, by simp, fun j hj => ?_⟩⟩
  obtain rfl : j = 0 := by omega
  simp
set_option maxRecDepth 100000 in
set_option maxHeartbeats 8000000 in
/-- The document's Paths. -/
theorem pathsR_any (n : Nat) (a : Option Addr) (m c : Nat) (l : List Bal) (w : World) (h : Bals w a m c l) (hg : Good n l) :
    Calls Try.prog 41 #[.int .i64 n, .slice a m c] w fun e w' => ListsPost n (rowsL (fw (prf l l.length) n) n n) w e w' := by
  obtain ⟨j3, hj3, hy0, hy1, hy2⟩ := info_parts info3
  have hn1 := hg.1
  have hn6 := hg.2.1
  have H0 := hide (fun i j => (prf_bound hg i j).1)
  have CP := hide (pairsR_any n a m c l w h hg)
  clear h hg
  generalize prf l l.length = p at *
  go_enter Try.func41, Try.ntmps41
  go_wp2_with fail
  refine (unhide CP).mono ?_
  rintro e w1 ⟨TA, TC, L0, rfl, hL, hLL, hb1⟩
  have hTC1 := hL.2.1
  have hTC2 := hL.2.2.1
  have HTC2 := hide hTC2
  unfold maxLen at hTC2
  obtain ⟨G, O, rfl, _⟩ := rows_at hL hLL hn1
  have HR : Hid (∀ wr, Below w1.heap.size w1 wr → ∀ i, i < n → ∃ b off c', wr.cell? ⟨G, O + i, none⟩ = some (.slice (some ⟨b, off, none⟩) n c') ∧ ∀ j, j < n → wr.cell? ⟨b, off + j, none⟩ = some (.int .i64 (p i j))) := fun wr hb i hi => by
    obtain ⟨G', O', e, hh⟩ := rows_at (hL.later hb) hLL hn1
    cases e
    exact hh i hi
  clear hL hLL CP
  go_wp2_with fail
  go_loopw [7, 6, 8] (fun i v _ wr => Below w1.heap.size w1 wr ∧ ∃ (k : Nat) (L : List Sl), k ≤ n ∧ i = .int .i64 k ∧ wr.ownsRow w1.heap.size 23 1 v k (slVals L) ∧ lists L = rowsL (fw p n) n k ∧ (∀ s ∈ L, Ints wr s.la s.ln s.lc s.ints ∧ T3 wr s.la s.ln)) (fun i _ _ _ => n - (intOf i).toNat)
  case atStart => exact ⟨Below.refl _ _, 0, [], Nat.zero_le _, rfl, World.ownsRow_nil _ _ _ _, rfl, fun s hs => (by cases hs)⟩
  case round =>
    obtain ⟨hbr, k, L, hk, rfl, hown, hls, hL⟩ := hrel
    have HOWN := hide hown
    have HLS := hide hls
    have HL := hide hL
    clear hown hls hL
    by_cases hlt : k < n
    · go_wp2_with (at_make; refine wpList_make_full _ rfl _ _ 23 rfl wr.heap.size 3 j3 _ 1 Try.underlying23 hj3 hy0 hy1 .i64 .i64 _ _ n rfl rfl rfl rfl (by rw [hy2]; omega) (by unfold maxLen; omega) (Nat.le_refl _) ?_; intro w2 ho2 hg2; have hb2 : Below wr.heap.size wr w2 := (Below.refl wr.heap.size wr).grown hg2 (Nat.le_refl _) (fun k hk => by cases hk))
      have hrow := row_made ho2
      have hT : T3 w2 (some ⟨wr.heap.size, 0, none⟩) n := T3.of_owns ho2
      obtain ⟨g, hgg⟩ : ∃ g, g = wr.heap.size := ⟨_, rfl⟩
      rw [← hgg] at hrow hT ⊢
      obtain ⟨w3, hw3⟩ : ∃ w3, w3 = w2.alloc (.cells #[.int .i64 (k : Int)] 3) := ⟨_, rfl⟩
      have hb3 : Below w2.heap.size w2 w3 := by rw [hw3]; go_grown
      have hrt : RowT g w3 (some ⟨g, 0, none⟩) n (fun _ => 0) := RowT.later ⟨hrow, hT⟩ hb3
      have hbw3 : Below wr.heap.size wr w3 := hb2.trans (hb3.mono hb2.size)
      have h13 : Below w1.heap.size w1 w3 := hbr.trans (hbw3.mono hbr.size)
      have hI : Ints w3 (some ⟨w2.heap.size, 0, none⟩) 1 1 ([k].map (fun z : Nat => (z : Int))) := by rw [hw3]; exact ints_single w2 k
      have hs1 := hbr.size
      have hs2 := hb2.size
      have hs3 := hb3.size
      have hs4 := hbw3.size
      have C := strong_any p n k g G O TC g w3 (unhide H0) hn6 hTC1 (unhide HTC2) (fun wx hx => unhide HR wx (h13.trans (gb_to hx (by omega) (by omega)))) (n - 1) [k] (some ⟨w2.heap.size, 0, none⟩) 1 0 k w3 (fun _ => 0) (by simp) (gb_refl _ _) hI (.inr ⟨_, _, rfl, by have := ((hrt.at hlt).2.2.1); have := (hrow.at hlt).2.2.1; omega⟩) (by simp) (fun z hz => by rw [List.mem_singleton.1 hz]; exact hlt) (by simp) rfl hlt (List.mem_singleton.2 rfl) (fun e => absurd rfl e) (.inl ⟨rfl, rfl⟩) hrt
      rw [← hw3]
      clear hrow hT hrt hI hb3 ho2 hg2 hw3 hs3
      refine C.mono ?_
      clear C
      rintro e w4 ⟨rfl, hgb, r', hr', hsp⟩
      have HR' := hide hr'
      have hz := hr'.at hlt
      obtain ⟨z1, z2, z3, z4⟩ := hz
      have HSP := hide hsp
      have hb4 : Below wr.heap.size wr w4 := hbw3.trans (gb_to hgb (by omega) (by omega))
      have H5 : Hid (RowT g (w4.setCell ⟨g, k, none⟩ (.int .i64 0)) (some ⟨g, 0, none⟩) n (fw p n k) ∧ Below wr.heap.size wr (w4.setCell ⟨g, k, none⟩ (.int .i64 0))) :=
        ⟨hr'.set hlt (fun j hj hne => hsp.fw (unhide H0) hj (Ne.symm hne)) (fw_diag n k).symm, hb4.setCell (p := ⟨g, k, none⟩) (by show wr.heap.size ≤ g; omega) _⟩
      clear hr' hsp hgb hb4
      have HGG := hide hgg
      clear hgg
      have hcm : n ≤ maxLen := by unfold maxLen; omega
      have HALL : Hid (∀ w5, RowT g w5 (some ⟨g, 0, none⟩) n (fw p n k) → Below wr.heap.size wr w5 → RowT g (w5.alloc (.cells #[.slice (some ⟨g, 0, none⟩) n n] 23)) (some ⟨g, 0, none⟩) n (fw p n k) ∧ Below wr.heap.size wr (w5.alloc (.cells #[.slice (some ⟨g, 0, none⟩) n n] 23)) ∧ Ints (w5.alloc (.cells #[.slice (some ⟨g, 0, none⟩) n n] 23)) (some ⟨g, 0, none⟩) n n ((List.range n).map (fw p n k)) ∧ Lsts (w5.alloc (.cells #[.slice (some ⟨g, 0, none⟩) n n] 23)) (some ⟨w5.heap.size, 0, none⟩) 1 1 [⟨some ⟨g, 0, none⟩, n, n, (List.range n).map (fw p n k)⟩]) := fun w5 h1 h2 => by
        have hbA : Below w5.heap.size w5 (w5.alloc (.cells #[.slice (some ⟨g, 0, none⟩) n n] 23)) := by go_grown
        have h3 := h1.later hbA
        have h4 := h3.1.ints (l := (List.range n).map (fw p n k)) (cap := n) (by simp) (Nat.le_refl _) hcm (fun j hj => by simp [hj])
        exact ⟨h3, h2.trans (hbA.mono h2.size), h4, lsts_one (s := ⟨some ⟨g, 0, none⟩, n, n, (List.range n).map (fw p n k)⟩) (by simp) h4⟩
      have hall := unhide HALL _ (unhide H5).1 (unhide H5).2
      have HRA := hide hall.1
      have HBA := hide hall.2.1
      have HI3 := hide hall.2.2.1
      have HX := hide hall.2.2.2
      rw [show (w4.setCell ⟨g, k, none⟩ (.int .i64 0)).heap.size = w4.heap.size from by simp] at HX
      have HO3 := hide (owns_later (unhide HOWN) (unhide HBA))
      clear hall HALL hcm
      go_wp2_with (at_builtin; refine wpList_append_lsts _ rfl _ _ rfl w1.heap.size _ k L rfl (unhide HO3) _ 1 1 [⟨some ⟨g, 0, none⟩, n, n, (List.range n).map (fw p n k)⟩] rfl (unhide HX) (by omega) (by have := (unhide HBA).size; omega) ?_; intro v4 w6 ho4 hg4)
      go_roundw
      case rel =>
        have hbw := hbr.trans ((unhide HBA).mono hbr.size)
        refine ⟨hbw.trans ((Below.refl w1.heap.size _).grown hg4 hbw.size (fun q hq => ((unhide HO3).lt q hq).1)), k + 1, L ++ [⟨some ⟨g, 0, none⟩, n, n, (List.range n).map (fw p n k)⟩], by omega, by go_num, ho4, ?_, fun s hs => ?_⟩
        · rw [rowsL_succ, ← unhide HLS]; simp [lists]
        · rcases List.mem_append.1 hs with h | h
          · have h1 := unhide HL s h
            have := (h1.2.later (unhide HBA)).grown23 (h1.1.later (unhide HBA)) (unhide HO3) hg4
            exact ⟨this.2, this.1⟩
          · rw [List.mem_singleton] at h
            subst h
            have := (unhide HRA).2.grown23 (unhide HI3) (unhide HO3) hg4
            exact ⟨this.2, this.1⟩
      case measure => simp [intOf]; omega
    · obtain rfl : n = k := by omega
      obtain ⟨aa, cc, hv, hLL⟩ := Lsts.of_owns (unhide HOWN) (fun s hs => (unhide HL s hs).1)
      subst hv
      go_wp2_with fail
      go_ret
      exact ⟨aa, cc, L, rfl, hLL, unhide HLS, hb1.trans (hbr.mono hb1.size)⟩
end Go.Proofs.Ytloandcndnmkhaa
