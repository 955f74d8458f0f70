import Derived.Test.YtbcchbhchfdbiaaWBT
namespace Go.Proofs.Ytbcchbhchfdbiaa
open Go.RowKit Go.Shelf
attribute [local go_sem] Oper.semAt_some
set_option maxRecDepth 100000 in
set_option maxHeartbeats 8000000 in
/-- grown: each list with each choice at one node more. -/
theorem grown_any (oa : Option Addr) (m oc : Nat) (LS : List Sl) (n x kn : Nat) (w : World) (hL : Lsts w oa m oc LS) (hln : ∀ k, k < m → (slAt LS k).ln = n ∧ (slAt LS k).ints.length = n) (hx : x < n) (n40 : n ≤ 40) (hmk : m * kn ≤ 300) (hkn : kn ≤ 5) :
    Calls Try.prog 57 #[.slice oa m oc, .int .i64 (x : Int), .int .i64 (kn : Int)] w fun e w' => ∃ v ML, e = .returned v ∧ RowL w.heap.size w' v ML.length ML ∧ lists ML = (lists LS).flatMap (fun q => setsL q x kn) ∧ ML.length = m * kn ∧ Below w.heap.size w w' := by
  have om1 := hL.2.1
  have om2 := hL.2.2.1
  unfold maxLen at om2
  have HM : Hid (m = LS.length) := hL.1
  have HLA := hide hL
  have HLn := hide hln
  have HMK := hide hmk
  have n1 : 1 ≤ n := by omega
  clear hL hln hmk
  go_enter Try.func57, Try.ntmps57
  go_wp2_with fail
  go_loopw [7, 14, 9, 19, 10, 11] (fun mv kv _ _ _ _ wz => Hid (Below w.heap.size w wz) ∧ ∃ (k : Nat) (ML : List Sl), k ≤ m ∧ kv = .int .i64 (k : Int) ∧ Hid (RowL w.heap.size wz mv ML.length ML) ∧ Hid (lists ML = ((lists LS).take k).flatMap (fun q => setsL q x kn)) ∧ Hid (ML.length = k * kn)) (fun _ kv _ _ _ _ _ => m - (intOf kv).toNat)
  case atStart => exact ⟨Below.refl _ _, 0, [], Nat.zero_le _, rfl, ⟨World.ownsRow_nil _ _ _ _, fun s hs => by cases hs⟩, rfl, by show 0 = _; omega⟩
  case round =>
    obtain ⟨HBz, k, ML, hk, rfl, HRz, HLz, HNz⟩ := hrel
    by_cases hkl2 : k < m
    · have HQK : Hid ((lists LS)[k]? = some (slAt LS k).ints) := lists_at (by have := unhide HM; omega)
      have hlnk := unhide HLn k hkl2
      have hLz := (unhide HLA).later (unhide HBz)
      obtain ⟨ob, oo, eoa, hob, hoc⟩ := hLz.cellAt (by omega)
      have o1 := hoc k hkl2
      have HIK := hide ((unhide HLA).mem hkl2)
      have HPOS : Hid (∀ j, j < kn → k * kn + j < 300) := fun j hj => by
        have h1 := Nat.mul_le_mul_right kn (show k + 1 ≤ m by omega)
        rw [Nat.succ_mul] at h1
        have h2 := unhide HMK
        omega
      subst eoa
      clear hLz hoc
      generalize hSk : slAt LS k = Sk at *
      clear hSk
      obtain ⟨ska, skn, skc, qk⟩ := Sk
      obtain ⟨hl1, hl2⟩ := hlnk
      simp only at o1 HIK HQK hl1 hl2
      subst hl1
      go_wp2_with fail
      rename World => wz
      go_loopw [7, 19, 10, 11] (fun mv jv _ _ wy => Hid (Below w.heap.size w wy) ∧ ∃ (j : Nat) (ML : List Sl), j ≤ kn ∧ jv = .int .i64 (j : Int) ∧ Hid (RowL w.heap.size wy mv ML.length ML) ∧ Hid (lists ML = ((lists LS).take k).flatMap (fun q => setsL q x kn) ++ setsL qk x j) ∧ Hid (ML.length = k * kn + j)) (fun _ jv _ _ _ => kn - (intOf jv).toNat)
      case atStart => exact ⟨HBz, 0, ML, Nat.zero_le _, rfl, HRz, by show _ = _; rw [unhide HLz]; unfold setsL; simp, HNz⟩
      case round =>
        clear HBz HRz HLz HNz
        obtain ⟨HBy, j, ML, hj, rfl, HRy, HLy, HNy⟩ := hrel
        rename World => wy
        by_cases hjl : j < kn
        · have CC := hide (clone_any ska skn skc qk wy ((unhide HIK).later (unhide HBy)) (by omega))
          have HD5 : Hid (∀ v2 w5, w5.ownsRow wy.heap.size 3 1 v2 skn (intVals qk) → Below wy.heap.size wy w5 → _) := fun v2 w5 ho h5 => way_d ho h5 n1 hx hl2 (j : Int)
          have hpos := unhide HPOS j hjl
          have HQ1 : Hid (lists (ML ++ [⟨none, 0, 0, qk.set x (j : Int)⟩]) = ((lists LS).take k).flatMap (fun q => setsL q x kn) ++ setsL qk x (j + 1)) := by
            show _ = _
            rw [lists_app, unhide HLy, sets_snoc, List.append_assoc]; rfl
          have HWN : Hid (∀ (S : Sl) (w6 w8 : World) (mv v3 : Value) (C : Obj), RowL w.heap.size wy mv ML.length ML → Below wy.heap.size wy w6 → Ints w6 S.la S.ln S.lc S.ints → T3 w6 S.la S.ln → w8.ownsRow w.heap.size 25 1 v3 (ML.length + 1) (slVals (ML ++ [S])) → (w6.alloc C).grownBy w8 mv.ownBlock → RowL w.heap.size w8 v3 (ML.length + 1) (ML ++ [S]) ∧ Below w.heap.size w w8) := fun S w6 w8 mv v3 C h1 h2 h3 h4 h5 h6 => way_next h1 (unhide HBy) h2 h3 h4 h5 h6
          have hszy := (unhide HBy).size
          have HPS : Hid (k * kn + j < 300) := hpos
          clear hpos
          go_wp2_with fail
          refine (unhide CC).mono ?_
          rintro e w5 ⟨v2, rfl, ho2, hb5⟩
          obtain ⟨g, cap, yy, hv2, e1, e2, e3, e4, e5, e6, e7, e8⟩ := unhide HD5 v2 w5 ho2 hb5
          subst hv2
          have HB6 := hide e6
          have HI6 := hide e7
          have HT6 := hide e8
          clear e6 e7 e8 ho2 hb5
          go_wp2_with (
            at_builtin
            have hbC : Below (w5.setCell ⟨g, x, none⟩ (.int .i64 (j : Int))).heap.size (w5.setCell ⟨g, x, none⟩ (.int .i64 (j : Int))) ((w5.setCell ⟨g, x, none⟩ (.int .i64 (j : Int))).alloc (.cells #[.slice (some ⟨g, 0, none⟩) skn cap] 25)) := by go_grown
            have hcC : ((w5.setCell ⟨g, x, none⟩ (.int .i64 (j : Int))).alloc (.cells #[.slice (some ⟨g, 0, none⟩) skn cap] 25)).cell? ⟨w5.heap.size, 0, none⟩ = some (.slice (some ⟨g, 0, none⟩) skn cap) := by
              rw [show w5.heap.size = (w5.setCell ⟨g, x, none⟩ (.int .i64 (j : Int))).heap.size by simp]
              simp only [World.cell?_alloc_at]
              rfl
            have hRC := (unhide HRy).later ((unhide HB6).trans (hbC.mono (unhide HB6).size))
            refine wpList_append_lsts _ rfl _ _ rfl w.heap.size _ _ ML rfl hRC.1 _ 1 1 [⟨some ⟨g, 0, none⟩, skn, cap, qk.set x (j : Int)⟩] rfl (lsts_one (s := ⟨some ⟨g, 0, none⟩, skn, cap, qk.set x (j : Int)⟩) hcC ((unhide HI6).later hbC)) (by have := unhide HNy; have := unhide HPS; omega) (by have h1 := (unhide HB6).size; have h2 := hbC.size; omega) ?_
            intro v3 w8 ho3 hg3
            obtain ⟨hR8, hB8⟩ := unhide HWN ⟨some ⟨g, 0, none⟩, skn, cap, qk.set x (j : Int)⟩ _ w8 _ v3 _ (unhide HRy) (unhide HB6) (unhide HI6) (unhide HT6) ho3 hg3
            have HR8 := hide hR8
            have HB8 := hide hB8
            clear hR8 hB8 ho3 hg3 hbC hRC)
          refine ⟨⟨HB8, j + 1, ML ++ [⟨some ⟨g, 0, none⟩, skn, cap, qk.set x (j : Int)⟩], by omega, by go_num, ?_, ?_, ?_⟩, by simp [intOf]; omega⟩
          · show RowL _ _ _ _ _
            rw [List.length_append]; exact unhide HR8
          · have hq1 := unhide HQ1
            show lists _ = _
            rw [lists_app] at hq1 ⊢
            exact hq1
          · show _ = _
            rw [List.length_append, unhide HNy]; rfl
        · obtain rfl : kn = j := by omega
          have HF : Hid (lists ML = ((lists LS).take (k + 1)).flatMap (fun q => setsL q x kn) ∧ ML.length = (k + 1) * kn) := ⟨by rw [unhide HLy, takeL_snoc (unhide HQK), List.flatMap_append]; simp, by rw [unhide HNy, Nat.succ_mul]⟩
          go_wp2_with fail
          exact ⟨⟨HBy, k + 1, ML, by omega, by go_num, HRy, (unhide HF).1, (unhide HF).2⟩, by simp [intOf]; omega⟩
    · obtain rfl : m = k := by omega
      have HF : Hid (∀ v, v = u7 → ∃ v ML, Ending.returned u7 = .returned v ∧ RowL w.heap.size wr v ML.length ML ∧ lists ML = (lists LS).flatMap (fun q => setsL q x kn) ∧ ML.length = m * kn ∧ Below w.heap.size w wr) := fun _ _ => ⟨u7, ML, rfl, unhide HRz, by
        rw [unhide HLz]
        have : (lists LS).take m = lists LS := List.take_of_length_le (by rw [lists_len]; have := unhide HM; omega)
        rw [this], unhide HNz, unhide HBz⟩
      go_wp2
      go_ret
      exact unhide HF _ rfl
end Go.Proofs.Ytbcchbhchfdbiaa
