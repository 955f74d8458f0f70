import Derived.Test.YtajdijjecojdhaaDoorWNU
import Derived.Test.YtajdijjecojdhaaDoorWNRK
namespace Go.Proofs.YtajdijjecojdhaaDoor
open Go.RowKit
attribute [local go_sem] Oper.semAt_some
set_option maxRecDepth 100000 in
set_option maxHeartbeats 8000000 in
theorem rpA (s : ByteArray) (w : World) (hs : s.size ≤ 3000) (hrd : ∀ k, readAll [] (cutB s) = .error k → specP s = (k, [], [])) (hre : ∃ k, readAll [] (cutB s) = .error k) : Calls Tryd.prog 14 #[.string s] w fun e w' =>
    ∃ (aL : Option Addr) (nL cL : Nat) (lL : List Ag) (aR : Option Addr) (nR cR : Nat) (lR : List Ag), e = .returned (.tuple #[.agg #[.slice aL nL cL, .slice aR nR cR], .int .i64 (specP s).1]) ∧
      Ags w' aL nL cL lL ∧ Ags w' aR nR cR lR ∧ plainA lL = (specP s).2.1 ∧ plainA lR = (specP s).2.2 ∧ Below w.heap.size w w' := by
  have hd1 : decide ((20000 : Int) < (s.size : Int)) = false := by simp; omega
  obtain ⟨W2, hW2, hb2, hsz2, hQ2⟩ : ∃ W2, w.alloc (.cells #[.slice none 0 0, .slice none 0 0] 24) = W2 ∧ Below w.heap.size w W2 ∧ W2.heap.size = w.heap.size + 1 ∧ W2.heap[w.heap.size]? = some (.cells #[.slice none 0 0, .slice none 0 0] 24 (0, 0)) := ⟨_, rfl, alloc_later _ _, by simp, heap_alloc_new _ _⟩
  have HW2 := hide hW2
  clear hW2
  go_enter Tryd.func14, Tryd.ntmps14
  go_wp2_with fail
  rw [unhide HW2]
  refine (cutAt_any s W2 (by omega)).mono ?_
  rintro e w3 ⟨vL, rfl, hO3, hb3⟩
  obtain ⟨lb, lc, rfl, hI3⟩ := in9_of_own hO3 rfl (fun x hx => by have := cutB_size hx; unfold maxLen; omega)
  have hn3 : (cutB s).length ≤ 3001 := by have := cutFrom_length s (s.size - 0) 0 0; show (cutFrom s 0 0).length ≤ _; unfold cutFrom; omega
  have HPS : Hid (∀ x ∈ cutB s, x.size ≤ 3000) := fun x hx => by have := cutB_size hx; omega
  have HBW3 : Hid (∀ wr, Below w3.heap.size w3 wr → Below w.heap.size w wr) := fun wr hr => hb2.trans ((hb3.trans (hr.mono hb3.size)).mono hb2.size)
  have HQ3 : Hid (∀ wr, Below w3.heap.size w3 wr → wr.heap[w.heap.size]? = some (.cells #[.slice none 0 0, .slice none 0 0] 24 (0, 0))) := fun wr hr => (hr.block w.heap.size (by have := hb3.size; omega)).trans ((hb3.block w.heap.size (by omega)).trans hQ2)
  have hs3 : w.heap.size + 1 ≤ w3.heap.size := by have := hb3.size; omega
  have HI3 := hide hI3
  have HHY := hide hrd
  clear hO3 hI3 hb3 hb2 hQ2 hsz2 HW2 hrd
  generalize hPC : cutB s = PC at *
  go_wp2_with fail
  go_loopw [5, 6, 7, 8, 9] (fun vS iv _ _ _ wr => Hid (Below w3.heap.size w3 wr) ∧ ∃ (i : Nat) (L : List Sd) (aS : Option Addr) (cS : Nat), i ≤ PC.length ∧ iv = .int .i64 (i : Int) ∧ vS = .slice aS L.length cS ∧ Hid (RowS w3.heap.size wr (.slice aS L.length cS) L.length L) ∧ Hid ((sideE true (L.map (·.e))).length ≤ 6 ∧ (sideE false (L.map (·.e))).length ≤ 6 ∧ ∀ x ∈ L, x.e.likes.length ≤ 9000 ∧ x.e.name.size ≤ 12) ∧ Hid (readAll [] PC = readAll (L.map (·.e)) (PC.drop i))) (fun _ iv _ _ _ _ => PC.length - (intOf iv).toNat)
  case atStart => exact ⟨Below.refl _ _, 0, [], none, 0, Nat.zero_le _, rfl, rfl, ⟨World.ownsRow_nil _ _ _ _, fun x hx => by cases hx⟩, ⟨Nat.zero_le _, Nat.zero_le _, fun x hx => by cases hx⟩, rfl⟩
  case round =>
    obtain ⟨HB, i, L, aS, cS, hi, rfl, rfl, HR, HL, HRA⟩ := hrel
    by_cases hlt : i < PC.length
    · obtain ⟨p, q, eb, hc⟩ : ∃ p q, lb = some ⟨p, q, none⟩ ∧ wr.cell? ⟨p, q + i, none⟩ = some (.string (PC[i]?.getD ByteArray.empty)) := by
        obtain ⟨-, -, -, -, h5⟩ := ((unhide HI3).later (unhide HB)).1
        rcases h5 with h5 | ⟨p, q, e, -, hc⟩
        · omega
        · exact ⟨p, q, e, hc i hlt⟩
      subst eb
      have HST := hide (readAll_step (all := L.map (·.e)) hlt)
      have HP : Hid ((PC[i]?.getD ByteArray.empty).size ≤ 3000) := by
        show _ ≤ _
        rw [List.getElem?_eq_getElem hlt]
        exact unhide HPS _ (List.getElem_mem hlt)
      generalize PC[i]?.getD ByteArray.empty = ln at *
      have hi1 : (i : Int) < (PC.length : Int) := by omega
      go_wp2_with fail
      refine (wordsOf_any ln wr (by have := unhide HP; omega)).mono ?_
      rintro e w5 ⟨v5, rfl, hO5, hb5⟩
      rw [← wordsB_eq] at hO5
      obtain ⟨hwf, hwl⟩ := words_facts ln
      have HWF : Hid (∀ x ∈ wordsB ln, 0 < x.size) := fun x hx => (hwf x hx).1
      have HWL : Hid ((wordsB ln).length ≤ 9000) := by show _ ≤ _; have := unhide HP; omega
      obtain ⟨wb, wc, rfl, hI5⟩ := in9_of_own hO5 rfl (fun x hx => by have := (hwf x hx).2; have := unhide HP; unfold maxLen; omega)
      have HR5 := hide ((unhide HR).later hb5)
      have HB5 := hide ((unhide HB).trans (hb5.mono (unhide HB).size))
      have HI5 := hide hI5
      have hwc : ∀ x t, wordsB ln = x :: t → ∃ A o, wb = some ⟨A, o, none⟩ ∧ w5.cell? ⟨A, o, none⟩ = some (.string x) := fun x t e => by
        obtain ⟨h1, -, -, -, h5⟩ := hI5.1
        rcases h5 with h5 | ⟨A, o, e2, hlt2, hc2⟩
        · rw [e] at h5; simp at h5
        · have := hc2 0 (by rw [e]; simp)
          rw [e] at this
          exact ⟨A, o, e2, by simpa using this⟩
      clear hc hI5 hO5 hwf hwl hb5
      generalize hws : wordsB ln = ws at *
      cases ws with
      | nil =>
        have HE : Hid (readAll [] PC = readAll (L.map (·.e)) (PC.drop (i + 1))) := by show _ = _; rw [unhide HRA, unhide HST]; rfl
        go_wp2_with fail
        exact ⟨⟨HB5, i + 1, L, aS, cS, by omega, by go_num, rfl, HR5, HL, HE⟩, by simp [intOf]; omega⟩
      | cons x t =>
        obtain ⟨A, o, ea, hx0⟩ := hwc x t rfl
        subst ea
        have hxs : 0 < x.size := unhide HWF x (by simp)
        have htl : ((t.length : Int) + 1 == 0) = false := by simp; omega
        have hsk := skip_first (t := t) hxs
        clear hwc
        by_cases h35 : x[0].toNat = 35
        · have HE : Hid (readAll [] PC = readAll (L.map (·.e)) (PC.drop (i + 1))) := by show _ = _; rw [unhide HRA, unhide HST, if_pos (by rw [hsk]; simpa using h35)]
          clear hsk
          go_wp2_with fail
          exact ⟨⟨HB5, i + 1, L, aS, cS, by omega, by go_num, rfl, HR5, HL, HE⟩, by simp [intOf]; omega⟩
        · have hal : L.length ≤ 1000 := by have := len_sides (L.map (·.e)); have := unhide HL; simp at *; omega
          have HTK := hide (readSide_any A o _ _ (x :: t) aS L.length cS (L.map (·.e)) w5 (unhide HI5).1 (unhide HWF) (by simp) (unhide HR5).sds hal (unhide HWL))
          have HRT : Hid (readAll [] PC = match takeS (L.map (·.e)) (x :: t) with
              | .error k => .error k
              | .ok e => readAll (L.map (·.e) ++ [e]) (PC.drop (i + 1))) := by
            show _ = _
            rw [unhide HRA, unhide HST, if_neg (by rw [hsk]; simpa using h35)]
            rfl
          clear hsk
          have h35' : ¬ (x[0].toNat : Int) = 35 := by omega
          go_wp2_with fail
          refine (unhide HTK).mono ?_
          rintro e w6 ⟨hb6, ⟨k, hk, l0, nm, r0, la, ln', lc', rfl⟩ | ⟨en, la, ln', lc', hen, rfl, hI6⟩⟩
          · have hkz := take_nz hk
            have HF : Hid (readAll [] PC = .error k) := by show _ = _; rw [unhide HRT, hk]
            have hsp := unhide HHY k (unhide HF)
            have HSP := hide hsp
            have HB6 := hide ((unhide HB5).trans (hb6.mono (unhide HB5).size))
            have HB7 := hide ((unhide HB6).alloc (unhide HB6).size (.cells #[.bool l0, .string nm, .int .i64 r0, .slice none 0 0, .slice la ln' lc'] 69))
            have hb6' := unhide HB6
            have hQz := unhide HQ3 w6 hb6'
            have z0 : w6.cell? ⟨w.heap.size, 0, none⟩ = some (.slice none 0 0) := (cell_in' hQz 0).1
            have z1 : w6.cell? ⟨w.heap.size, 1, none⟩ = some (.slice none 0 0) := (cell_in' hQz 1).1
            have fz0 := (cell_in' hQz 0).2
            have fz1 := (cell_in' hQz 1).2
            have HQz := hide hQz
            clear hQz
            have hlt6 : w.heap.size < w6.heap.size := by have := (unhide HB6).size; omega
            have hne6 : ¬ w.heap.size = w6.heap.size := by omega
            clear hb6' hsp hk hb6
            go_wp2_with fail
            refine bodyPost_ret (results_row_tmp rfl _ _ _ w.heap.size _ rfl (run_loadVar_row _ w.heap.size 24 24 _ (0, 0) _ (by rw [Below.heap_alloc _ _ _ (by simp; omega)]; exact over2 (unhide HQz)) Tryd.underlying24 rfl (by show _ = some 2; kernel_rfl))) rfl ?_
            exact ⟨none, 0, 0, [], none, 0, 0, [], by rw [unhide HSP]; rfl, ags_nil _, ags_nil _, by rw [unhide HSP]; rfl, by rw [unhide HSP]; rfl, (below2 (unhide HBW3 w6 (unhide HB6))).alloc (by simp; omega) _⟩
          · obtain ⟨o1, o2⟩ := take_ok hen
            have o3 := take_name hen
            have HF : Hid (readAll [] PC = readAll (L.map (·.e) ++ [en]) (PC.drop (i + 1))) := by show _ = _; rw [unhide HRT, hen]
            have HB6 := hide ((unhide HB5).trans (hb6.mono (unhide HB5).size))
            have HR6 := hide ((unhide HR5).later hb6)
            have HI6 := hide hI6
            have HL6 : Hid ((sideE true ((L ++ [Sd.mk en la ln' lc']).map (·.e))).length ≤ 6 ∧ (sideE false ((L ++ [Sd.mk en la ln' lc']).map (·.e))).length ≤ 6 ∧ ∀ x ∈ L ++ [Sd.mk en la ln' lc'], x.e.likes.length ≤ 9000 ∧ x.e.name.size ≤ 12) := by
              obtain ⟨l1, l2, l3⟩ := unhide HL
              rw [List.map_append]
              obtain ⟨b1, b2⟩ := bound_next l1 l2 o1
              refine ⟨b1, b2, fun y hy => ?_⟩
              rcases List.mem_append.1 hy with q | q
              · exact l3 y q
              · rw [List.mem_singleton] at q
                subst q
                have := unhide HWL
                exact ⟨by show en.likes.length ≤ 9000; omega, o3⟩
            have HF6 : Hid (readAll [] PC = readAll ((L ++ [Sd.mk en la ln' lc']).map (·.e)) (PC.drop (i + 1))) := by rw [List.map_append]; exact HF
            obtain ⟨i0, hi0, hz0, hz1, hz2⟩ := info_parts info69
            have HI0 := hide (And.intro hi0 (And.intro hz0 (And.intro hz1 hz2)))
            have HNW := hide (new_cells (w := w6.alloc (.cells #[.bool en.left, .string en.name, .int .i64 en.room, .slice none 0 0, .slice la ln' lc'] 69)) (cs := #[.bool en.left, .string en.name, .int .i64 en.room, .slice none 0 0, .slice la ln' lc']) (ty := 69) (g := w6.heap.size + 1) (by simp))
            have hlt6 : w3.heap.size ≤ w6.heap.size := (unhide HB6).size
            clear hi0 hz0 hz1 hz2 o1 o2 o3 hen hI6 hb6 HF
            go_wp2_with (
              at_builtin
              refine wpList_append_elt _ rfl _ _ 67 69 i0 _ 5 80 rfl Tryd.underlying67 (unhide HI0).1 (unhide HI0).2.1 (unhide HI0).2.2.1 (unhide HI0).2.2.2 rfl (by decide) w3.heap.size (.slice aS L.length cS) L.length (sdFlat L) rfl (((unhide HR6).1.alloc _).alloc _) (w6.heap.size + 1) 1 (sdF (Sd.mk en la ln' lc')) rfl rfl (unhide HNW) (by simp [sdF, Value.oneCell']) (by omega) (by omega) (by simp; omega) ?_
              intro v2 w8 ho8 hg8 _
              have HR8 := hide (rowS_next (unhide HR6) (x := Sd.mk en la ln' lc') (unhide HI6) ((alloc_later w6 _).trans ((alloc_later _ _).mono (alloc_later w6 _).size)) hg8 ho8)
              have HB8 : Hid (Below w3.heap.size w3 w8) := (((unhide HB6).alloc hlt6 _).alloc (by simp; omega) _).grown hg8 (by simp; omega) (fun q hq => ((unhide HR6).1.lt q hq).1)
              obtain ⟨g2, c2, hv2⟩ := own64_slice ho8 (Nat.succ_pos _)
              subst hv2
              clear ho8 hg8)
            exact ⟨⟨HB8, i + 1, L ++ [Sd.mk en la ln' lc'], some ⟨g2, 0, none⟩, c2, by omega, by go_num, by simp, by simpa using HR8, HL6, HF6⟩, by simp [intOf]; omega⟩
    · obtain rfl : i = PC.length := by omega
      have HF : Hid (readAll [] PC = .ok (L.map (·.e))) := by show _ = _; rw [unhide HRA, List.drop_length]; rfl
      obtain ⟨k, hk⟩ := hre
      rw [unhide HF] at hk
      cases hk
end Go.Proofs.YtajdijjecojdhaaDoor
