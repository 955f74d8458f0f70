import Derived.Test.YtajdijjecojdhaaDoorWNU
import Derived.Test.YtajdijjecojdhaaDoorWNRK
namespace Go.Proofs.YtajdijjecojdhaaDoor
open Go.RowKit
attribute [local go_sem] Oper.semAt_some
set_option maxRecDepth 100000 in
set_option maxHeartbeats 8000000 in
theorem rpB (s : ByteArray) (w : World) (hs : s.size ≤ 3000) (E : List Ent) (hrd : readAll [] (cutB s) = .ok E) (ke : Int) (hse : setAll E [] E = .error ke) : Calls Tryd.prog 14 #[.string s] w fun e w' =>
    ∃ (aL : Option Addr) (nL cL : Nat) (lL : List Ag) (aR : Option Addr) (nR cR : Nat) (lR : List Ag), e = .returned (.tuple #[.agg #[.slice aL nL cL, .slice aR nR cR], .int .i64 (specP s).1]) ∧
      Ags w' aL nL cL lL ∧ Ags w' aR nR cR lR ∧ plainA lL = (specP s).2.1 ∧ plainA lR = (specP s).2.2 ∧ Below w.heap.size w w' := by
  have hd1 : decide ((20000 : Int) < (s.size : Int)) = false := by simp; omega
  obtain ⟨W2, hW2, hb2, hsz2, hQ2⟩ : ∃ W2, w.alloc (.cells #[.slice none 0 0, .slice none 0 0] 24) = W2 ∧ Below w.heap.size w W2 ∧ W2.heap.size = w.heap.size + 1 ∧ W2.heap[w.heap.size]? = some (.cells #[.slice none 0 0, .slice none 0 0] 24 (0, 0)) := ⟨_, rfl, alloc_later _ _, by simp, heap_alloc_new _ _⟩
  have HW2 := hide hW2
  clear hW2
  go_enter Tryd.func14, Tryd.ntmps14
  go_wp2_with fail
  rw [unhide HW2]
  refine (cutAt_any s W2 (by omega)).mono ?_
  rintro e w3 ⟨vL, rfl, hO3, hb3⟩
  obtain ⟨lb, lc, rfl, hI3⟩ := in9_of_own hO3 rfl (fun x hx => by have := cutB_size hx; unfold maxLen; omega)
  have hn3 : (cutB s).length ≤ 3001 := by have := cutFrom_length s (s.size - 0) 0 0; show (cutFrom s 0 0).length ≤ _; unfold cutFrom; omega
  have HPS : Hid (∀ x ∈ cutB s, x.size ≤ 3000) := fun x hx => by have := cutB_size hx; omega
  have HBW3 : Hid (∀ wr, Below w3.heap.size w3 wr → Below w.heap.size w wr) := fun wr hr => hb2.trans ((hb3.trans (hr.mono hb3.size)).mono hb2.size)
  have HQ3 : Hid (∀ wr, Below w3.heap.size w3 wr → wr.heap[w.heap.size]? = some (.cells #[.slice none 0 0, .slice none 0 0] 24 (0, 0))) := fun wr hr => (hr.block w.heap.size (by have := hb3.size; omega)).trans ((hb3.block w.heap.size (by omega)).trans hQ2)
  have hs3 : w.heap.size + 1 ≤ w3.heap.size := by have := hb3.size; omega
  have HI3 := hide hI3
  have HHY := hide hrd
  clear hO3 hI3 hb3 hb2 hQ2 hsz2 HW2 hrd
  generalize hPC : cutB s = PC at *
  go_wp2_with fail
  go_loopw [5, 6, 7, 8, 9] (fun vS iv _ _ _ wr => Hid (Below w3.heap.size w3 wr) ∧ ∃ (i : Nat) (L : List Sd) (aS : Option Addr) (cS : Nat), i ≤ PC.length ∧ iv = .int .i64 (i : Int) ∧ vS = .slice aS L.length cS ∧ Hid (RowS w3.heap.size wr (.slice aS L.length cS) L.length L) ∧ Hid ((sideE true (L.map (·.e))).length ≤ 6 ∧ (sideE false (L.map (·.e))).length ≤ 6 ∧ ∀ x ∈ L, x.e.likes.length ≤ 9000 ∧ x.e.name.size ≤ 12) ∧ Hid (readAll [] PC = readAll (L.map (·.e)) (PC.drop i))) (fun _ iv _ _ _ _ => PC.length - (intOf iv).toNat)
  case atStart => exact ⟨Below.refl _ _, 0, [], none, 0, Nat.zero_le _, rfl, rfl, ⟨World.ownsRow_nil _ _ _ _, fun x hx => by cases hx⟩, ⟨Nat.zero_le _, Nat.zero_le _, fun x hx => by cases hx⟩, rfl⟩
  case round =>
    obtain ⟨HB, i, L, aS, cS, hi, rfl, rfl, HR, HL, HRA⟩ := hrel
    by_cases hlt : i < PC.length
    · obtain ⟨p, q, eb, hc⟩ : ∃ p q, lb = some ⟨p, q, none⟩ ∧ wr.cell? ⟨p, q + i, none⟩ = some (.string (PC[i]?.getD ByteArray.empty)) := by
        obtain ⟨-, -, -, -, h5⟩ := ((unhide HI3).later (unhide HB)).1
        rcases h5 with h5 | ⟨p, q, e, -, hc⟩
        · omega
        · exact ⟨p, q, e, hc i hlt⟩
      subst eb
      have HST := hide (readAll_step (all := L.map (·.e)) hlt)
      have HP : Hid ((PC[i]?.getD ByteArray.empty).size ≤ 3000) := by
        show _ ≤ _
        rw [List.getElem?_eq_getElem hlt]
        exact unhide HPS _ (List.getElem_mem hlt)
      generalize PC[i]?.getD ByteArray.empty = ln at *
      have hi1 : (i : Int) < (PC.length : Int) := by omega
      go_wp2_with fail
      refine (wordsOf_any ln wr (by have := unhide HP; omega)).mono ?_
      rintro e w5 ⟨v5, rfl, hO5, hb5⟩
      rw [← wordsB_eq] at hO5
      obtain ⟨hwf, hwl⟩ := words_facts ln
      have HWF : Hid (∀ x ∈ wordsB ln, 0 < x.size) := fun x hx => (hwf x hx).1
      have HWL : Hid ((wordsB ln).length ≤ 9000) := by show _ ≤ _; have := unhide HP; omega
      obtain ⟨wb, wc, rfl, hI5⟩ := in9_of_own hO5 rfl (fun x hx => by have := (hwf x hx).2; have := unhide HP; unfold maxLen; omega)
      have HR5 := hide ((unhide HR).later hb5)
      have HB5 := hide ((unhide HB).trans (hb5.mono (unhide HB).size))
      have HI5 := hide hI5
      have hwc : ∀ x t, wordsB ln = x :: t → ∃ A o, wb = some ⟨A, o, none⟩ ∧ w5.cell? ⟨A, o, none⟩ = some (.string x) := fun x t e => by
        obtain ⟨h1, -, -, -, h5⟩ := hI5.1
        rcases h5 with h5 | ⟨A, o, e2, hlt2, hc2⟩
        · rw [e] at h5; simp at h5
        · have := hc2 0 (by rw [e]; simp)
          rw [e] at this
          exact ⟨A, o, e2, by simpa using this⟩
      clear hc hI5 hO5 hwf hwl hb5
      generalize hws : wordsB ln = ws at *
      cases ws with
      | nil =>
        have HE : Hid (readAll [] PC = readAll (L.map (·.e)) (PC.drop (i + 1))) := by show _ = _; rw [unhide HRA, unhide HST]; rfl
        go_wp2_with fail
        exact ⟨⟨HB5, i + 1, L, aS, cS, by omega, by go_num, rfl, HR5, HL, HE⟩, by simp [intOf]; omega⟩
      | cons x t =>
        obtain ⟨A, o, ea, hx0⟩ := hwc x t rfl
        subst ea
        have hxs : 0 < x.size := unhide HWF x (by simp)
        have htl : ((t.length : Int) + 1 == 0) = false := by simp; omega
        have hsk := skip_first (t := t) hxs
        clear hwc
        by_cases h35 : x[0].toNat = 35
        · have HE : Hid (readAll [] PC = readAll (L.map (·.e)) (PC.drop (i + 1))) := by show _ = _; rw [unhide HRA, unhide HST, if_pos (by rw [hsk]; simpa using h35)]
          clear hsk
          go_wp2_with fail
          exact ⟨⟨HB5, i + 1, L, aS, cS, by omega, by go_num, rfl, HR5, HL, HE⟩, by simp [intOf]; omega⟩
        · have hal : L.length ≤ 1000 := by have := len_sides (L.map (·.e)); have := unhide HL; simp at *; omega
          have HTK := hide (readSide_any A o _ _ (x :: t) aS L.length cS (L.map (·.e)) w5 (unhide HI5).1 (unhide HWF) (by simp) (unhide HR5).sds hal (unhide HWL))
          have HRT : Hid (readAll [] PC = match takeS (L.map (·.e)) (x :: t) with
              | .error k => .error k
              | .ok e => readAll (L.map (·.e) ++ [e]) (PC.drop (i + 1))) := by
            show _ = _
            rw [unhide HRA, unhide HST, if_neg (by rw [hsk]; simpa using h35)]
            rfl
          clear hsk
          have h35' : ¬ (x[0].toNat : Int) = 35 := by omega
          go_wp2_with fail
          refine (unhide HTK).mono ?_
          rintro e w6 ⟨hb6, ⟨k, hk, l0, nm, r0, la, ln', lc', rfl⟩ | ⟨en, la, ln', lc', hen, rfl, hI6⟩⟩
          · have hkz := take_nz hk
            have HF : Hid (readAll [] PC = .error k) := by show _ = _; rw [unhide HRT, hk]
            exact absurd ((unhide HF).symm.trans (unhide HHY)) (by simp)
          · obtain ⟨o1, o2⟩ := take_ok hen
            have o3 := take_name hen
            have HF : Hid (readAll [] PC = readAll (L.map (·.e) ++ [en]) (PC.drop (i + 1))) := by show _ = _; rw [unhide HRT, hen]
            have HB6 := hide ((unhide HB5).trans (hb6.mono (unhide HB5).size))
            have HR6 := hide ((unhide HR5).later hb6)
            have HI6 := hide hI6
            have HL6 : Hid ((sideE true ((L ++ [Sd.mk en la ln' lc']).map (·.e))).length ≤ 6 ∧ (sideE false ((L ++ [Sd.mk en la ln' lc']).map (·.e))).length ≤ 6 ∧ ∀ x ∈ L ++ [Sd.mk en la ln' lc'], x.e.likes.length ≤ 9000 ∧ x.e.name.size ≤ 12) := by
              obtain ⟨l1, l2, l3⟩ := unhide HL
              rw [List.map_append]
              obtain ⟨b1, b2⟩ := bound_next l1 l2 o1
              refine ⟨b1, b2, fun y hy => ?_⟩
              rcases List.mem_append.1 hy with q | q
              · exact l3 y q
              · rw [List.mem_singleton] at q
                subst q
                have := unhide HWL
                exact ⟨by show en.likes.length ≤ 9000; omega, o3⟩
            have HF6 : Hid (readAll [] PC = readAll ((L ++ [Sd.mk en la ln' lc']).map (·.e)) (PC.drop (i + 1))) := by rw [List.map_append]; exact HF
            obtain ⟨i0, hi0, hz0, hz1, hz2⟩ := info_parts info69
            have HI0 := hide (And.intro hi0 (And.intro hz0 (And.intro hz1 hz2)))
            have HNW := hide (new_cells (w := w6.alloc (.cells #[.bool en.left, .string en.name, .int .i64 en.room, .slice none 0 0, .slice la ln' lc'] 69)) (cs := #[.bool en.left, .string en.name, .int .i64 en.room, .slice none 0 0, .slice la ln' lc']) (ty := 69) (g := w6.heap.size + 1) (by simp))
            have hlt6 : w3.heap.size ≤ w6.heap.size := (unhide HB6).size
            clear hi0 hz0 hz1 hz2 o1 o2 o3 hen hI6 hb6 HF
            go_wp2_with (
              at_builtin
              refine wpList_append_elt _ rfl _ _ 67 69 i0 _ 5 80 rfl Tryd.underlying67 (unhide HI0).1 (unhide HI0).2.1 (unhide HI0).2.2.1 (unhide HI0).2.2.2 rfl (by decide) w3.heap.size (.slice aS L.length cS) L.length (sdFlat L) rfl (((unhide HR6).1.alloc _).alloc _) (w6.heap.size + 1) 1 (sdF (Sd.mk en la ln' lc')) rfl rfl (unhide HNW) (by simp [sdF, Value.oneCell']) (by omega) (by omega) (by simp; omega) ?_
              intro v2 w8 ho8 hg8 _
              have HR8 := hide (rowS_next (unhide HR6) (x := Sd.mk en la ln' lc') (unhide HI6) ((alloc_later w6 _).trans ((alloc_later _ _).mono (alloc_later w6 _).size)) hg8 ho8)
              have HB8 : Hid (Below w3.heap.size w3 w8) := (((unhide HB6).alloc hlt6 _).alloc (by simp; omega) _).grown hg8 (by simp; omega) (fun q hq => ((unhide HR6).1.lt q hq).1)
              obtain ⟨g2, c2, hv2⟩ := own64_slice ho8 (Nat.succ_pos _)
              subst hv2
              clear ho8 hg8)
            exact ⟨⟨HB8, i + 1, L ++ [Sd.mk en la ln' lc'], some ⟨g2, 0, none⟩, c2, by omega, by go_num, by simp, by simpa using HR8, HL6, HF6⟩, by simp [intOf]; omega⟩
    · obtain rfl : i = PC.length := by omega
      have HF : Hid (readAll [] PC = .ok (L.map (·.e))) := by show _ = _; rw [unhide HRA, List.drop_length]; rfl
      have HSE := hide hse
      clear hse
      have HEQ : Hid (L.map (·.e) = E) := by
        have := (unhide HF).symm.trans (unhide HHY)
        injection this
      have hLl : L.length ≤ 12 := by have := len_sides (L.map (·.e)); have := unhide HL; simp at *; omega
      have HSPE : Hid (∀ k, setAll E [] E = .error k → specP s = (k, [], [])) := fun k hk => by unfold specP; rw [hPC, unhide HHY]; simp only []; rw [hk]
      have HSPO : Hid (∀ Ls, setAll E [] E = .ok Ls → specP s = (0, finP true E Ls, finP false E Ls)) := fun k hk => by unfold specP; rw [hPC, unhide HHY]; simp only []; rw [hk]
      have HEL : Hid (E.length = L.length) := by show _ = _; rw [← unhide HEQ, List.length_map]
      have HLB : Hid (∀ x ∈ L, x.e.likes.length ≤ 9000 ∧ x.e.name.size ≤ 12) := (unhide HL).2.2
      have hs43 := (unhide HB).size
      have HB4 := HB
      have HR4 := HR
      clear HB HR HRA HF HL HI3 HPS HHY hn3 hlt hPC
      generalize hW4 : wr = W4 at *
      clear hW4
      have HAT : Hid (∀ (i : Nat) (h : i < L.length), E.take (i + 1) = E.take i ++ [L[i].e] ∧ E.drop i = L[i].e :: E.drop (i + 1)) := fun i h => by
        have hE : i < E.length := by rw [unhide HEL]; exact h
        have : E[i] = L[i].e := by simp [← unhide HEQ]
        rw [← this]
        exact ⟨List.take_succ_eq_append_getElem hE, List.drop_eq_getElem_cons hE⟩
      go_wp2_with fail
      go_loopw [10, 11, 12] (fun vL vR iv wt => Hid (Below W4.heap.size W4 wt) ∧ ∃ (i : Nat), i ≤ L.length ∧ iv = .int .i64 (i : Int) ∧ Hid (wt.ownsRow W4.heap.size 9 1 vL (sideE true (E.take i)).length (((sideE true (E.take i)).map (·.name)).map Value.string)) ∧ Hid (wt.ownsRow W4.heap.size 9 1 vR (sideE false (E.take i)).length (((sideE false (E.take i)).map (·.name)).map Value.string)) ∧ Hid (Ap vL vR)) (fun _ _ iv _ => L.length - (intOf iv).toNat)
      case atStart => exact ⟨Below.refl _ _, 0, Nat.zero_le _, rfl, World.ownsRow_nil _ _ _ _, World.ownsRow_nil _ _ _ _, .inl rfl⟩
      case round =>
        obtain ⟨HB2, i, hi, rfl, HVL, HVR, HAP⟩ := hrel
        have HR5 := hide ((unhide HR4).later (unhide HB2))
        have hs4 := (unhide HB2).size
        by_cases hlt : i < L.length
        · obtain ⟨g, ea, -, -, c0, c1, -, -, -⟩ := sd_cells (unhide HR5) (List.getElem?_eq_getElem hlt)
          subst ea
          have HTK := hide (unhide HAT i hlt).1
          have hsl : (sideE true (E.take i)).length ≤ 1000 ∧ (sideE false (E.take i)).length ≤ 1000 := by
            have := len_sides (E.take i)
            have h2 : (E.take i).length ≤ i := by simp; omega
            constructor <;> omega
          obtain ⟨hsl1, hsl2⟩ := hsl
          generalize L[i].e = en at *
          obtain ⟨i0, hi0, hz0, hz1, hz2⟩ := info_parts info9'
          have HI0 := hide (And.intro hi0 (And.intro hz0 (And.intro hz1 hz2)))
          have HNW := hide (new_cells (w := wr) (cs := #[.string en.name]) (ty := 9) rfl)
          clear hi0 hz0 hz1 hz2
          have hi1 : (i : Int) < (L.length : Int) := by omega
          cases hel : en.left with
          | true =>
            rw [hel] at c0
            go_wp2_with (
              at_builtin
              refine wpList_append_elt _ rfl _ _ 49 9 i0 _ 1 16 rfl Tryd.underlying49 (unhide HI0).1 (unhide HI0).2.1 (unhide HI0).2.2.1 (unhide HI0).2.2.2 rfl (by decide) W4.heap.size u10 (sideE true (E.take i)).length (((sideE true (E.take i)).map (·.name)).map Value.string) rfl ((unhide HVL).alloc _) wr.heap.size 1 [.string en.name] rfl rfl (unhide HNW) (by simp [Value.oneCell']) (by omega) (by omega) (by simp; omega) ?_
              intro v2 w8 ho8 hg8 hown8
              have HM8 : Hid (w8.ownsRow W4.heap.size 9 1 v2 (sideE true (E.take (i + 1))).length (((sideE true (E.take (i + 1))).map (·.name)).map Value.string)) := by show World.ownsRow _ _ _ _ _ _ _; rw [unhide HTK]; exact names_next true _ en hel ho8
              have HN8 : Hid (w8.ownsRow W4.heap.size 9 1 u11 (sideE false (E.take (i + 1))).length (((sideE false (E.take (i + 1))).map (·.name)).map Value.string)) := by show World.ownsRow _ _ _ _ _ _ _; rw [unhide HTK, sideE_other false _ en (by rw [hel]; simp)]; exact own_other ((unhide HVR).alloc _) (unhide HAP) hg8
              have HA8 := hide ((unhide HAP).next ((unhide HVR).alloc _) hown8)
              have HB8 : Hid (Below W4.heap.size W4 w8) := ((unhide HB2).alloc hs4 _).grown hg8 (by simp; omega) (fun q hq => ((unhide HVL).lt q hq).1)
              clear ho8 hg8 hown8)
            exact ⟨⟨HB8, i + 1, by omega, by go_num, HM8, HN8, HA8⟩, by simp [intOf]; omega⟩
          | false =>
            rw [hel] at c0
            go_wp2_with (
              at_builtin
              refine wpList_append_elt _ rfl _ _ 49 9 i0 _ 1 16 rfl Tryd.underlying49 (unhide HI0).1 (unhide HI0).2.1 (unhide HI0).2.2.1 (unhide HI0).2.2.2 rfl (by decide) W4.heap.size u11 (sideE false (E.take i)).length (((sideE false (E.take i)).map (·.name)).map Value.string) rfl ((unhide HVR).alloc _) wr.heap.size 1 [.string en.name] rfl rfl (unhide HNW) (by simp [Value.oneCell']) (by omega) (by omega) (by simp; omega) ?_
              intro v2 w8 ho8 hg8 hown8
              have HM8 : Hid (w8.ownsRow W4.heap.size 9 1 v2 (sideE false (E.take (i + 1))).length (((sideE false (E.take (i + 1))).map (·.name)).map Value.string)) := by show World.ownsRow _ _ _ _ _ _ _; rw [unhide HTK]; exact names_next false _ en hel ho8
              have HN8 : Hid (w8.ownsRow W4.heap.size 9 1 u10 (sideE true (E.take (i + 1))).length (((sideE true (E.take (i + 1))).map (·.name)).map Value.string)) := by show World.ownsRow _ _ _ _ _ _ _; rw [unhide HTK, sideE_other true _ en (by rw [hel]; simp)]; exact own_other ((unhide HVL).alloc _) (unhide HAP).sym hg8
              have HA8 := hide (((unhide HAP).sym.next ((unhide HVL).alloc _) hown8).sym)
              have HB8 : Hid (Below W4.heap.size W4 w8) := ((unhide HB2).alloc hs4 _).grown hg8 (by simp; omega) (fun q hq => ((unhide HVR).lt q hq).1)
              clear ho8 hg8 hown8)
            exact ⟨⟨HB8, i + 1, by omega, by go_num, HN8, HM8, HA8⟩, by simp [intOf]; omega⟩
        · obtain rfl : i = L.length := by omega
          have HTE : Hid (E.take L.length = E) := by show _ = _; rw [← unhide HEL]; exact List.take_length
          have hsd : (sideE true E).length ≤ 1000 ∧ (sideE false E).length ≤ 1000 := by
            have := len_sides E
            have := unhide HEL
            constructor <;> omega
          obtain ⟨hsd1, hsd2⟩ := hsd
          have HNM : Hid (∀ x ∈ E, x.name.size ≤ 12) := fun x hx => by
            rw [← unhide HEQ] at hx
            obtain ⟨y, hy, rfl⟩ := List.mem_map.1 hx
            exact (unhide HLB y hy).2
          have hns : ∀ b, ∀ s ∈ (sideE b E).map (·.name), s.size ≤ maxLen := fun b s hs => by
            obtain ⟨y, hy, rfl⟩ := List.mem_map.1 hs
            have := unhide HNM y (side_mem hy)
            unfold maxLen
            omega
          have hvl := unhide HVL
          have hvr := unhide HVR
          rw [unhide HTE] at hvl hvr
          obtain ⟨bL, cL, rfl, hIL⟩ := in9_of_own hvl (by simp) (hns true)
          obtain ⟨bR, cR, rfl, hIR⟩ := in9_of_own hvr (by simp) (hns false)
          have hs45 := (unhide HB2).size
          have HBT : Hid (∀ wt, Below wr.heap.size wr wt → Below w.heap.size w wt) := fun wt ht => unhide HBW3 wt ((unhide HB4).trans (((unhide HB2).trans (ht.mono hs45)).mono hs43))
          have HQT : Hid (∀ wt, Below wr.heap.size wr wt → wt.heap[w.heap.size]? = some (.cells #[.slice none 0 0, .slice none 0 0] 24 (0, 0))) := fun wt ht => unhide HQ3 wt ((unhide HB4).trans (((unhide HB2).trans (ht.mono hs45)).mono hs43))
          have HRT : Hid (∀ wt, Below wr.heap.size wr wt → RowS w3.heap.size wt (.slice aS L.length cS) L.length L) := fun wt ht => (unhide HR5).later ht
          have HINL : Hid (∀ wt, Below wr.heap.size wr wt → In9 wt bL (sideE true E).length cL ((sideE true E).map (·.name))) := fun wt ht => hIL.later ht
          have HINR : Hid (∀ wt, Below wr.heap.size wr wt → In9 wt bR (sideE false E).length cR ((sideE false E).map (·.name))) := fun wt ht => hIR.later ht
          have hQ5 : w.heap.size < wr.heap.size := by omega
          clear hIL hIR hvl hvr hns HVL HVR HAP HR5 HR4 HB2 HB4 HQ3 HBW3 hlt
          generalize hW5 : wr = W5 at *
          clear hW5
          obtain ⟨W6, hW6, hb6, hsz6, hG6⟩ : ∃ W6, W5.alloc (.cells #[.slice none 0 0, .slice none 0 0] 24) = W6 ∧ Below W5.heap.size W5 W6 ∧ W6.heap.size = W5.heap.size + 1 ∧ W6.heap[W5.heap.size]? = some (.cells #[.slice none 0 0, .slice none 0 0] 24 (0, 0)) := ⟨_, rfl, alloc_later _ _, by simp, heap_alloc_new _ _⟩
          have HW6 := hide hW6
          have HB6 := hide hb6
          have HG6 := hide hG6
          clear hW6 hb6 hG6
          go_wp2_with fail
          rw [unhide HW6]
          go_loopw [14, 15, 16, 17, 18, 19] (fun iv _ _ _ _ _ wt => Hid (Below W5.heap.size W5 wt) ∧ W5.heap.size + 1 ≤ wt.heap.size ∧ ∃ (q : Nat) (T : List Tr) (vP vQ : Value), q ≤ L.length ∧ iv = .int .i64 (q : Int) ∧ T.length = q ∧ Hid (wt.heap[W5.heap.size]? = some (.cells #[vP, vQ] 24 (0, 0))) ∧ Hid (wt.ownsRow (W5.heap.size + 1) 27 3 vP (sideE true (E.take q)).length (flat (sidP true (E.take q) T))) ∧ Hid (wt.ownsRow (W5.heap.size + 1) 27 3 vQ (sideE false (E.take q)).length (flat (sidP false (E.take q) T))) ∧ Hid (Ap vP vQ) ∧ Hid (∀ t ∈ T, In3 wt t.la t.ln t.lc t.L) ∧ Hid (setAll E [] E = setAll E (T.map (·.L)) (E.drop q))) (fun iv _ _ _ _ _ _ => L.length - (intOf iv).toNat)
          case atStart => exact ⟨HB6, by omega, 0, [], .slice none 0 0, .slice none 0 0, Nat.zero_le _, rfl, rfl, HG6, World.ownsRow_nil _ _ _ _, World.ownsRow_nil _ _ _ _, .inl rfl, (fun t ht => by cases ht), rfl⟩
          case round =>
            clear HW6 HB6 HG6 hsz6
            obtain ⟨HB3, hs5t, q, T, vP, vQ, hq, rfl, hTq, HG, HP, HQ, HAPP, HTT, HSA⟩ := hrel
            generalize hwt : wr = wt at *
            clear hwt
            by_cases hlt : q < L.length
            · obtain ⟨g, ea, -, hTBg, c0, c1, c2, c3, c4⟩ := sd_cells (unhide HRT wt (unhide HB3)) (List.getElem?_eq_getElem hlt)
              subst ea
              have hgt := hTBg.lt
              have hgn : ¬ g = wt.heap.size := by omega
              clear hTBg
              have HTK := hide (unhide HAT q hlt).1
              have HSS0 : Hid (setAll E [] E = match likeF ((sideE (!L[q].e.left) E).map agE0) [] L[q].e.likes with
                  | .error k => .error k
                  | .ok L => setAll E (T.map (·.L) ++ [L]) (E.drop (q + 1))) := by
                show _ = _
                rw [unhide HSA, (unhide HAT q hlt).2]
                rfl
              have hI9 := (unhide HRT wt (unhide HB3)).2 L[q] (List.getElem_mem hlt)
              have hln9 := (unhide HLB L[q] (List.getElem_mem hlt)).1
              have HLQ : Hid (L[q]? = some L[q]) := List.getElem?_eq_getElem hlt
              have hTl : T.length = (E.take q).length := by rw [List.length_take, unhide HEL]; omega
              have hsl : (sideE true (E.take q)).length ≤ 1000 ∧ (sideE false (E.take q)).length ≤ 1000 := by
                have := len_sides (E.take q)
                constructor <;> omega
              obtain ⟨hsl1, hsl2⟩ := hsl
              generalize L[q] = x at *
              obtain ⟨en, xa, xn, xc⟩ := x
              simp only at c0 c1 c2 c3 c4 hI9 hln9 HSS0 HTK
              have hxn := hI9.1.1
              subst hxn
              have HI9 := hide hI9
              clear hI9
              have hq1 : (q : Int) < (L.length : Int) := by omega
              obtain ⟨WA, hWA, hbA, hszA, hAA⟩ : ∃ WA, wt.alloc (.cells #[.string en.name, .int .i64 en.room, .slice none 0 0] 27) = WA ∧ Below wt.heap.size wt WA ∧ WA.heap.size = wt.heap.size + 1 ∧ WA.heap[wt.heap.size]? = some (.cells #[.string en.name, .int .i64 en.room, .slice none 0 0] 27 (0, 0)) := ⟨_, rfl, alloc_later _ _, by simp, heap_alloc_new _ _⟩
              have HWA := hide hWA
              have HBA := hide hbA
              have HAA := hide hAA
              clear hWA hbA hAA HSA
              cases hel : en.left with
              | true =>
                rw [hel] at c0
                have HSS : Hid (setAll E [] E = match likeF ((sideE false E).map agE0) [] en.likes with
                    | .error k => .error k
                    | .ok L => setAll E (T.map (·.L) ++ [L]) (E.drop (q + 1))) := by
                  have := unhide HSS0
                  rw [hel] at this
                  exact this
                clear HSS0
                go_wp2_with fail
                rw [unhide HWA]
                clear c0 c1 c2 c3 c4
                go_loopw [17, 18, 19] (fun kv _ _ wz => Hid (Below wt.heap.size wt wz) ∧ wt.heap.size + 1 ≤ wz.heap.size ∧ ∃ (k : Nat) (v : Value) (acc : List Int), k ≤ en.likes.length ∧ kv = .int .i64 (k : Int) ∧ acc.length = k ∧ Hid (wz.heap[wt.heap.size]? = some (.cells #[.string en.name, .int .i64 en.room, v] 27 (0, 0))) ∧ Hid (wz.ownsRow (wt.heap.size + 1) 3 1 v k (intVals acc)) ∧ Hid (likeF ((sideE false E).map agE0) [] en.likes = likeF ((sideE false E).map agE0) acc (en.likes.drop k))) (fun kv _ _ _ => en.likes.length - (intOf kv).toNat)
                case atStart => exact ⟨HBA, by omega, 0, .slice none 0 0, [], Nat.zero_le _, rfl, rfl, HAA, World.ownsRow_nil _ _ _ _, rfl⟩
                case round =>
                  clear HWA HBA HAA hszA
                  obtain ⟨HBz, hsz, k, v, acc, hk, rfl, hac, HA4, HV4, HLK⟩ := hrel
                  have HB5z := hide ((unhide HB3).trans ((unhide HBz).mono (by omega)))
                  obtain ⟨g', eg, -, -, d0, -, -, -, d4⟩ := sd_cells (unhide HRT wr (unhide HB5z)) (unhide HLQ)
                  cases eg
                  simp only [hel] at d0
                  simp only at d4
                  obtain ⟨la, lc', rfl, hI, hT⟩ := ints_of_owns (unhide HV4)
                  have HI3' : Hid (In3 wr la k lc' acc) := ⟨hI, hT⟩
                  have n0 : wr.cell? ⟨wt.heap.size, 0, none⟩ = some (.string en.name) := (cell_in' (unhide HA4) 0).1
                  have n1 : wr.cell? ⟨wt.heap.size, 1, none⟩ = some (.int .i64 en.room) := (cell_in' (unhide HA4) 1).1
                  have n2 : wr.cell? ⟨wt.heap.size, 2, none⟩ = some (.slice la k lc') := (cell_in' (unhide HA4) 2).1
                  have fn2 := (cell_in' (unhide HA4) 2).2
                  by_cases hkl : k < en.likes.length
                  · obtain ⟨sb, so, es, hsc⟩ : ∃ sb so, xa = some ⟨sb, so, none⟩ ∧ wr.cell? ⟨sb, so + k, none⟩ = some (.string (en.likes[k]?.getD ByteArray.empty)) := by
                      obtain ⟨-, -, -, -, h5⟩ := ((unhide HI9).later (unhide HBz)).1
                      rcases h5 with h5 | ⟨p, q, e, -, hc⟩
                      · omega
                      · exact ⟨p, q, e, hc k hkl⟩
                    subst es
                    have HST := hide (likeF_step (lO := (sideE false E).map agE0) (acc := acc) hkl)
                    generalize en.likes[k]?.getD ByteArray.empty = z at *
                    have HTX := hide (hasText_any bR _ cR ((sideE false E).map (·.name)) z wr ((unhide HINR wr (unhide HB5z)).strs (by omega)))
                    have CIN := fun kk => in_any la k lc' acc kk wr hI
                    have HCIN := hide CIN
                    have hk1 : (k : Int) < (en.likes.length : Int) := by omega
                    clear CIN hI hT
                    go_wp2_with fail
                    refine (unhide HTX).mono ?_
                    rintro e w6 ⟨rfl, hw6⟩
                    subst w6
                    rw [sidx_aidx _ 0 rfl]
                    generalize aidxFrom ((sideE false E).map agE0) z 0 = kk at *
                    by_cases hneg : kk < 0
                    · have HE : Hid (likeF ((sideE false E).map agE0) [] en.likes = .error 5) := by show _ = _; rw [unhide HLK, unhide HST, if_pos hneg]
                      have HSP := hide (unhide HSPE 5 (by rw [unhide HSS, unhide HE]))
                      have hQz := unhide HQT wr (unhide HB5z)
                      have z0 : wr.cell? ⟨w.heap.size, 0, none⟩ = some (.slice none 0 0) := (cell_in' hQz 0).1
                      have z1 : wr.cell? ⟨w.heap.size, 1, none⟩ = some (.slice none 0 0) := (cell_in' hQz 1).1
                      have fz0 := (cell_in' hQz 0).2
                      have fz1 := (cell_in' hQz 1).2
                      have HQz := hide hQz
                      clear hQz
                      go_wp2_with fail
                      refine bodyPost_ret (results_row_tmp rfl _ _ _ w.heap.size _ rfl (run_loadVar_row _ w.heap.size 24 24 _ (0, 0) _ (over2 (unhide HQz)) Tryd.underlying24 rfl (by show _ = some 2; kernel_rfl))) rfl ?_
                      exact ⟨none, 0, 0, [], none, 0, 0, [], by rw [unhide HSP]; rfl, ags_nil _, ags_nil _, by rw [unhide HSP]; rfl, by rw [unhide HSP]; rfl, below2 (unhide HBT wr (unhide HB5z))⟩
                    · have hd : decide (kk < 0) = false := by simp; omega
                      go_wp2_with fail
                      refine (unhide HCIN kk).mono ?_
                      rintro e w7 ⟨rfl, hw7⟩
                      subst w7
                      generalize hidx : idxFrom acc kk 0 = ix at *
                      by_cases hin : 0 ≤ ix
                      · have HE : Hid (likeF ((sideE false E).map agE0) [] en.likes = .error 6) := by show _ = _; rw [unhide HLK, unhide HST, if_neg (by omega), if_pos hin]
                        have hd2 : decide (0 ≤ ix) = true := by simp; omega
                        have HSP := hide (unhide HSPE 6 (by rw [unhide HSS, unhide HE]))
                        have hQz := unhide HQT wr (unhide HB5z)
                        have z0 : wr.cell? ⟨w.heap.size, 0, none⟩ = some (.slice none 0 0) := (cell_in' hQz 0).1
                        have z1 : wr.cell? ⟨w.heap.size, 1, none⟩ = some (.slice none 0 0) := (cell_in' hQz 1).1
                        have fz0 := (cell_in' hQz 0).2
                        have fz1 := (cell_in' hQz 1).2
                        have HQz := hide hQz
                        clear hQz
                        go_wp2_with fail
                        refine bodyPost_ret (results_row_tmp rfl _ _ _ w.heap.size _ rfl (run_loadVar_row _ w.heap.size 24 24 _ (0, 0) _ (over2 (unhide HQz)) Tryd.underlying24 rfl (by show _ = some 2; kernel_rfl))) rfl ?_
                        exact ⟨none, 0, 0, [], none, 0, 0, [], by rw [unhide HSP]; rfl, ags_nil _, ags_nil _, by rw [unhide HSP]; rfl, by rw [unhide HSP]; rfl, below2 (unhide HBT wr (unhide HB5z))⟩
                      · have HE : Hid (likeF ((sideE false E).map agE0) [] en.likes = likeF ((sideE false E).map agE0) (acc ++ [kk]) (en.likes.drop (k + 1))) := by show _ = _; rw [unhide HLK, unhide HST, if_neg (by omega), if_neg (by omega)]
                        have hd2 : decide (0 ≤ ix) = false := by simp; omega
                        obtain ⟨i0, hi0, hz0, hz1, hz2⟩ := info_parts info3'
                        have HI0 := hide (And.intro hi0 (And.intro hz0 (And.intro hz1 hz2)))
                        have HNW := hide (new_cells (w := wr) (cs := #[.int .i64 kk]) (ty := 3) rfl)
                        clear hi0 hz0 hz1 hz2 hsc d0 d4 HTX HCIN
                        go_wp2_with (
                          at_builtin
                          refine wpList_append_elt _ rfl _ _ 25 3 i0 _ 1 8 rfl Tryd.underlying25 (unhide HI0).1 (unhide HI0).2.1 (unhide HI0).2.2.1 (unhide HI0).2.2.2 rfl (by decide) (wt.heap.size + 1) (.slice la k lc') k (intVals acc) rfl ((unhide HV4).alloc _) wr.heap.size 1 [.int .i64 kk] rfl rfl (unhide HNW) (by simp [Value.oneCell']) (by omega) (by omega) (by simp; omega) ?_
                          intro v2 w8 ho8 hg8 _
                          have hA8 : w8.heap[wt.heap.size]? = some (.cells #[.string en.name, .int .i64 en.room, .slice la k lc'] 27 (0, 0)) := ((hg8.block wt.heap.size (by simp; omega) (fun e => by have := ((unhide HV4).lt _ e.symm).1; omega)).trans ((alloc_later wr _).block wt.heap.size (by omega))).trans (unhide HA4)
                          have p2 : w8.cell? ⟨wt.heap.size, 2, none⟩ = some (.slice la k lc') := (cell_in' hA8 2).1
                          have p3 := (cell_in' hA8 2).2
                          have HA8 := hide hA8
                          obtain ⟨g2, c2, hv2⟩ := own64_slice ho8 (Nat.succ_pos k)
                          subst hv2
                          have HO8 := hide ho8
                          have hs8 : wt.heap.size + 1 ≤ w8.heap.size := by have := hg8.size; simp at this; omega
                          have HB8 : Hid (Below wt.heap.size wt w8) := ((unhide HBz).alloc (by omega) (.cells #[.int .i64 kk] 3)).grown hg8 (by simp; omega) (fun q hq => by have := ((unhide HV4).lt q hq).1; omega)
                          clear hA8 ho8 hg8)
                        exact ⟨⟨(unhide HB8).setCell (p := ⟨wt.heap.size, 2, none⟩) (Nat.le_refl _) _, by simp; omega, k + 1, .slice (some ⟨g2, 0, none⟩) (k + 1) c2, acc ++ [kk], by omega, by go_num, by simp; omega, by show _ = _; rw [heap_setCell_same _ _ _ _ _ _ (unhide HA8)]; rfl, by show World.ownsRow _ _ _ _ _ _ _; rw [intVals_snoc]; exact own_set (unhide HO8) (by omega), HE⟩, by simp [intOf]; omega⟩
                  · obtain rfl : k = en.likes.length := by omega
                    have HE : Hid (likeF ((sideE false E).map agE0) [] en.likes = .ok acc) := by show _ = _; rw [unhide HLK, List.drop_length]; rfl
                    have HE2 : Hid (setAll E [] E = setAll E ((T ++ [Tr.mk la en.likes.length lc' acc]).map (·.L)) (E.drop (q + 1))) := by show _ = _; rw [unhide HSS, unhide HE, List.map_append]; rfl
                    have HG4 : Hid (wr.heap[W5.heap.size]? = some (.cells #[vP, vQ] 24 (0, 0))) := ((unhide HBz).block W5.heap.size (by omega)).trans (unhide HG)
                    have m0 : wr.cell? ⟨W5.heap.size, 0, none⟩ = some vP := (cell_in' (unhide HG4) 0).1
                    have m1 : wr.cell? ⟨W5.heap.size, 1, none⟩ = some vQ := (cell_in' (unhide HG4) 1).1
                    have HPz := hide (owns_later (unhide HP) (unhide HBz))
                    have HQz' := hide (owns_later (unhide HQ) (unhide HBz))
                    have HTz : Hid (∀ t ∈ T ++ [Tr.mk la en.likes.length lc' acc], In3 wr t.la t.ln t.lc t.L) := fun t ht => by
                      rcases List.mem_append.1 ht with q | q
                      · exact (unhide HTT t q).later (unhide HBz)
                      · rw [List.mem_singleton] at q
                        subst q
                        exact unhide HI3'
                    obtain ⟨i0, hi0, hz0, hz1, hz2⟩ := info_parts info27'
                    have HI0 := hide (And.intro hi0 (And.intro hz0 (And.intro hz1 hz2)))
                    have HNW := hide (new_cells (w := wr) (cs := #[.string en.name, .int .i64 en.room, .slice la en.likes.length lc']) (ty := 27) rfl)
                    clear hi0 hz0 hz1 hz2 hI hT HV4 HA4 HLK HSS
                    go_wp2_with (
                      at_builtin
                      refine wpList_append_elt _ rfl _ _ 22 27 i0 _ 3 48 rfl Tryd.underlying22 (unhide HI0).1 (unhide HI0).2.1 (unhide HI0).2.2.1 (unhide HI0).2.2.2 rfl (by decide) (W5.heap.size + 1) vP (sideE true (E.take q)).length (flat (sidP true (E.take q) T)) rfl ((unhide HPz).alloc _) wr.heap.size 1 [.string en.name, .int .i64 en.room, .slice la en.likes.length lc'] rfl rfl (unhide HNW) (by simp [Value.oneCell']) (by omega) (by omega) (by simp; omega) ?_
                      intro v2 w8 ho8 hg8 hown8
                      have hG8 : w8.heap[W5.heap.size]? = some (.cells #[vP, vQ] 24 (0, 0)) := ((hg8.block W5.heap.size (by simp; omega) (fun e => by have := ((unhide HPz).lt _ e.symm).1; omega)).trans ((alloc_later wr _).block W5.heap.size (by omega))).trans (unhide HG4)
                      have p2 : w8.cell? ⟨W5.heap.size, 0, none⟩ = some vP := (cell_in' hG8 0).1
                      have p3 := (cell_in' hG8 0).2
                      have HG8 := hide hG8
                      have HM8 : Hid (w8.ownsRow (W5.heap.size + 1) 27 3 v2 (sideE true (E.take (q + 1))).length (flat (sidP true (E.take (q + 1)) (T ++ [Tr.mk la en.likes.length lc' acc])))) := by
                        show World.ownsRow _ _ _ _ _ _ _
                        rw [unhide HTK, sideE_same true _ en hel, sidP_same true _ T en _ hTl hel, flat_snoc, List.length_append]
                        exact ho8
                      have HN8 : Hid (w8.ownsRow (W5.heap.size + 1) 27 3 vQ (sideE false (E.take (q + 1))).length (flat (sidP false (E.take (q + 1)) (T ++ [Tr.mk la en.likes.length lc' acc])))) := by
                        show World.ownsRow _ _ _ _ _ _ _
                        rw [unhide HTK, sideE_other false _ en (by rw [hel]; simp), sidP_other false _ T en _ hTl (by rw [hel]; simp)]
                        exact own_other ((unhide HQz').alloc _) (unhide HAPP) hg8
                      have HA8 := hide ((unhide HAPP).next ((unhide HQz').alloc _) hown8)
                      have HT8 : Hid (∀ t ∈ T ++ [Tr.mk la en.likes.length lc' acc], In3 w8 t.la t.ln t.lc t.L) := fun t ht => ((unhide HTz t ht).later (alloc_later wr _)).kept ((unhide HPz).alloc _) (by decide) hg8
                      obtain ⟨g2, c2, hv2⟩ := own64_slice ho8 (Nat.succ_pos _)
                      subst hv2
                      have hs8 : W5.heap.size + 1 ≤ w8.heap.size := by have := hg8.size; simp at this; omega
                      have HB8 : Hid (Below W5.heap.size W5 w8) := ((unhide HB5z).alloc (by omega) _).grown hg8 (by simp; omega) (fun q hq => by have := ((unhide HPz).lt q hq).1; omega)
                      clear hG8 ho8 hg8 hown8)
                    exact ⟨⟨(unhide HB8).setCell (p := ⟨W5.heap.size, 0, none⟩) (Nat.le_refl _) _, by simp; omega, q + 1, T ++ [Tr.mk la en.likes.length lc' acc], (.slice (some ⟨g2, 0, none⟩) ((sideE true (E.take q)).length + 1) c2), vQ, by omega, by go_num, by simp; omega, by show _ = _; rw [heap_setCell_same _ _ _ _ _ _ (unhide HG8)]; rfl, own_set (unhide HM8) (by omega), own_set (unhide HN8) (by omega), HA8, fun t ht => (unhide HT8 t ht).set ⟨_, _, unhide HG8⟩ (by decide), HE2⟩, by simp [intOf]; omega⟩
              | false =>
                rw [hel] at c0
                have HSS : Hid (setAll E [] E = match likeF ((sideE true E).map agE0) [] en.likes with
                    | .error k => .error k
                    | .ok L => setAll E (T.map (·.L) ++ [L]) (E.drop (q + 1))) := by
                  have := unhide HSS0
                  rw [hel] at this
                  exact this
                clear HSS0
                go_wp2_with fail
                rw [unhide HWA]
                clear c0 c1 c2 c3 c4
                go_loopw [17, 18, 19] (fun kv _ _ wz => Hid (Below wt.heap.size wt wz) ∧ wt.heap.size + 1 ≤ wz.heap.size ∧ ∃ (k : Nat) (v : Value) (acc : List Int), k ≤ en.likes.length ∧ kv = .int .i64 (k : Int) ∧ acc.length = k ∧ Hid (wz.heap[wt.heap.size]? = some (.cells #[.string en.name, .int .i64 en.room, v] 27 (0, 0))) ∧ Hid (wz.ownsRow (wt.heap.size + 1) 3 1 v k (intVals acc)) ∧ Hid (likeF ((sideE true E).map agE0) [] en.likes = likeF ((sideE true E).map agE0) acc (en.likes.drop k))) (fun kv _ _ _ => en.likes.length - (intOf kv).toNat)
                case atStart => exact ⟨HBA, by omega, 0, .slice none 0 0, [], Nat.zero_le _, rfl, rfl, HAA, World.ownsRow_nil _ _ _ _, rfl⟩
                case round =>
                  clear HWA HBA HAA hszA
                  obtain ⟨HBz, hsz, k, v, acc, hk, rfl, hac, HA4, HV4, HLK⟩ := hrel
                  have HB5z := hide ((unhide HB3).trans ((unhide HBz).mono (by omega)))
                  obtain ⟨g', eg, -, -, d0, -, -, -, d4⟩ := sd_cells (unhide HRT wr (unhide HB5z)) (unhide HLQ)
                  cases eg
                  simp only [hel] at d0
                  simp only at d4
                  obtain ⟨la, lc', rfl, hI, hT⟩ := ints_of_owns (unhide HV4)
                  have HI3' : Hid (In3 wr la k lc' acc) := ⟨hI, hT⟩
                  have n0 : wr.cell? ⟨wt.heap.size, 0, none⟩ = some (.string en.name) := (cell_in' (unhide HA4) 0).1
                  have n1 : wr.cell? ⟨wt.heap.size, 1, none⟩ = some (.int .i64 en.room) := (cell_in' (unhide HA4) 1).1
                  have n2 : wr.cell? ⟨wt.heap.size, 2, none⟩ = some (.slice la k lc') := (cell_in' (unhide HA4) 2).1
                  have fn2 := (cell_in' (unhide HA4) 2).2
                  by_cases hkl : k < en.likes.length
                  · obtain ⟨sb, so, es, hsc⟩ : ∃ sb so, xa = some ⟨sb, so, none⟩ ∧ wr.cell? ⟨sb, so + k, none⟩ = some (.string (en.likes[k]?.getD ByteArray.empty)) := by
                      obtain ⟨-, -, -, -, h5⟩ := ((unhide HI9).later (unhide HBz)).1
                      rcases h5 with h5 | ⟨p, q, e, -, hc⟩
                      · omega
                      · exact ⟨p, q, e, hc k hkl⟩
                    subst es
                    have HST := hide (likeF_step (lO := (sideE true E).map agE0) (acc := acc) hkl)
                    generalize en.likes[k]?.getD ByteArray.empty = z at *
                    have HTX := hide (hasText_any bL _ cL ((sideE true E).map (·.name)) z wr ((unhide HINL wr (unhide HB5z)).strs (by omega)))
                    have CIN := fun kk => in_any la k lc' acc kk wr hI
                    have HCIN := hide CIN
                    have hk1 : (k : Int) < (en.likes.length : Int) := by omega
                    clear CIN hI hT
                    go_wp2_with fail
                    refine (unhide HTX).mono ?_
                    rintro e w6 ⟨rfl, hw6⟩
                    subst w6
                    rw [sidx_aidx _ 0 rfl]
                    generalize aidxFrom ((sideE true E).map agE0) z 0 = kk at *
                    by_cases hneg : kk < 0
                    · have HE : Hid (likeF ((sideE true E).map agE0) [] en.likes = .error 5) := by show _ = _; rw [unhide HLK, unhide HST, if_pos hneg]
                      have HSP := hide (unhide HSPE 5 (by rw [unhide HSS, unhide HE]))
                      have hQz := unhide HQT wr (unhide HB5z)
                      have z0 : wr.cell? ⟨w.heap.size, 0, none⟩ = some (.slice none 0 0) := (cell_in' hQz 0).1
                      have z1 : wr.cell? ⟨w.heap.size, 1, none⟩ = some (.slice none 0 0) := (cell_in' hQz 1).1
                      have fz0 := (cell_in' hQz 0).2
                      have fz1 := (cell_in' hQz 1).2
                      have HQz := hide hQz
                      clear hQz
                      go_wp2_with fail
                      refine bodyPost_ret (results_row_tmp rfl _ _ _ w.heap.size _ rfl (run_loadVar_row _ w.heap.size 24 24 _ (0, 0) _ (over2 (unhide HQz)) Tryd.underlying24 rfl (by show _ = some 2; kernel_rfl))) rfl ?_
                      exact ⟨none, 0, 0, [], none, 0, 0, [], by rw [unhide HSP]; rfl, ags_nil _, ags_nil _, by rw [unhide HSP]; rfl, by rw [unhide HSP]; rfl, below2 (unhide HBT wr (unhide HB5z))⟩
                    · have hd : decide (kk < 0) = false := by simp; omega
                      go_wp2_with fail
                      refine (unhide HCIN kk).mono ?_
                      rintro e w7 ⟨rfl, hw7⟩
                      subst w7
                      generalize hidx : idxFrom acc kk 0 = ix at *
                      by_cases hin : 0 ≤ ix
                      · have HE : Hid (likeF ((sideE true E).map agE0) [] en.likes = .error 6) := by show _ = _; rw [unhide HLK, unhide HST, if_neg (by omega), if_pos hin]
                        have hd2 : decide (0 ≤ ix) = true := by simp; omega
                        have HSP := hide (unhide HSPE 6 (by rw [unhide HSS, unhide HE]))
                        have hQz := unhide HQT wr (unhide HB5z)
                        have z0 : wr.cell? ⟨w.heap.size, 0, none⟩ = some (.slice none 0 0) := (cell_in' hQz 0).1
                        have z1 : wr.cell? ⟨w.heap.size, 1, none⟩ = some (.slice none 0 0) := (cell_in' hQz 1).1
                        have fz0 := (cell_in' hQz 0).2
                        have fz1 := (cell_in' hQz 1).2
                        have HQz := hide hQz
                        clear hQz
                        go_wp2_with fail
                        refine bodyPost_ret (results_row_tmp rfl _ _ _ w.heap.size _ rfl (run_loadVar_row _ w.heap.size 24 24 _ (0, 0) _ (over2 (unhide HQz)) Tryd.underlying24 rfl (by show _ = some 2; kernel_rfl))) rfl ?_
                        exact ⟨none, 0, 0, [], none, 0, 0, [], by rw [unhide HSP]; rfl, ags_nil _, ags_nil _, by rw [unhide HSP]; rfl, by rw [unhide HSP]; rfl, below2 (unhide HBT wr (unhide HB5z))⟩
                      · have HE : Hid (likeF ((sideE true E).map agE0) [] en.likes = likeF ((sideE true E).map agE0) (acc ++ [kk]) (en.likes.drop (k + 1))) := by show _ = _; rw [unhide HLK, unhide HST, if_neg (by omega), if_neg (by omega)]
                        have hd2 : decide (0 ≤ ix) = false := by simp; omega
                        obtain ⟨i0, hi0, hz0, hz1, hz2⟩ := info_parts info3'
                        have HI0 := hide (And.intro hi0 (And.intro hz0 (And.intro hz1 hz2)))
                        have HNW := hide (new_cells (w := wr) (cs := #[.int .i64 kk]) (ty := 3) rfl)
                        clear hi0 hz0 hz1 hz2 hsc d0 d4 HTX HCIN
                        go_wp2_with (
                          at_builtin
                          refine wpList_append_elt _ rfl _ _ 25 3 i0 _ 1 8 rfl Tryd.underlying25 (unhide HI0).1 (unhide HI0).2.1 (unhide HI0).2.2.1 (unhide HI0).2.2.2 rfl (by decide) (wt.heap.size + 1) (.slice la k lc') k (intVals acc) rfl ((unhide HV4).alloc _) wr.heap.size 1 [.int .i64 kk] rfl rfl (unhide HNW) (by simp [Value.oneCell']) (by omega) (by omega) (by simp; omega) ?_
                          intro v2 w8 ho8 hg8 _
                          have hA8 : w8.heap[wt.heap.size]? = some (.cells #[.string en.name, .int .i64 en.room, .slice la k lc'] 27 (0, 0)) := ((hg8.block wt.heap.size (by simp; omega) (fun e => by have := ((unhide HV4).lt _ e.symm).1; omega)).trans ((alloc_later wr _).block wt.heap.size (by omega))).trans (unhide HA4)
                          have p2 : w8.cell? ⟨wt.heap.size, 2, none⟩ = some (.slice la k lc') := (cell_in' hA8 2).1
                          have p3 := (cell_in' hA8 2).2
                          have HA8 := hide hA8
                          obtain ⟨g2, c2, hv2⟩ := own64_slice ho8 (Nat.succ_pos k)
                          subst hv2
                          have HO8 := hide ho8
                          have hs8 : wt.heap.size + 1 ≤ w8.heap.size := by have := hg8.size; simp at this; omega
                          have HB8 : Hid (Below wt.heap.size wt w8) := ((unhide HBz).alloc (by omega) (.cells #[.int .i64 kk] 3)).grown hg8 (by simp; omega) (fun q hq => by have := ((unhide HV4).lt q hq).1; omega)
                          clear hA8 ho8 hg8)
                        exact ⟨⟨(unhide HB8).setCell (p := ⟨wt.heap.size, 2, none⟩) (Nat.le_refl _) _, by simp; omega, k + 1, .slice (some ⟨g2, 0, none⟩) (k + 1) c2, acc ++ [kk], by omega, by go_num, by simp; omega, by show _ = _; rw [heap_setCell_same _ _ _ _ _ _ (unhide HA8)]; rfl, by show World.ownsRow _ _ _ _ _ _ _; rw [intVals_snoc]; exact own_set (unhide HO8) (by omega), HE⟩, by simp [intOf]; omega⟩
                  · obtain rfl : k = en.likes.length := by omega
                    have HE : Hid (likeF ((sideE true E).map agE0) [] en.likes = .ok acc) := by show _ = _; rw [unhide HLK, List.drop_length]; rfl
                    have HE2 : Hid (setAll E [] E = setAll E ((T ++ [Tr.mk la en.likes.length lc' acc]).map (·.L)) (E.drop (q + 1))) := by show _ = _; rw [unhide HSS, unhide HE, List.map_append]; rfl
                    have HG4 : Hid (wr.heap[W5.heap.size]? = some (.cells #[vP, vQ] 24 (0, 0))) := ((unhide HBz).block W5.heap.size (by omega)).trans (unhide HG)
                    have m0 : wr.cell? ⟨W5.heap.size, 0, none⟩ = some vP := (cell_in' (unhide HG4) 0).1
                    have m1 : wr.cell? ⟨W5.heap.size, 1, none⟩ = some vQ := (cell_in' (unhide HG4) 1).1
                    have HPz := hide (owns_later (unhide HP) (unhide HBz))
                    have HQz' := hide (owns_later (unhide HQ) (unhide HBz))
                    have HTz : Hid (∀ t ∈ T ++ [Tr.mk la en.likes.length lc' acc], In3 wr t.la t.ln t.lc t.L) := fun t ht => by
                      rcases List.mem_append.1 ht with q | q
                      · exact (unhide HTT t q).later (unhide HBz)
                      · rw [List.mem_singleton] at q
                        subst q
                        exact unhide HI3'
                    obtain ⟨i0, hi0, hz0, hz1, hz2⟩ := info_parts info27'
                    have HI0 := hide (And.intro hi0 (And.intro hz0 (And.intro hz1 hz2)))
                    have HNW := hide (new_cells (w := wr) (cs := #[.string en.name, .int .i64 en.room, .slice la en.likes.length lc']) (ty := 27) rfl)
                    clear hi0 hz0 hz1 hz2 hI hT HV4 HA4 HLK HSS
                    go_wp2_with (
                      at_builtin
                      refine wpList_append_elt _ rfl _ _ 22 27 i0 _ 3 48 rfl Tryd.underlying22 (unhide HI0).1 (unhide HI0).2.1 (unhide HI0).2.2.1 (unhide HI0).2.2.2 rfl (by decide) (W5.heap.size + 1) vQ (sideE false (E.take q)).length (flat (sidP false (E.take q) T)) rfl ((unhide HQz').alloc _) wr.heap.size 1 [.string en.name, .int .i64 en.room, .slice la en.likes.length lc'] rfl rfl (unhide HNW) (by simp [Value.oneCell']) (by omega) (by omega) (by simp; omega) ?_
                      intro v2 w8 ho8 hg8 hown8
                      have hG8 : w8.heap[W5.heap.size]? = some (.cells #[vP, vQ] 24 (0, 0)) := ((hg8.block W5.heap.size (by simp; omega) (fun e => by have := ((unhide HQz').lt _ e.symm).1; omega)).trans ((alloc_later wr _).block W5.heap.size (by omega))).trans (unhide HG4)
                      have p2 : w8.cell? ⟨W5.heap.size, 1, none⟩ = some vQ := (cell_in' hG8 1).1
                      have p3 := (cell_in' hG8 1).2
                      have HG8 := hide hG8
                      have HM8 : Hid (w8.ownsRow (W5.heap.size + 1) 27 3 v2 (sideE false (E.take (q + 1))).length (flat (sidP false (E.take (q + 1)) (T ++ [Tr.mk la en.likes.length lc' acc])))) := by
                        show World.ownsRow _ _ _ _ _ _ _
                        rw [unhide HTK, sideE_same false _ en hel, sidP_same false _ T en _ hTl hel, flat_snoc, List.length_append]
                        exact ho8
                      have HN8 : Hid (w8.ownsRow (W5.heap.size + 1) 27 3 vP (sideE true (E.take (q + 1))).length (flat (sidP true (E.take (q + 1)) (T ++ [Tr.mk la en.likes.length lc' acc])))) := by
                        show World.ownsRow _ _ _ _ _ _ _
                        rw [unhide HTK, sideE_other true _ en (by rw [hel]; simp), sidP_other true _ T en _ hTl (by rw [hel]; simp)]
                        exact own_other ((unhide HPz).alloc _) (unhide HAPP).sym hg8
                      have HA8 := hide (((unhide HAPP).sym.next ((unhide HPz).alloc _) hown8).sym)
                      have HT8 : Hid (∀ t ∈ T ++ [Tr.mk la en.likes.length lc' acc], In3 w8 t.la t.ln t.lc t.L) := fun t ht => ((unhide HTz t ht).later (alloc_later wr _)).kept ((unhide HQz').alloc _) (by decide) hg8
                      obtain ⟨g2, c2, hv2⟩ := own64_slice ho8 (Nat.succ_pos _)
                      subst hv2
                      have hs8 : W5.heap.size + 1 ≤ w8.heap.size := by have := hg8.size; simp at this; omega
                      have HB8 : Hid (Below W5.heap.size W5 w8) := ((unhide HB5z).alloc (by omega) _).grown hg8 (by simp; omega) (fun q hq => by have := ((unhide HQz').lt q hq).1; omega)
                      clear hG8 ho8 hg8 hown8)
                    exact ⟨⟨(unhide HB8).setCell (p := ⟨W5.heap.size, 1, none⟩) (Nat.le_refl _) _, by simp; omega, q + 1, T ++ [Tr.mk la en.likes.length lc' acc], vP, (.slice (some ⟨g2, 0, none⟩) ((sideE false (E.take q)).length + 1) c2), by omega, by go_num, by simp; omega, by show _ = _; rw [heap_setCell_same _ _ _ _ _ _ (unhide HG8)]; rfl, own_set (unhide HN8) (by omega), own_set (unhide HM8) (by omega), HA8, fun t ht => (unhide HT8 t ht).set ⟨_, _, unhide HG8⟩ (by decide), HE2⟩, by simp [intOf]; omega⟩
            · obtain rfl : q = L.length := by omega
              have hdp : E.drop L.length = [] := by rw [← unhide HEL]; exact List.drop_length
              have h1 := unhide HSA
              rw [hdp] at h1
              exact absurd (h1.symm.trans (unhide HSE)) (by simp [setAll])
end Go.Proofs.YtajdijjecojdhaaDoor
