import Derived.Test.YtajdijjecojdhaaDoorWGA
namespace Go.Proofs.YtajdijjecojdhaaDoor
open Go.RowKit
theorem Rd.later {R : Nat} {w w' : World} {all : List Ent} (h : Rd R w all) (hb : Below w.heap.size w w') : Rd R w' all := by
  obtain ⟨aL, cL, aR, cR, vN, NL, h1, h2, h3, h4, h5, h6, h7⟩ := h
  exact ⟨aL, cL, aR, cR, vN, NL, (hb.block R (Array.getElem?_eq_some_iff.1 h1).1).trans h1, owns_later h2 hb, owns_later h3 hb, h4, ⟨owns_later h5.1 hb, fun x hx => (h5.2 x hx).later hb⟩, h6, h7⟩
theorem RdS.later {R : Nat} {w w' : World} {all : List Ent} {vN : Value} {NL : List Ln} {T : List Tr} (h : RdS R w all vN NL T) (hb : Below w.heap.size w w') : RdS R w' all vN NL T := by
  obtain ⟨aL, cL, aR, cR, h1, h2, h3, h4, h5, h6, h7, h8⟩ := h
  exact ⟨aL, cL, aR, cR, (hb.block R (Array.getElem?_eq_some_iff.1 h1).1).trans h1, owns_later h2 hb, owns_later h3 hb, h4, ⟨owns_later h5.1 hb, fun x hx => (h5.2 x hx).later hb⟩, h6, h7, fun t ht => (h8 t ht).block hb.size (fun b hbt => hb.block b hbt.lt)⟩
theorem ags_nil (w : World) : Ags w none 0 0 [] := ⟨rfl, Nat.le_refl _, by unfold maxLen; omega, fun g hg => (by cases hg), .inl rfl⟩
theorem setAll_step {all : List Ent} {acc : List (List Int)} {post : List Ent} {e : Ent} : setAll all acc (e :: post) = match likeF ((sideE (!e.left) all).map agE0) [] e.likes with
    | .error k => .error k
    | .ok L => setAll all (acc ++ [L]) post := rfl
theorem plain_sid (b : Bool) : ∀ (all : List Ent) (T : List Tr), T.length = all.length → plainA (sidT b all T) = finP b all (T.map (·.L)) := by
  intro all T h
  unfold sidT finP plainA
  rw [h, Nat.sub_self, List.replicate_zero, List.append_nil, List.map_map]
  induction all generalizing T with
  | nil => simp
  | cons e l ih =>
    cases T with
    | nil => simp at h
    | cons t T =>
      have := ih T (by simpa using h)
      simp only [List.zip_cons_cons, List.filter_cons, List.map_cons]
      cases (e.left == b)
      · simpa using this
      · simp only [if_true, List.map_cons, this]
        rfl
theorem ln_cells {lo : Nat} {w : World} {g n cap : Nat} {NL : List Ln} (h : RowN lo w (.slice (some ⟨g, 0, none⟩) n cap) n NL) {q : Nat} {x : Ln} (hx : NL[q]? = some x) : w.cell? ⟨g, q * 3, none⟩ = some (.int .i64 (x.side : Int)) ∧ w.cell? ⟨g, q * 3 + 1, none⟩ = some (.int .i64 (x.place : Int)) ∧ w.cell? ⟨g, q * 3 + 2, none⟩ = some (.slice x.wa x.wn x.wc) := by
  have hl : NL.length = n := by have := h.1.1; rw [lnFlat_length] at this; omega
  have hq : q < NL.length := (List.getElem?_eq_some_iff.1 hx).1
  have key : ∀ (l : List Ln) (q : Nat) (x : Ln), l[q]? = some x → (lnFlat l)[q * 3]? = some (.int .i64 (x.side : Int)) ∧ (lnFlat l)[q * 3 + 1]? = some (.int .i64 (x.place : Int)) ∧ (lnFlat l)[q * 3 + 2]? = some (.slice x.wa x.wn x.wc) := by
    intro l
    induction l with
    | nil => intro q x hx; simp at hx
    | cons y l ih =>
      intro q x hx
      cases q with
      | zero => simp at hx; subst hx; simp [lnFlat, lnF]
      | succ q =>
        obtain ⟨i1, i2, i3⟩ := ih q x (by simpa using hx)
        have e : lnFlat (y :: l) = lnF y ++ lnFlat l := by simp [lnFlat]
        rw [e]
        refine ⟨?_, ?_, ?_⟩
        · rw [List.getElem?_append_right (by simp [lnF]; omega)]
          rw [show (q + 1) * 3 - (lnF y).length = q * 3 by simp [lnF]; omega]; exact i1
        · rw [List.getElem?_append_right (by simp [lnF]; omega)]
          rw [show (q + 1) * 3 + 1 - (lnF y).length = q * 3 + 1 by simp [lnF]; omega]; exact i2
        · rw [List.getElem?_append_right (by simp [lnF]; omega)]
          rw [show (q + 1) * 3 + 2 - (lnF y).length = q * 3 + 2 by simp [lnF]; omega]; exact i3
  obtain ⟨i1, i2, i3⟩ := key NL q x hx
  exact ⟨by rw [h.1.cellAt (q * 3) (by omega)]; exact i1, by rw [h.1.cellAt (q * 3 + 1) (by omega)]; exact i2, by rw [h.1.cellAt (q * 3 + 2) (by omega)]; exact i3⟩
theorem readAll_step {all : List Ent} {l : List ByteArray} {i : Nat} (h : i < l.length) : readAll all (l.drop i) = if skipB (wordsB (l[i]?.getD ByteArray.empty)) then readAll all (l.drop (i + 1)) else match takeS all (wordsB (l[i]?.getD ByteArray.empty)) with
    | .error k => .error k
    | .ok e => readAll (all ++ [e]) (l.drop (i + 1)) := by
  rw [List.drop_eq_getElem_cons h, List.getElem?_eq_getElem h]
  rfl
attribute [local go_sem] Oper.semAt_some
set_option maxRecDepth 100000 in
set_option maxHeartbeats 8000000 in
theorem parse_any (s : ByteArray) (w : World) (hs : s.size ≤ 3000) (hg : Glob w) : Calls Tryd.prog 13 #[.string s] w fun e w' =>
    ∃ (aL : Option Addr) (nL cL : Nat) (lL : List Ag) (aR : Option Addr) (nR cR : Nat) (lR : List Ag), e = .returned (.tuple #[.agg #[.slice aL nL cL, .slice aR nR cR], .int .i64 (specP s).1]) ∧
      Ags w' aL nL cL lL ∧ Ags w' aR nR cR lR ∧ plainA lL = (specP s).2.1 ∧ plainA lR = (specP s).2.2 ∧ Below w.heap.size w w' := by
  have hmf : ∀ (fn : Fn) (first cap : Array Value) (w : World), (Instr.makeFunc fn first cap).run Tryd.prog w = .ok (.func fn first cap) w := fun _ _ _ _ => rfl
  have hd1 : decide ((s.size : Int) ≤ 20000) = true := by simp; omega
  go_enter_defers Tryd.func13, Tryd.ntmps13
  go_wp2_with fail
  refine (need_yes 2 _).mono ?_
  rintro e w1 ⟨rfl, hw1⟩
  subst w1
  go_wp2_with fail
  obtain ⟨⟨gm, hgm⟩, gev, hgev, hgev2⟩ := hg
  obtain ⟨W2, hW2, hb2, hsz2, hP, hE, hR⟩ : ∃ W2, ((w.alloc (.cells #[.slice none 0 0, .slice none 0 0] 24)).alloc (.cells #[.int .i64 0] 29)).alloc (.cells #[.slice none 0 0, .slice none 0 0, .slice none 0 0] 58) = W2 ∧ Below w.heap.size w W2 ∧ W2.heap.size = w.heap.size + 1 + 1 + 1 ∧ W2.heap[w.heap.size]? = some (.cells #[.slice none 0 0, .slice none 0 0] 24 (0, 0)) ∧ W2.heap[w.heap.size + 1]? = some (.cells #[.int .i64 0] 29 (0, 0)) ∧ W2.heap[w.heap.size + 1 + 1]? = some (.cells #[.slice none 0 0, .slice none 0 0, .slice none 0 0] 58 (0, 0)) := by
    refine ⟨_, rfl, by go_grown, by simp, ?_, ?_, ?_⟩
    · rw [Below.heap_alloc _ _ _ (by simp; omega), Below.heap_alloc _ _ _ (by simp)]; exact heap_alloc_new _ _
    · rw [Below.heap_alloc _ _ _ (by simp)]
      rw [show w.heap.size + 1 = (w.alloc (.cells #[.slice none 0 0, .slice none 0 0] 24)).heap.size by simp]
      exact heap_alloc_new _ _
    · rw [show w.heap.size + 1 + 1 = ((w.alloc (.cells #[.slice none 0 0, .slice none 0 0] 24)).alloc (.cells #[.int .i64 0] 29)).heap.size by simp]
      exact heap_alloc_new _ _
  rw [hW2]
  have HBW2 := hide hb2
  have HG2 : Hid (∀ wr, Below (w.heap.size + 1 + 1) W2 wr → Glob wr) := fun wr hr => by
    have l0 := World.block_lt_of_cell? w _ hgm
    have l5 := World.block_lt_of_cell? w _ hgev
    refine ⟨⟨gm, ?_⟩, gev, ?_, hgev2⟩
    · rw [hr.cell (p := ⟨0, 0, none⟩) (by show 0 < _; omega), hb2.cell (p := ⟨0, 0, none⟩) l0]; exact hgm
    · rw [hr.cell (p := ⟨5, 0, none⟩) (by show 5 < _; have : 5 < w.heap.size := l5; omega), hb2.cell (p := ⟨5, 0, none⟩) l5]; exact hgev
  have HPE : Hid (∀ wr, Below (w.heap.size + 1 + 1) W2 wr → wr.heap[w.heap.size]? = some (.cells #[.slice none 0 0, .slice none 0 0] 24 (0, 0)) ∧ wr.heap[w.heap.size + 1]? = some (.cells #[.int .i64 0] 29 (0, 0))) := fun wr hr => ⟨(hr.block w.heap.size (by omega)).trans hP, (hr.block (w.heap.size + 1) (by omega)).trans hE⟩
  have hRd0 : Rd (w.heap.size + 1 + 1) W2 [] := ⟨none, 0, none, 0, .slice none 0 0, [], hR, World.ownsRow_nil _ _ _ _, World.ownsRow_nil _ _ _ _, .inl rfl, ⟨World.ownsRow_nil _ _ _ _, fun x hx => by cases hx⟩, rfl, fun e he => by cases he⟩
  have hgm2 : W2.cell? ⟨0, 0, none⟩ = some (.int .i64 gm) := (hb2.cell (p := ⟨0, 0, none⟩) (World.block_lt_of_cell? w _ hgm)).trans hgm
  clear hb2 hP hE hR hW2 hgev hgev2 hgm
  refine (Tryd.strings_Split s ⟨#[10]⟩ gm W2 (by omega) hgm2 (by decide)).mono ?_
  rintro e w3 ⟨rfl, hw3⟩
  have hlen := (Lib.splitB_all ⟨#[10]⟩ (by decide) 0 (Lib.countB s ⟨#[10]⟩) s rfl)
  rw [splitB_cutB] at hw3 hlen
  rw [← hlen]
  have hb3 : Below W2.heap.size W2 w3 := by rw [hw3]; exact alloc_later _ _
  have HA3 : Hid (w3.heap[w.heap.size + 1 + 1 + 1]? = some (.cells ((cutB s).map Value.string).toArray 9 (0, 0))) := by show _ = _; rw [hw3, ← hsz2]; exact heap_alloc_new _ _
  have hs3 : w.heap.size + 1 + 1 + 1 + 1 ≤ w3.heap.size := by rw [hw3]; simp; omega
  have HB3 : Hid (Below (w.heap.size + 1 + 1) W2 w3) := hb3.mono (by omega)
  have HR3 := hide (hRd0.later hb3)
  have HPS : Hid (∀ x ∈ cutB s, x.size ≤ 3000) := fun x hx => by have := cutB_size hx; omega
  have HSP : Hid (specP s = specP s) := rfl
  have HS1 : Hid (∀ k, readAll [] (cutB s) = .error k → specP s = (k, [], [])) := fun k hk => by unfold specP; rw [hk]
  clear hRd0 hb3 hlen hw3 hgm2
  have hn3 : (cutB s).length ≤ 3001 := by have := cutFrom_length s (s.size - 0) 0 0; show (cutFrom s 0 0).length ≤ _; unfold cutFrom; omega
  generalize hPC : cutB s = PC at *
  go_wp2_with fail
  go_loopw [6, 7, 18] (fun _ _ iv wr => Hid (Below (w.heap.size + 1 + 1) W2 wr) ∧ Hid (wr.heap[w.heap.size + 1 + 1 + 1]? = some (.cells (PC.map Value.string).toArray 9 (0, 0))) ∧ w.heap.size + 1 + 1 + 1 + 1 ≤ wr.heap.size ∧ ∃ (i : Nat) (all : List Ent), i ≤ PC.length ∧ iv = .int .i64 (i : Int) ∧ Hid (Rd (w.heap.size + 1 + 1) wr all) ∧ Hid ((sideE true all).length ≤ 6 ∧ (sideE false all).length ≤ 6 ∧ ∀ e ∈ all, e.likes.length ≤ 9000) ∧ Hid (readAll [] PC = readAll all (PC.drop i))) (fun _ _ iv _ => PC.length - (intOf iv).toNat)
  case atStart => exact ⟨HB3, HA3, hs3, 0, [], Nat.zero_le _, rfl, HR3, ⟨Nat.zero_le _, Nat.zero_le _, fun e he => by cases he⟩, rfl⟩
  case round =>
    clear HB3 HA3 HR3 hs3
    obtain ⟨HB, HA, hsz, i, all, hi, rfl, HRd, HL, HRA⟩ := hrel
    by_cases hlt : i < PC.length
    · have hc : wr.cell? ⟨w.heap.size + 1 + 1 + 1, i, none⟩ = some (.string (PC[i]?.getD ByteArray.empty)) := by
        rw [(cell_in' (unhide HA) i).1]
        simp [hlt]
      have HST := hide (readAll_step (all := all) hlt)
      have HP : Hid ((PC[i]?.getD ByteArray.empty).size ≤ 3000) := by
        show _ ≤ _
        rw [List.getElem?_eq_getElem hlt]
        exact unhide HPS _ (List.getElem_mem hlt)
      generalize PC[i]?.getD ByteArray.empty = p at *
      go_wp2_with fail
      refine (words_in9 p wr (by have := unhide HP; omega)).mono ?_
      rintro e w5 ⟨A5, rfl, hI5, hb5⟩
      have HRd5 := hide ((unhide HRd).later hb5)
      have HB5 := hide ((unhide HB).trans (hb5.mono (by omega)))
      have HA5 : Hid (w5.heap[w.heap.size + 1 + 1 + 1]? = some (.cells (PC.map Value.string).toArray 9 (0, 0))) := (hb5.block _ (by omega)).trans (unhide HA)
      have hs5 := hb5.size
      obtain ⟨hwf, hwl⟩ := words_facts p
      have HWF : Hid (∀ x ∈ wordsB p, 0 < x.size ∧ x.size ≤ 281474976710656) := fun x hx => by have := hwf x hx; have := unhide HP; omega
      have HWL : Hid ((wordsB p).length ≤ 9000) := by show _ ≤ _; have := unhide HP; omega
      have HI5 := hide hI5
      have hwc : ∀ x t, wordsB p = x :: t → w5.cell? ⟨A5, 0, none⟩ = some (.string x) := fun x t e => by
        obtain ⟨h1, -, -, -, h5⟩ := hI5.1
        rcases h5 with h5 | ⟨b, off, e2, hlt2, hc2⟩
        · rw [e] at h5; simp at h5
        · cases e2
          have := hc2 0 (by rw [e]; simp)
          rw [e] at this
          simpa using this
      have HNX : Hid (∀ w6, K9 w5 w6 → Below (w.heap.size + 1 + 1) w5 w6 → Below (w.heap.size + 1 + 1) W2 w6 ∧ w6.heap[w.heap.size + 1 + 1 + 1]? = some (.cells (PC.map Value.string).toArray 9 (0, 0)) ∧ w.heap.size + 1 + 1 + 1 + 1 ≤ w6.heap.size) := fun w6 k1 k2 => ⟨(unhide HB5).trans k2, (k1 _ ⟨_, _, unhide HA5⟩).trans (unhide HA5), by have := k2.size; omega⟩
      clear hc hI5 hwf hwl hb5
      generalize hws : wordsB p = ws at *
      cases ws with
      | nil =>
        have HE : Hid (readAll [] PC = readAll all (PC.drop (i + 1))) := by show _ = _; rw [unhide HRA, unhide HST]; rfl
        obtain ⟨n1, n2, n3⟩ := unhide HNX w5 (fun _ _ => rfl) (Below.refl _ _)
        have HN1 := hide n1
        have HN2 := hide n2
        clear n1 n2
        go_wp2_with fail
        exact ⟨⟨HN1, HN2, n3, i + 1, all, by omega, by go_num, HRd5, HL, HE⟩, by simp [intOf]; omega⟩
      | cons x t =>
        have hx0 := hwc x t rfl
        have hlt0 : decide ((0 : Int) < ((x :: t).length : Int)) = true := by simp
        go_wp2_with fail
        refine (Tryd.strings_HasPrefix x ⟨#[35]⟩ w5).mono ?_
        rintro e w6 ⟨rfl, hw6⟩
        subst w6
        have hsk : skipB (x :: t) = Lib.hasPrefix x.data.toList (⟨#[35]⟩ : ByteArray).data.toList := rfl
        generalize Lib.hasPrefix x.data.toList (⟨#[35]⟩ : ByteArray).data.toList = hp at *
        cases hp with
        | true =>
          have HE : Hid (readAll [] PC = readAll all (PC.drop (i + 1))) := by show _ = _; rw [unhide HRA, unhide HST, if_pos hsk]
          obtain ⟨n1, n2, n3⟩ := unhide HNX w5 (fun _ _ => rfl) (Below.refl _ _)
          have HN1 := hide n1
          have HN2 := hide n2
          clear n1 n2
          go_wp2_with fail
          exact ⟨⟨HN1, HN2, n3, i + 1, all, by omega, by go_num, HRd5, HL, HE⟩, by simp [intOf]; omega⟩
        | false =>
          have hal : all.length ≤ 1000 := by have := len_sides all; have := unhide HL; omega
          have HTK := hide (take_any (w.heap.size + 1 + 1) A5 0 _ _ (x :: t) all w5 (unhide HRd5) (unhide HI5) (unhide HWF) (by simp) (unhide HG2 w5 (unhide HB5)) hal)
          have HER : Hid (∀ k, takeS all (x :: t) = .error k → specP s = (k, [], [])) := fun k hk => unhide HS1 k (by rw [unhide HRA, unhide HST, if_neg (by rw [hsk]; simp), hk])
          have HOK : Hid (∀ en, takeS all (x :: t) = .ok en → readAll [] PC = readAll (all ++ [en]) (PC.drop (i + 1)) ∧ (sideE true (all ++ [en])).length ≤ 6 ∧ (sideE false (all ++ [en])).length ≤ 6 ∧ ∀ e ∈ all ++ [en], e.likes.length ≤ 9000) := fun en hen => by
            obtain ⟨o1, o2⟩ := take_ok hen
            obtain ⟨l1, l2, l3⟩ := unhide HL
            refine ⟨by rw [unhide HRA, unhide HST, if_neg (by rw [hsk]; simp), hen], ?_, ?_, fun e he => ?_⟩
            · cases hel : en.left with
              | true => rw [sideE_same true all en hel]; rw [hel] at o1; simp; omega
              | false => rw [sideE_other true all en (by rw [hel]; simp)]; exact l1
            · cases hel : en.left with
              | true => rw [sideE_other false all en (by rw [hel]; simp)]; exact l2
              | false => rw [sideE_same false all en hel]; rw [hel] at o1; simp; omega
            · rcases List.mem_append.1 he with q | q
              · exact l3 e q
              · rw [List.mem_singleton] at q
                subst q
                have := unhide HWL
                omega
          clear hsk hx0
          go_wp2_with fail
          refine (unhide HTK).mono ?_
          rintro e w6 ⟨hb6, hk6, ⟨k, hk, rfl⟩ | ⟨en, hen, rfl, hRd6⟩⟩
          · obtain ⟨n1, -, -⟩ := unhide HNX w6 hk6 hb6
            have hsp := unhide HER k hk
            obtain ⟨hPz, hEz⟩ := unhide HPE w6 n1
            have HBF : Hid (Below w.heap.size w ((w6.alloc (.cells #[.int .i64 k] 52)).setCell ⟨w.heap.size + 1, 0, none⟩ (.int .i64 k))) := (((unhide HBW2).trans (n1.mono (by omega))).alloc (by have := n1.size; omega) _).setCell (p := ⟨w.heap.size + 1, 0, none⟩) (by show w.heap.size ≤ w.heap.size + 1; omega) _
            clear n1 hb6 hk6 hk
            go_wp2
            refine door_panic rfl rfl k w6 (by omega) hPz hEz ?_
            exact ⟨none, 0, 0, [], none, 0, 0, [], by rw [hsp], ags_nil _, ags_nil _, by rw [hsp]; rfl, by rw [hsp]; rfl, unhide HBF⟩
          · obtain ⟨n1, n2, n3⟩ := unhide HNX w6 hk6 hb6
            obtain ⟨o1, o2⟩ := unhide HOK en hen
            have HN1 := hide n1
            have HN2 := hide n2
            have HO1 := hide o1
            have HO2 := hide o2
            have HRd6 := hide hRd6
            clear n1 n2 o1 o2 hRd6 hb6 hk6
            go_wp2_with fail
            exact ⟨⟨HN1, HN2, n3, i + 1, all ++ [en], by omega, by go_num, HRd6, HO2, HO1⟩, by simp [intOf]; omega⟩
    · obtain rfl : i = PC.length := by omega
      have hra : readAll [] PC = .ok all := by rw [unhide HRA, List.drop_length]; rfl
      obtain ⟨vN, NL, hS0⟩ := (unhide HRd).start
      obtain ⟨aN, cN, hvN, hvN2⟩ : ∃ aN cN, vN = .slice aN all.length cN ∧ (all.length = 0 ∨ ∃ g, aN = some ⟨g, 0, none⟩) := by
        obtain ⟨_, _, _, _, -, -, -, -, h5, -⟩ := hS0
        rcases h5.1.2 with ⟨q, q0⟩ | ⟨g, cap, cur, q, -⟩
        · rw [q0]; exact ⟨none, 0, q, .inl rfl⟩
        · exact ⟨_, cap, q, .inr ⟨g, rfl⟩⟩
      subst hvN
      have c2 : wr.cell? ⟨w.heap.size + 1 + 1, 2, none⟩ = some (.slice aN all.length cN) := by
        obtain ⟨_, _, _, _, h1, -⟩ := hS0
        exact (cell_in' h1 2).1
      have HS0 := hide hS0
      have HSE : Hid ((∀ k, setAll all [] all = .error k → specP s = (k, [], [])) ∧ ∀ Ls, setAll all [] all = .ok Ls → specP s = (0, finP true all Ls, finP false all Ls)) := by
        constructor
        · intro k hk; unfold specP; rw [hPC, hra, ]; simp only [hk]
        · intro Ls hk; unfold specP; rw [hPC, hra]; simp only [hk]
      clear hS0 hra HRd HRA HA
      go_wp2_with fail
      have hall6 : all.length ≤ 12 := by have := len_sides all; have := unhide HL; omega
      go_loopw [9, 40] (fun _ iv wt => Hid (Below (w.heap.size + 1 + 1) W2 wt) ∧ w.heap.size + 1 + 1 + 1 + 1 ≤ wt.heap.size ∧ ∃ (q : Nat) (T : List Tr), q ≤ all.length ∧ iv = .int .i64 (q : Int) ∧ T.length = q ∧ Hid (RdS (w.heap.size + 1 + 1) wt all (.slice aN all.length cN) NL T) ∧ Hid (setAll all [] all = setAll all (T.map (·.L)) (all.drop q))) (fun _ iv _ => all.length - (intOf iv).toNat)
      case atStart => exact ⟨HB, hsz, 0, [], Nat.zero_le _, rfl, rfl, HS0, rfl⟩
      case round =>
        clear HS0 c2 HB hsz
        rename World => wt
        obtain ⟨HB, hsz, q, T, hq, rfl, hTq, HS, HSA⟩ := hrel
        by_cases hlt : q < all.length
        · obtain ⟨gN, rfl⟩ : ∃ g, aN = some ⟨g, 0, none⟩ := by
            rcases hvN2 with z | z
            · omega
            · exact z
          have hsplit : all = all.take q ++ all[q] :: all.drop (q + 1) := by rw [← List.drop_eq_getElem_cons hlt, List.take_append_drop]
          have htl : (all.take q).length = q := by simp; omega
          obtain ⟨x, hx⟩ : ∃ x, NL[q]? = some x := by
            obtain ⟨_, _, _, _, -, -, -, -, h5, h6, -⟩ := unhide HS
            have : NL.length = all.length := by have := congrArg List.length h6; rw [lnS_len] at this; simpa using this
            exact ⟨NL[q], by rw [List.getElem?_eq_getElem]⟩
          have hce : wt.cell? ⟨gN, q * 3, none⟩ = some (.int .i64 (x.side : Int)) ∧ wt.cell? ⟨gN, q * 3 + 1, none⟩ = some (.int .i64 (x.place : Int)) ∧ wt.cell? ⟨gN, q * 3 + 2, none⟩ = some (.slice x.wa x.wn x.wc) ∧ all.length ≤ cN ∧ cN ≤ 9223372036854775807 := by
            obtain ⟨_, _, _, _, -, -, -, -, h5, -⟩ := unhide HS
            obtain ⟨i1, i2, i3⟩ := ln_cells h5 hx
            refine ⟨i1, i2, i3, ?_⟩
            rcases h5.1.2 with ⟨z, _⟩ | ⟨g, cap, cur, z, -, -, z1, z2, -⟩
            · cases z
            · cases z; unfold maxLen at z2; exact ⟨z1, by omega⟩
          obtain ⟨e0, e1, e2, e3, e4⟩ := hce
          have hq1 : (q : Int) < (all.length : Int) := by omega
          have hlk9 : (all[q]).likes.length ≤ 9000 := (unhide HL).2.2 _ (List.getElem_mem hlt)
          have CS := hide (settle_step (w.heap.size + 1 + 1) (wt.alloc (.cells #[.int .i64 (x.side : Int), .int .i64 (x.place : Int), .slice x.wa x.wn x.wc] 64)) all (all.take q) (all.drop (q + 1)) all[q] (.slice (some ⟨gN, 0, none⟩) all.length cN) NL T ((unhide HS).later (alloc_later _ _)) hsplit (by omega) x (by rw [htl]; exact hx) hlk9)
          have HBt := hide ((unhide HB).alloc (by omega) (.cells #[.int .i64 (x.side : Int), .int .i64 (x.place : Int), .slice x.wa x.wn x.wc] 64))
          have HSS : Hid (setAll all [] all = match likeF ((sideE (!all[q].left) all).map agE0) [] all[q].likes with
              | .error k => .error k
              | .ok L => setAll all (T.map (·.L) ++ [L]) (all.drop (q + 1))) := by
            show _ = _
            rw [unhide HSA, List.drop_eq_getElem_cons hlt]
            rfl
          have hsA : (wt.alloc (.cells #[.int .i64 (x.side : Int), .int .i64 (x.place : Int), .slice x.wa x.wn x.wc] 64)).heap.size = wt.heap.size + 1 := by simp
          clear hsplit htl hx hlk9
          obtain ⟨xs, xp, xa, xn, xc, xw⟩ := x
          simp only at e0 e1 e2 CS HBt hsA
          go_wp2_with fail
          refine (unhide CS).mono ?_
          rintro e w6 ⟨hb6, ⟨k, hk, rfl⟩ | ⟨t, hen, rfl, hS6⟩⟩
          · have n1 := (unhide HBt).trans hb6
            have hsp := (unhide HSE).1 k (by rw [unhide HSS, hk])
            obtain ⟨hPz, hEz⟩ := unhide HPE w6 n1
            have HBF : Hid (Below w.heap.size w ((w6.alloc (.cells #[.int .i64 k] 52)).setCell ⟨w.heap.size + 1, 0, none⟩ (.int .i64 k))) := (((unhide HBW2).trans (n1.mono (by omega))).alloc (by have := n1.size; omega) _).setCell (p := ⟨w.heap.size + 1, 0, none⟩) (by show w.heap.size ≤ w.heap.size + 1; omega) _
            clear n1 hb6 hk
            go_wp2
            refine door_panic rfl rfl k w6 (by omega) hPz hEz ?_
            exact ⟨none, 0, 0, [], none, 0, 0, [], by rw [hsp], ags_nil _, ags_nil _, by rw [hsp]; rfl, by rw [hsp]; rfl, unhide HBF⟩
          · have HN1 := hide ((unhide HBt).trans hb6)
            have hs6 := hb6.size
            have HE : Hid (setAll all [] all = setAll all ((T ++ [t]).map (·.L)) (all.drop (q + 1))) := by show _ = _; rw [unhide HSS, hen, List.map_append]; rfl
            have HS6 := hide hS6
            clear hS6 hb6 hen
            go_wp2_with fail
            exact ⟨⟨HN1, by omega, q + 1, T ++ [t], by omega, by go_num, by simp; omega, HS6, HE⟩, by simp [intOf]; omega⟩
        · obtain rfl : q = all.length := by omega
          obtain ⟨aL, cL, aR, cR, h1, h2, h3, h4, h5, h6, h7, h8⟩ := unhide HS
          have hspec := (unhide HSE).2 (T.map (·.L)) (by rw [unhide HSA, List.drop_length]; rfl)
          have r0 : wt.cell? ⟨w.heap.size + 1 + 1, 0, none⟩ = some (.slice aL (sideE true all).length cL) := (cell_in' h1 0).1
          have r1 : wt.cell? ⟨w.heap.size + 1 + 1, 1, none⟩ = some (.slice aR (sideE false all).length cR) := (cell_in' h1 1).1
          obtain ⟨hPz, hEz⟩ := unhide HPE wt (unhide HB)
          have z0 : wt.cell? ⟨w.heap.size, 0, none⟩ = some (.slice none 0 0) := (cell_in' hPz 0).1
          have z1 : wt.cell? ⟨w.heap.size, 1, none⟩ = some (.slice none 0 0) := (cell_in' hPz 1).1
          have y0 := (cell_in' hPz 0).2
          have y1 := (cell_in' hPz 1).2
          have z2 : wt.cell? ⟨w.heap.size + 1, 0, none⟩ = some (.int .i64 0) := (cell_in' hEz 0).1
          have y2 := (cell_in' hEz 0).2
          obtain ⟨WF, hWF⟩ : ∃ WF, WF = ((wt.setCell ⟨w.heap.size, 0, none⟩ (.slice aL (sideE true all).length cL)).setCell ⟨w.heap.size, 1, none⟩ (.slice aR (sideE false all).length cR)).setCell ⟨w.heap.size + 1, 0, none⟩ (.int .i64 0) := ⟨_, rfl⟩
          have hfr : ∀ b, b ≠ w.heap.size → b ≠ w.heap.size + 1 → WF.heap[b]? = wt.heap[b]? := fun b q1 q2 => by
            rw [hWF, Below.heap_setCell _ _ _ _ (by show b ≠ w.heap.size + 1; exact q2), Below.heap_setCell _ _ _ _ (by show b ≠ w.heap.size; exact q1), Below.heap_setCell _ _ _ _ (by show b ≠ w.heap.size; exact q1)]
          have hWs : WF.heap.size = wt.heap.size := by rw [hWF]; simp
          have hin : ∀ b, ∀ g ∈ sidT b all T, Ints WF g.la g.ln g.lc g.likes ∧ g.name.size ≤ maxLen := fun b g hg => by
            obtain ⟨q1, q2⟩ := sid_in h8 h7 g hg
            exact ⟨(q1.block (by omega) (fun c hc => hfr c (hc.ne ⟨_, _, hPz⟩ (by decide)) (hc.ne ⟨_, _, hEz⟩ (by decide)))).1, q2⟩
          have hA1 : Ags WF aL (sideE true all).length cL (sidT true all T) := by
            obtain ⟨a', c', e, hA⟩ := Ags.of_owns (own_frame (w' := WF) h2 (fun c hc => hfr c (by have := (h2.lt c hc).1; omega) (by have := (h2.lt c hc).1; omega))) (hin true)
            cases e
            exact hA
          have hA2 : Ags WF aR (sideE false all).length cR (sidT false all T) := by
            obtain ⟨a', c', e, hA⟩ := Ags.of_owns (own_frame (w' := WF) h3 (fun c hc => hfr c (by have := (h3.lt c hc).1; omega) (by have := (h3.lt c hc).1; omega))) (hin false)
            cases e
            exact hA
          have hBF : Below w.heap.size w WF := by
            rw [hWF]
            exact ((((unhide HBW2).trans ((unhide HB).mono (by omega))).setCell (p := ⟨w.heap.size, 0, none⟩) (Nat.le_refl _) _).setCell (p := ⟨w.heap.size, 1, none⟩) (Nat.le_refl _) _).setCell (p := ⟨w.heap.size + 1, 0, none⟩) (by show w.heap.size ≤ w.heap.size + 1; omega) _
          have hpl1 := plain_sid true all T hTq
          have hpl2 := plain_sid false all T hTq
          have HFIN : Hid (∃ (aL' : Option Addr) (nL cL' : Nat) (lL : List Ag) (aR' : Option Addr) (nR cR' : Nat) (lR : List Ag), Ending.returned (.tuple #[.agg #[.slice aL (sideE true all).length cL, .slice aR (sideE false all).length cR], .int .i64 0]) = .returned (.tuple #[.agg #[.slice aL' nL cL', .slice aR' nR cR'], .int .i64 (specP s).1]) ∧
              Ags WF aL' nL cL' lL ∧ Ags WF aR' nR cR' lR ∧ plainA lL = (specP s).2.1 ∧ plainA lR = (specP s).2.2 ∧ Below w.heap.size w WF) := ⟨aL, _, cL, _, aR, _, cR, _, by rw [hspec], hA1, hA2, by rw [hspec]; exact hpl1, by rw [hspec]; exact hpl2, hBF⟩
          have f0 : WF.cell? ⟨w.heap.size, 0, none⟩ = some (.slice aL (sideE true all).length cL) ∧ WF.cell? ⟨w.heap.size, 1, none⟩ = some (.slice aR (sideE false all).length cR) ∧ WF.cell? ⟨w.heap.size + 1, 0, none⟩ = some (.int .i64 0) := by
            have a1 := heap_setCell_same wt w.heap.size 0 _ _ (.slice aL (sideE true all).length cL) hPz
            have a2 := heap_setCell_same _ w.heap.size 1 _ _ (.slice aR (sideE false all).length cR) a1
            have a3 : WF.heap[w.heap.size]? = some (.cells #[.slice aL (sideE true all).length cL, .slice aR (sideE false all).length cR] 24 (0, 0)) := by rw [hWF, Below.heap_setCell _ _ _ _ (by show w.heap.size ≠ w.heap.size + 1; omega), a2]; rfl
            have b1 : ((wt.setCell ⟨w.heap.size, 0, none⟩ (.slice aL (sideE true all).length cL)).setCell ⟨w.heap.size, 1, none⟩ (.slice aR (sideE false all).length cR)).heap[w.heap.size + 1]? = some (.cells #[.int .i64 0] 29 (0, 0)) := by
              rw [Below.heap_setCell _ _ _ _ (by show w.heap.size + 1 ≠ w.heap.size; omega), Below.heap_setCell _ _ _ _ (by show w.heap.size + 1 ≠ w.heap.size; omega)]; exact hEz
            have b2 := heap_setCell_same _ (w.heap.size + 1) 0 _ _ (.int .i64 0) b1
            rw [← hWF] at b2
            exact ⟨(cell_in' a3 0).1, (cell_in' a3 1).1, (cell_in' b2 0).1⟩
          have HWF := hide hWF
          have HF0 := hide f0
          clear h1 h2 h3 h4 h5 h6 h7 h8 hfr hWs hin hA1 hA2 hBF hpl1 hpl2 hPz hEz hspec hWF f0
          go_wp2
          rw [← unhide HWF]
          refine door_ret rfl rfl _ _ 0 WF (unhide HF0).1 (unhide HF0).2.1 (unhide HF0).2.2 ?_
          exact unhide HFIN
end Go.Proofs.YtajdijjecojdhaaDoor
