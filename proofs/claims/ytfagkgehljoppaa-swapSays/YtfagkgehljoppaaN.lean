import Derived.Test.YtfagkgehljoppaaL
import Derived.Test.YtfagkgehljoppaaF
import Derived.Deep.RegionWith
import Derived.Deep.RegionHeld
import Derived.Deep.AppendLies
namespace Go.Proofs.Ytfagkgehljoppaa
open Go.RowKit
theorem wpList_append_int2 (w : World) {ops : Array Oper} {rest : List Oper} {o : Oper} {a : Act} {Q : Exit → Act → World → Prop} (hgd : o.guard = none) (s x : Operand)
    (ho : o.op = .call { callee := .builtin .append, args := #[s, x], argTypes := #[31, 31] })
    (base : Nat) (v : Value) (n : Nat) (xs : List Value) (hs : a.eval s = v) (hown : w.ownsRow base 3 1 v n xs)
    (g : Nat) (y : Int) (hx : a.eval x = .slice (some ⟨g, 0, none⟩) 1 1) (hc : w.cell? ⟨g, 0, none⟩ = some (.int .i64 y))
    (hsm : n ≤ 10000000) (hbase : base ≤ w.heap.size)
    (hK : ∀ v' w', w'.ownsRow base 3 1 v' (n + 1) (xs ++ [.int .i64 y]) → w.grownBy w' v.ownBlock → wpList Try.prog ops Q rest (a.put o.dst v') w') : wpList Try.prog ops Q (o :: rest) a w := by
  obtain ⟨i9, hi9, hz90, hz91, hz92⟩ := info_parts info3
  exact wpList_append_own w hgd s x 31 ho base 3 i9 _ 1 8 Try.underlying31 hi9 hz90 hz91 hz92 rfl (by decide) v n xs hs hown ⟨g, 0, none⟩ 1 1 [.int .i64 y] hx rfl
    (fun j u hu => by
      cases j with
      | zero => simp at hu; subst hu; simpa [Addr.add] using hc
      | succ j => simp at hu)
    (fun u hu => by simp at hu; subst hu; rfl) (by unfold maxLen; omega) (by omega) hbase (fun v' w' h1 h2 _ => hK v' w' h1 h2)
theorem ints_owns {w : World} {B : Nat} {v : Value} {n : Nat} {l : List Int} (h : w.ownsRow B 3 1 v n (intVals l)) : ∃ a c, v = .slice a n c ∧ Ints w a n c l := by
  have hl : l.length = n := by have := h.1; simp [intVals] at this; omega
  have h0 := h
  rcases h.2 with ⟨rfl, rfl⟩ | ⟨g, cap, cur, rfl, hbg, hgg, hnc, hcm, hcs, htake⟩
  · exact ⟨none, 0, rfl, hl.symm, Nat.le_refl _, by unfold maxLen; omega, .inl rfl⟩
  · refine ⟨_, cap, rfl, hl.symm, hnc, hcm, .inr ⟨g, 0, rfl, ?_, fun j hj => ?_⟩⟩
    · rcases Nat.lt_or_ge g w.heap.size with h' | h'
      · exact h'
      · rw [Array.getElem?_eq_none h'] at hgg; cases hgg
    · rw [Nat.zero_add, h0.cellAt j (by omega), intVals, List.getElem?_map, List.getElem?_eq_getElem (show j < l.length by omega)]
      rfl
theorem intVals_snoc (a : List Int) (x : Int) : intVals (a ++ [x]) = intVals a ++ [.int .i64 x] := by simp [intVals]
theorem allC_round (R1 R2 : List Sl) {k : Nat} (h : k < R1.length) : (allC (lists R1) (lists R2)).drop k = (false, (slAt R1 k).ints) :: (allC (lists R1) (lists R2)).drop (k + 1) := by
  have e : (allC (lists R1) (lists R2))[k]? = some (false, (slAt R1 k).ints) := by
    unfold allC lists slAt
    rw [List.getElem?_append_left (by simp; exact h)]
    simp [List.getElem?_eq_getElem h]
  have hk : k < (allC (lists R1) (lists R2)).length := by unfold allC lists; simp; omega
  rw [List.drop_eq_getElem_cons hk]
  congr 1
  rw [List.getElem?_eq_getElem hk] at e
  exact Option.some.inj e
theorem allC_row (R1 R2 : List Sl) {j : Nat} (h : j < R2.length) : (allC (lists R1) (lists R2)).drop (R1.length + j) = (true, (slAt R2 j).ints) :: (allC (lists R1) (lists R2)).drop (R1.length + j + 1) := by
  have e : (allC (lists R1) (lists R2))[R1.length + j]? = some (true, (slAt R2 j).ints) := by
    unfold allC lists slAt
    rw [List.getElem?_append_right (by simp)]
    simp [List.getElem?_eq_getElem h]
  have hk : R1.length + j < (allC (lists R1) (lists R2)).length := by unfold allC lists; simp; omega
  rw [List.drop_eq_getElem_cons hk]
  congr 1
  rw [List.getElem?_eq_getElem hk] at e
  exact Option.some.inj e
theorem runR_bad {gv rd rw : Int} {F : List Sl} {row : Bool} {l : List Int} {rest : List (Bool × List Int)} {u : List Int} {g : Int} (h : ¬ chE F F.length l u = 0) : runR gv rd rw F ((row, l) :: rest) u g = (0, chE F F.length l u) := by rw [runR, if_pos h]
theorem runR_no {gv rd rw : Int} {F : List Sl} {row : Bool} {l : List Int} {rest : List (Bool × List Int)} {u : List Int} {g : Int} (h : chE F F.length l u = 0) (h2 : okC gv rd rw F row l = false) : runR gv rd rw F ((row, l) :: rest) u g = (0, 11) := by rw [runR, if_neg (by show ¬ chE F F.length l u ≠ 0; rw [h]; omega), if_pos h2]
theorem runR_on {gv rd rw : Int} {F : List Sl} {row : Bool} {l : List Int} {rest : List (Bool × List Int)} {u : List Int} {g : Int} (h : chE F F.length l u = 0) (h2 : okC gv rd rw F row l = true) : runR gv rd rw F ((row, l) :: rest) u g = runR gv rd rw F rest (u ++ l) (g + giC row l) := by rw [runR, if_neg (by show ¬ chE F F.length l u ≠ 0; rw [h]; omega), if_neg (by show ¬ okC gv rd rw F row l = false; rw [h2]; simp)]
theorem idx_mem (l : List Int) (x : Int) : decide (0 ≤ idxFrom l x 0) = decide (x ∈ l) := by
  rcases idxFrom_spec l x _ 0 rfl with ⟨h1, h2⟩ | ⟨m, _, h2, h3, h4, _⟩
  · rw [decide_eq_false (by omega), decide_eq_false]
    intro h
    obtain ⟨i, hi, e⟩ := List.getElem_of_mem h
    exact h2 i (Nat.zero_le _) hi (by rw [List.getElem?_eq_getElem hi]; exact e)
  · rw [decide_eq_true (by omega), decide_eq_true]
    rw [List.getElem?_eq_getElem h2] at h3
    have : l[m] = x := h3
    rw [← this]
    exact List.getElem_mem h2
theorem in_below (a : Option Addr) (n c : Nat) (l : List Int) (x : Int) (w : World) (h : Ints w a n c l) :
    Calls Try.prog 15 #[.int .i64 x, .slice a n c] w fun e w' => e = .returned (.bool (decide (0 ≤ idxFrom l x 0))) ∧ Below w.heap.size w w' :=
  (in_any a n c l x w h).mono fun _ _ ⟨he, hw⟩ => ⟨he, by rw [hw]; exact Below.refl _ _⟩
set_option maxRecDepth 100000 in
set_option maxHeartbeats 8000000 in
theorem swapCheck_any (gv rd rw : Int) (fa : Option Addr) (fn fc : Nat) (F : List Sl) (ra : Option Addr) (rn rc : Nat) (R1 : List Sl) (oa : Option Addr) (on oc : Nat) (R2 : List Sl) (w : World) (hF : Lsts w fa fn fc F) (hfl : ∀ s ∈ F, s.ln ≤ 1024) (h1 : Lsts w ra rn rc R1) (hn1 : rn ≤ 1024) (hl1 : ∀ s ∈ R1, s.ln ≤ 1024) (h2 : Lsts w oa on oc R2) (hn2 : on ≤ 1024) (hl2 : ∀ s ∈ R2, s.ln ≤ 1024) :
    Calls Try.prog 6 #[swV gv rd rw fa fn fc, .slice ra rn rc, .slice oa on oc] w fun e w' => e = .returned (pairV (chkR gv rd rw F (lists R1) (lists R2))) ∧ Below w.heap.size w w' := by
  obtain ⟨wA, hwA⟩ : ∃ y, y = w.alloc (.cells #[.int .i64 gv, .slice fa fn fc, .int .i64 rd, .int .i64 rw] 24) := ⟨_, rfl⟩
  have hbA : Below w.heap.size w wA := by rw [hwA]; go_grown
  have tA : SBox wA w.heap.size gv rd rw fa fn fc := by rw [hwA]; exact ⟨by simp, by simp, by simp, by simp⟩
  have HW := hide hwA
  clear hwA
  have HFN := hide hF.1
  have H1N := hide h1.1
  have H2N := hide h2.1
  have HL1 := hide hl1
  have HL2 := hide hl2
  have s0 := tA.c0
  have s1 := tA.c1
  have s2 := tA.c2
  have s3 := tA.c3
  have hr1 := h1.2.1
  have hr2 := h1.2.2.1
  have ho1 := h2.2.1
  have ho2 := h2.2.2.1
  have hf1 := hF.2.1
  have hf2 := hF.2.2.1
  unfold maxLen at hr2 ho2 hf2
  have HMAY := hide (swapMay_any gv rd rw fa fn fc F wA (hF.later hbA) hfl)
  have HFW : Hid (∀ W, Below w.heap.size w W → Lsts W fa fn fc F) := fun W hW => hF.later hW
  clear hl1 hl2
  unfold swV at HMAY ⊢
  go_enter Try.func6, Try.ntmps6
  go_wp2_with fail
  rw [← unhide HW]
  refine (unhide HMAY).mono ?_
  rintro e w1 ⟨rfl, hb1⟩
  have hbw1 := hbA.trans (hb1.mono hbA.size)
  have t1 := tA.later hb1
  clear s0 s1 s2 s3 tA
  by_cases hz : maySw gv rd rw F = 0
  · have h8 : fn ≤ 8 := by have := may_eight hz; have := unhide HFN; omega
    have HCK := hide (chk_run gv rd rw F (lists R1) (lists R2) hz)
    rw [hz]
    clear hz
    go_wp2_with fail
    go_loopw [11, 9, 10, 12, 13, 14, 15, 16, 17] (fun i v gg _ _ _ _ _ _ wr => Below w1.heap.size w1 wr ∧ ∃ (k : Nat) (u : List Int) (g : Int), k ≤ rn + on ∧ i = .int .i64 k ∧ gg = .int .i64 g ∧ 0 ≤ g ∧ g ≤ 1024 * k ∧ u.length ≤ 1024 * k ∧ Eight u ∧ wr.ownsRow w1.heap.size 3 1 v u.length (intVals u) ∧ runR gv rd rw F (allC (lists R1) (lists R2)) [] 0 = runR gv rd rw F ((allC (lists R1) (lists R2)).drop k) u g) (fun i _ _ _ _ _ _ _ _ _ => rn + on - (intOf i).toNat)
    case atStart => exact ⟨Below.refl _ _, 0, [], 0, Nat.zero_le _, rfl, rfl, by omega, by omega, by simp, fun x hx => (by cases hx), World.ownsRow_nil _ _ _ _, by rw [List.drop_zero]⟩
    case round =>
      obtain ⟨hbr, k, u, g, hk, rfl, rfl, hg0, hg1, hul, hu8, hown, hrun⟩ := hrel
      have HRUN := hide hrun
      have HU8 := hide hu8
      have HOWN := hide hown
      clear hrun hu8 hown
      have hbwr := hbw1.trans (hbr.mono hbw1.size)
      have tr := t1.later hbr
      by_cases hlt : k < rn + on
      · have hd0 : decide ((k : Int) < (rn : Int) + (on : Int)) = true := by simp; omega
        by_cases hrow : k < rn
        · have hd1 : decide ((rn : Int) ≤ (k : Int)) = false := by simp; omega
          obtain ⟨b, off, rfl, hb, hcell⟩ := (h1.later hbwr).cellAt (by omega)
          have hck := hcell k hrow
          have HIW : Hid (∀ W, Below w.heap.size w W → Ints W (slAt R1 k).la (slAt R1 k).ln (slAt R1 k).lc (slAt R1 k).ints) := fun W hW => (h1.later hW).mem hrow
          have hsm := unhide HL1 (slAt R1 k) (slAt_mem (by have := unhide H1N; omega))
          have HDR := hide (allC_round R1 R2 (k := k) (by have := unhide H1N; omega))
          clear hcell
          generalize slAt R1 k = S at *
          obtain ⟨la, ln, lc, ints⟩ := S
          simp only at hck HIW hsm HDR
          have HLI := hide (unhide HIW wr hbwr).1
          have hlc := (unhide HIW wr hbwr).2.1
          have hlm := (unhide HIW wr hbwr).2.2.1
          unfold maxLen at hlm
          rw [unhide HDR] at HRUN
          by_cases hs2 : ln < 2
          · have hE : chE F F.length ints u = 7 := by unfold chE; rw [if_pos (by have := unhide HLI; omega)]
            have HR := hide (runR_bad (gv := gv) (rd := rd) (rw := rw) (row := false) (rest := (allC (lists R1) (lists R2)).drop (k + 1)) (g := g) (show ¬ chE F F.length ints u = 0 by rw [hE]; omega))
            rw [hE] at HR
            clear hE
            have hd2 : decide ((ln : Int) < 2) = true := by simp; omega
            go_wp2
            refine bodyPost_ret (v := .tuple #[.int .i64 0, .int .i64 7]) (by simp [results, Try.results6, go_sem]) rfl ⟨?_, hbwr⟩
            rw [unhide HCK, unhide HRUN, unhide HR]
            rfl
          have hd2 : decide ((ln : Int) < 2) = false := by simp; omega
          have HE : Hid (chE F F.length ints u = chFrom F fn ints u 0) := by show _ = _; unfold chE; rw [if_neg (by have := unhide HLI; omega), ← unhide HFN]
          have HRB : Hid (∀ e : Int, ¬ e = 0 → chFrom F fn ints u 0 = e → chkR gv rd rw F (lists R1) (lists R2) = (0, e)) := by
            intro e he hc
            rw [unhide HCK, unhide HRUN, runR_bad (by rw [unhide HE, hc]; exact he), unhide HE, hc]
          have HRN : Hid (∀ B : Bool, chFrom F fn ints u 0 = 0 → okC gv rd rw F false ints = B → (B = false → chkR gv rd rw F (lists R1) (lists R2) = (0, 11)) ∧ (B = true → runR gv rd rw F (allC (lists R1) (lists R2)) [] 0 = runR gv rd rw F ((allC (lists R1) (lists R2)).drop (k + 1)) (u ++ ints) (g + giC false ints))) := by
            intro B hc hB
            refine ⟨fun hb => ?_, fun hb => ?_⟩
            · rw [unhide HCK, unhide HRUN, runR_no (by rw [unhide HE, hc]) (by rw [hB, hb])]
            · rw [unhide HRUN, runR_on (by rw [unhide HE, hc]) (by rw [hB, hb])]
          clear HE HRUN HDR
          go_wp2_with fail
          clear hck
          try rw [show decide (rn ≤ k) = false from decide_eq_false (by omega)]
          go_loopw [14, 9, 15, 16] (fun i v _ _ wz => Below w1.heap.size w1 wz ∧ ∃ j m : Nat, j ≤ ln ∧ i = .int .i64 j ∧ m = u.length + j ∧ wz.ownsRow w1.heap.size 3 1 v m (intVals (u ++ ints.take j)) ∧ (∀ t, t < j → 0 ≤ ints[t]?.getD 0 ∧ ints[t]?.getD 0 < fn) ∧ chFrom F fn ints u 0 = chFrom F fn ints u j) (fun i _ _ _ _ => ln - (intOf i).toNat)
          case atStart => exact ⟨hbr, 0, u.length, Nat.zero_le _, rfl, rfl, by rw [List.take_zero, List.append_nil]; exact unhide HOWN, fun t ht => by omega, rfl⟩
          case round =>
            rename World => wq
            obtain ⟨hbq, j, m, hj, rfl, hm, hown, hv, hch⟩ := hrel
            have HO := hide hown
            have HV := hide hv
            have HCH := hide hch
            have HM := hide hm
            clear hown hv hch hm HOWN
            have hbwq := hbw1.trans (hbq.mono hbw1.size)
            have tq := t1.later hbq
            have f1q := cell_regrown tq.c1
            by_cases hjl : j < ln
            · have hIq := unhide HIW wq hbwq
              obtain ⟨b, off, rfl, hb, hcell⟩ := hIq.cellAt (by omega)
              have hx := hcell j hjl
              have HCL := hide hcell
              have hkl : j < ints.length := by have := unhide HLI; omega
              have HST := hide (ch_step (F := F) (n := fn) (l := ints) (u := u) hkl)
              have HKL := hide hkl
              have hjc : j < lc := by omega
              clear hcell hkl hIq
              by_cases c1 : ints[j]?.getD 0 < 0
              · have HR : Hid (chFrom F fn ints u j = 8) := by rw [unhide HST, if_pos (.inl c1)]; rfl
                generalize ints[j]?.getD 0 = x at *
                have e1 : decide (x < 0) = true := decide_eq_true c1
                have xq := cell_regrown hx
                go_wp2_with fail
                refine wp_region_quiet_below (by kernel_rfl) (by kernel_rfl) ?_
                iterate 6 (quiet_step (fail))
                iterate 8 (with_reducible refine quiet_skip (by kernel_rfl) ?_)
                iterate 1 (quiet_step (fail))
                refine wpQuiet_nil ?_
                intro wQ hw'
                obtain ⟨⟨dq, osq⟩, hw''⟩ := hw'
                have hbQ : Below wq.heap.size wq wQ := by rw [hw'']; exact below_regrown _ _ _
                clear hw''
                go_wp2
                refine bodyPost_ret (v := .tuple #[.int .i64 0, .int .i64 8]) (by simp [results, Try.results6, go_sem]) rfl ⟨?_, hbwq.trans (hbQ.mono hbwq.size)⟩
                rw [unhide HRB 8 (by omega) (by rw [unhide HCH, unhide HR])]
                rfl
              by_cases c2 : (fn : Int) ≤ ints[j]?.getD 0
              · have HR : Hid (chFrom F fn ints u j = 8) := by rw [unhide HST, if_pos (.inr c2)]; rfl
                generalize ints[j]?.getD 0 = x at *
                have e1 : decide (x < 0) = false := decide_eq_false c1
                have e2 : decide ((fn : Int) ≤ x) = true := decide_eq_true c2
                have xq := cell_regrown hx
                go_wp2_with fail
                refine wp_region_quiet_below (by kernel_rfl) (by kernel_rfl) ?_
                iterate 15 (quiet_step (fail))
                refine wpQuiet_nil ?_
                intro wQ hw'
                obtain ⟨⟨dq, osq⟩, hw''⟩ := hw'
                have hbQ : Below wq.heap.size wq wQ := by rw [hw'']; exact below_regrown _ _ _
                clear hw''
                go_wp2
                refine bodyPost_ret (v := .tuple #[.int .i64 0, .int .i64 8]) (by simp [results, Try.results6, go_sem]) rfl ⟨?_, hbwq.trans (hbQ.mono hbwq.size)⟩
                rw [unhide HRB 8 (by omega) (by rw [unhide HCH, unhide HR])]
                rfl
              obtain ⟨x, hx2⟩ : ∃ x : Nat, ints[j]?.getD 0 = x := ⟨(ints[j]?.getD 0).toNat, by omega⟩
              have HX2 := hide hx2
              rw [hx2] at hx c1 c2 HST
              rw [if_neg (show ¬ ((x : Int) < 0 ∨ (fn : Int) ≤ (x : Int)) by omega)] at HST
              clear hx2
              have e1 : decide ((x : Int) < 0) = false := decide_eq_false c1
              have e2 : decide ((fn : Int) ≤ (x : Int)) = false := decide_eq_false c2
              have xq := cell_regrown hx
              obtain ⟨ua, uc, rfl, hIu⟩ := ints_owns (unhide HO)
              have huc := hIu.2.1
              have hum := hIu.2.2.1
              unfold maxLen at hum
              go_wp2_with fail
              refine wp_region_quiet_below (by kernel_rfl) (by kernel_rfl) ?_
              iterate 15 (quiet_step (fail))
              refine wpQuiet_nil ?_
              intro wQ hw'
              obtain ⟨⟨dq, osq⟩, hw''⟩ := hw'
              have hbQ : Below wq.heap.size wq wQ := by rw [hw'']; exact below_regrown _ _ _
              clear hw''
              have hbwQ := hbwq.trans (hbQ.mono hbwq.size)
              have hbrQ := hbq.trans (hbQ.mono hbq.size)
              have xQ := (hbQ.cell (p := ⟨b, off + j, none⟩) (World.block_lt_of_cell? wq _ hx)).trans hx
              have HOQ := hide (owns_later (unhide HO) hbQ)
              have CI := in_any ua m uc (u ++ ints.take j) (x : Int) wQ (hIu.later hbQ)
              rw [idx_mem] at CI
              clear hIu
              have tQ := t1.later hbrQ
              clear f1q xq hx HO tq
              by_cases c3 : (x : Int) ∈ u ++ ints.take j
              · rw [decide_eq_true c3] at CI
                rw [if_pos c3] at HST
                have CI2 := hide CI
                clear CI c3
                go_wp2_with (go_at_call 15; refine (unhide CI2).mono ?_; rintro e w2 ⟨rfl, hw2⟩; subst w2)
                go_wp2
                refine bodyPost_ret (v := .tuple #[.int .i64 0, .int .i64 6]) (by simp [results, Try.results6, go_sem]) rfl ⟨?_, hbwQ⟩
                rw [unhide HRB 6 (by omega) (by rw [unhide HCH, unhide HST])]
                rfl
              rw [decide_eq_false c3] at CI
              rw [if_neg c3] at HST
              have CI2 := hide CI
              clear CI c3
              by_cases c4 : 0 < j
              · obtain ⟨j', rfl⟩ : ∃ j', j = j' + 1 := ⟨j - 1, by omega⟩
                have hv' := unhide HV j' (by omega)
                obtain ⟨y, hy⟩ : ∃ y : Nat, ints[j']?.getD 0 = y := ⟨(ints[j']?.getD 0).toNat, by omega⟩
                have hpv : wQ.cell? ⟨b, off + j', none⟩ = some (.int .i64 (ints[j']?.getD 0)) := (hbQ.cell (p := ⟨b, off + j', none⟩) hb).trans (unhide HCL j' (by omega))
                rw [Nat.add_sub_cancel, hy, Int.toNat_natCast] at HST
                rw [hy] at hpv hv'
                have hFQ := unhide HFW wQ hbwQ
                obtain ⟨fb, fo, rfl, hfb, hfcell⟩ := hFQ.cellAt (by omega)
                have hfy := hfcell y (by omega)
                have HFB : Hid (fitsB F y x = decide (0 ≤ idxFrom (slAt F y).ints x 0)) := rfl
                have C1 := hide (fun d os => Calls.regrown_of (in_below (slAt F y).la (slAt F y).ln (slAt F y).lc (slAt F y).ints x (Sort.grow (redrawn wQ d) os) ((hFQ.later (below_regrown wQ d os)).mem (show y < fn by omega))))
                rw [← unhide HFB] at C1
                have q1 := cell_regrown xQ
                have q2 := cell_regrown tQ.c1
                have q3 := cell_regrown hpv
                have q4 := cell_regrown hfy
                have hlc' := (hFQ.mem (show y < fn by omega)).2.1
                have hlm' := (hFQ.mem (show y < fn by omega)).2.2.1
                unfold maxLen at hlm'
                clear hfcell hFQ HFB hy
                generalize (slAt F y).la = sla at *
                generalize (slAt F y).ln = sln at *
                generalize (slAt F y).lc = slc at *
                have e4 : decide (0 < (j' : Int) + 1) = true := decide_eq_true (by omega)
                have zw : IntKind.i64.wrap ((j' : Int) + 1 - 1) = (j' : Int) := by rw [IntKind.wrap_i64]; omega
                have zw2 : IntKind.i64.wrap (j' : Int) = (j' : Int) := by rw [IntKind.wrap_i64]; omega
                have zw3 : (j' : Int) < (ln : Int) := by omega
                have zw4 : j' < ln := by omega
                have zw5 : y < fn := by omega
                have zw6 : (j' : Int) + 1 < (ln : Int) := by omega
                have zw7 : (0 : Int) ≤ (j' : Int) + 1 := by omega
                cases hfB : fitsB F y x with
                | false =>
                  rw [hfB] at HST C1
                  have HST2 : Hid (chFrom F fn ints u (j' + 1) = 11) := by rw [unhide HST, if_pos ⟨by omega, rfl⟩]; rfl
                  go_wp2_with (go_at_call 15; refine (unhide CI2).mono ?_; rintro e w2 ⟨rfl, hw2⟩; subst w2)
                  refine wp_region_quiet_below (by kernel_rfl) (by kernel_rfl) ?_
                  iterate 15 (quiet_step (with_reducible exact unhide C1 _ _))
                  refine wpQuiet_nil ?_
                  intro w3 hw'
                  obtain ⟨⟨dq, osq⟩, hw''⟩ := hw'
                  have hb3 : Below wQ.heap.size wQ w3 := by rw [hw'']; exact below_regrown _ _ _
                  clear hw''
                  go_wp2
                  refine bodyPost_ret (v := .tuple #[.int .i64 0, .int .i64 11]) (by simp [results, Try.results6, go_sem]) rfl ⟨?_, hbwQ.trans (hb3.mono hbwQ.size)⟩
                  rw [unhide HRB 11 (by omega) (by rw [unhide HCH, unhide HST2])]
                  rfl
                | true =>
                  rw [hfB] at HST C1
                  have HST2 : Hid (chFrom F fn ints u (j' + 1) = chFrom F fn ints u (j' + 1 + 1)) := by rw [unhide HST, if_neg (by simp)]; rfl
                  go_wp2_with (go_at_call 15; refine (unhide CI2).mono ?_; rintro e w2 ⟨rfl, hw2⟩; subst w2)
                  refine wp_region_quiet_below (by kernel_rfl) (by kernel_rfl) ?_
                  iterate 15 (quiet_step (with_reducible exact unhide C1 _ _))
                  refine wpQuiet_nil ?_
                  intro w3 hw'
                  obtain ⟨⟨dq, osq⟩, hw''⟩ := hw'
                  have hb3 : Below wQ.heap.size wQ w3 := by rw [hw'']; exact below_regrown _ _ _
                  clear hw''
                  have hbr3 := hbrQ.trans (hb3.mono hbrQ.size)
                  have HO3 := hide (owns_later (unhide HOQ) hb3)
                  have x3 := (hb3.cell (p := ⟨b, off + (j' + 1), none⟩) (World.block_lt_of_cell? wQ _ xQ)).trans xQ
                  clear q1 q2 q3 q4 hpv hfy C1
                  go_wp2_with (at_builtin; refine wpList_append_int2 _ rfl _ _ rfl w1.heap.size _ m _ rfl ((unhide HO3).alloc _) w3.heap.size (x : Int) rfl (by simp) (by have := unhide HM; omega) (by have := hbr3.size; simp; omega) ?_; intro v2 w2 ho2 hg2)
                  go_roundw
                  case rel =>
                    have hb5 := (((Below.refl w1.heap.size w3).alloc hbr3.size (.cells #[.int .i64 (x : Int)] 3)).grown hg2 (by have := hbr3.size; simp; omega) (fun q hq => ((unhide HO3).lt q hq).1))
                    refine ⟨hbr3.trans hb5, j' + 1 + 1, m + 1, by omega, by go_num, by have := unhide HM; omega, ?_, fun t ht => ?_, by rw [unhide HCH, unhide HST2]⟩
                    · rw [take_snocI ints (unhide HKL), ← List.append_assoc, intVals_snoc, unhide HX2]
                      exact ho2
                    · by_cases e : t = j' + 1
                      · rw [e, unhide HX2]; omega
                      · exact unhide HV t (by omega)
                  case measure => simp [intOf]; omega
              · obtain rfl : j = 0 := by omega
                have HST2 : Hid (chFrom F fn ints u 0 = chFrom F fn ints u (0 + 1)) := by rw [unhide HST, if_neg (by omega)]; rfl
                rw [Nat.add_zero] at xQ
                have e4 : decide ((0 : Int) < 0) = false := by decide
                go_wp2_with (first | (go_at_call 15; refine (unhide CI2).mono ?_; rintro e w2 ⟨rfl, hw2⟩; subst w2) | (at_builtin; refine wpList_append_int2 _ rfl _ _ rfl w1.heap.size _ m _ rfl ((unhide HOQ).alloc _) wQ.heap.size (x : Int) rfl (by simp) (by have := unhide HM; omega) (by have := hbrQ.size; simp; omega) ?_; intro v2 w2 ho2 hg2))
                go_roundw
                case rel =>
                  have hb5 := (((Below.refl w1.heap.size wQ).alloc hbrQ.size (.cells #[.int .i64 (x : Int)] 3)).grown hg2 (by have := hbrQ.size; simp; omega) (fun q hq => ((unhide HOQ).lt q hq).1))
                  refine ⟨hbrQ.trans hb5, 0 + 1, m + 1, by omega, by go_num, by have := unhide HM; omega, ?_, fun t ht => ?_, unhide HST2⟩
                  · rw [take_snocI ints (unhide HKL), ← List.append_assoc, intVals_snoc, unhide HX2]
                    exact ho2
                  · by_cases e : t = 0
                    · rw [e, unhide HX2]; omega
                    · exact unhide HV t (by omega)
                case measure => simp [intOf]; omega
            · obtain rfl : j = ln := by omega
              obtain ⟨n', rfl⟩ : ∃ n', j = n' + 1 := ⟨j - 1, by omega⟩
              have HIq := unhide HIW wq hbwq
              obtain ⟨b, off, rfl, hb, hcell⟩ := HIq.cellAt (by omega)
              have hx0 := hcell 0 (by omega)
              have hx9 := hcell n' (by omega)
              have hv9 := unhide HV n' (by omega)
              obtain ⟨t, ht⟩ : ∃ t : Nat, ints[n']?.getD 0 = t := ⟨(ints[n']?.getD 0).toNat, by omega⟩
              rw [ht] at hx9 hv9
              have HX9 := hide ht
              obtain ⟨x0, hx0e⟩ : ∃ x0 : Int, ints[0]?.getD 0 = x0 := ⟨_, rfl⟩
              have HX0 := hide hx0e
              rw [hx0e, Nat.add_zero] at hx0
              rw [ch_end (k := n' + 1) (by have := unhide HLI; omega)] at HCH
              rw [show n' + 1 = ints.length from unhide HLI, List.take_length] at HO
              clear hcell HIq ht hx0e
              have hFq := unhide HFW wq hbwq
              obtain ⟨fb, fo, rfl, hfb, hfcell⟩ := hFq.cellAt (by omega)
              have hft := hfcell t (by omega)
              obtain ⟨B, hB⟩ : ∃ B : Bool, fitsB F t x0 = B := ⟨_, rfl⟩
              have HBB := hide hB
              have HFB : Hid (B = decide (0 ≤ idxFrom (slAt F t).ints x0 0)) := hB.symm
              have C1 := hide (fun d os => Calls.regrown_of (in_below (slAt F t).la (slAt F t).ln (slAt F t).lc (slAt F t).ints x0 (Sort.grow (redrawn wq d) os) ((hFq.later (below_regrown wq d os)).mem (show t < fn by omega))))
              rw [← unhide HFB] at C1
              have q1 := cell_regrown hx0
              have q2 := cell_regrown tq.c1
              have q3 := cell_regrown hx9
              have q4 := cell_regrown hft
              have hlc' := (hFq.mem (show t < fn by omega)).2.1
              have hlm' := (hFq.mem (show t < fn by omega)).2.2.1
              unfold maxLen at hlm'
              clear hfcell hFq HFB hB
              generalize (slAt F t).la = sla at *
              generalize (slAt F t).ln = sln at *
              generalize (slAt F t).lc = slc at *
              have zw : IntKind.i64.wrap ((n' : Int) + 1 - 1) = (n' : Int) := by rw [IntKind.wrap_i64]; omega
              have zw2 : IntKind.i64.wrap (n' : Int) = (n' : Int) := by rw [IntKind.wrap_i64]; omega
              have zw3 : (n' : Int) < (n' : Int) + 1 := by omega
              have zw5 : t < fn := by omega
              go_wp2_with fail
              refine wp_region_quiet_below (by kernel_rfl) (by kernel_rfl) ?_
              iterate 15 (quiet_step (with_reducible exact unhide C1 _ _))
              refine wpQuiet_nil ?_
              intro w3 hw'
              obtain ⟨⟨dq, osq⟩, hw''⟩ := hw'
              have hb3 : Below wq.heap.size wq w3 := by rw [hw'']; exact below_regrown _ _ _
              clear hw''
              have hbw3 := hbwq.trans (hb3.mono hbwq.size)
              have hbr3 := hbq.trans (hb3.mono hbq.size)
              have HO3 := hide (owns_later (unhide HO) hb3)
              have t3 := t1.later hbr3
              have y0 := cell_regrown ((hb3.cell (p := ⟨b, off, none⟩) (World.block_lt_of_cell? wq _ hx0)).trans hx0)
              have r0 := cell_regrown t3.c0
              have r2 := cell_regrown t3.c2
              have r3 := cell_regrown t3.c3
              clear q1 q2 q3 q4 hx9 hft C1 f1q
              by_cases g1 : (n' : Int) + 1 ≤ rd
              · by_cases g2 : x0 < gv
                · have HB : Hid (okC gv rd rw F false ints = false) := by
                    show _ = _
                    unfold okC roundB
                    rw [if_neg (by simp), unhide HX0, ← unhide HLI]
                    simp [g2]
                  have d1 : decide (rd < (n' : Int) + 1) = false := decide_eq_false (by omega)
                  have d2 : decide (x0 < gv) = true := decide_eq_true g2
                  go_wp2_with fail
                  refine wp_region_quiet_below (by kernel_rfl) (by kernel_rfl) ?_
                  iterate 14 (quiet_step (fail))
                  iterate 2 (with_reducible refine quiet_skip (by kernel_rfl) ?_)
                  iterate 1 (quiet_step (fail))
                  refine wpQuiet_nil ?_
                  intro w4 hw'
                  obtain ⟨⟨dq, osq⟩, hw''⟩ := hw'
                  have hb4 : Below w3.heap.size w3 w4 := by rw [hw'']; exact below_regrown _ _ _
                  clear hw''
                  go_wp2
                  refine bodyPost_ret (v := .tuple #[.int .i64 0, .int .i64 11]) (by simp [results, Try.results6, go_sem]) rfl ⟨?_, hbw3.trans (hb4.mono hbw3.size)⟩
                  rw [(unhide HRN false (unhide HCH) (unhide HB)).1 rfl]
                  rfl
                · have HB : Hid (okC gv rd rw F false ints = B) := by
                    show _ = _
                    unfold okC roundB
                    rw [if_neg (by simp), unhide HX0, ← unhide HLI, Nat.add_sub_cancel, unhide HX9, Int.toNat_natCast, unhide HBB]
                    rw [decide_eq_true (show ((n' + 1 : Nat) : Int) ≤ rd by omega), decide_eq_false g2]
                    simp
                  have d1 : decide (rd < (n' : Int) + 1) = false := decide_eq_false (by omega)
                  have d2 : decide (x0 < gv) = false := decide_eq_false g2
                  cases B with
                  | true =>
                    go_wp2_with fail
                    refine wp_region_quiet_below (by kernel_rfl) (by kernel_rfl) ?_
                    iterate 17 (quiet_step (fail))
                    refine wpQuiet_nil ?_
                    intro w4 hw'
                    obtain ⟨⟨dq, osq⟩, hw''⟩ := hw'
                    have hb4 : Below w3.heap.size w3 w4 := by rw [hw'']; exact below_regrown _ _ _
                    clear hw''
                    go_wp2
                    go_roundw
                    case rel =>
                      refine ⟨hbr3.trans (hb4.mono hbr3.size), k + 1, u ++ ints, g + (n' + 1), by omega, by go_num, by go_num, by omega, by omega, by rw [List.length_append]; have := unhide HLI; omega, ?_, ?_, ?_⟩
                      · have := eight_take (unhide HU8) h8 (Nat.le_refl ints.length) (fun t ht => unhide HV t (by have := unhide HLI; omega))
                        rw [List.take_length] at this
                        exact this
                      · rw [List.length_append, show u.length + ints.length = m by have := unhide HM; have := unhide HLI; omega]
                        exact owns_later (unhide HO3) hb4
                      · have hgi : g + giC false ints = g + (n' + 1) := by unfold giC; rw [if_neg (by simp), ← unhide HLI]; omega
                        rw [(unhide HRN true (unhide HCH) (unhide HB)).2 rfl, hgi]
                    case measure => simp [intOf]; omega
                  | false =>
                    go_wp2_with fail
                    refine wp_region_quiet_below (by kernel_rfl) (by kernel_rfl) ?_
                    iterate 17 (quiet_step (fail))
                    refine wpQuiet_nil ?_
                    intro w4 hw'
                    obtain ⟨⟨dq, osq⟩, hw''⟩ := hw'
                    have hb4 : Below w3.heap.size w3 w4 := by rw [hw'']; exact below_regrown _ _ _
                    clear hw''
                    go_wp2
                    refine bodyPost_ret (v := .tuple #[.int .i64 0, .int .i64 11]) (by simp [results, Try.results6, go_sem]) rfl ⟨?_, hbw3.trans (hb4.mono hbw3.size)⟩
                    rw [(unhide HRN false (unhide HCH) (unhide HB)).1 rfl]
                    rfl
              · have HB : Hid (okC gv rd rw F false ints = false) := by
                  show _ = _
                  unfold okC roundB
                  rw [if_neg (by simp), ← unhide HLI, decide_eq_false (show ¬ ((n' + 1 : Nat) : Int) ≤ rd by omega)]
                  simp
                have d1 : decide (rd < (n' : Int) + 1) = true := decide_eq_true (by omega)
                go_wp2_with fail
                refine wp_region_quiet_below (by kernel_rfl) (by kernel_rfl) ?_
                iterate 6 (quiet_step (fail))
                iterate 6 (with_reducible refine quiet_skip (by kernel_rfl) ?_)
                iterate 2 (quiet_step (fail))
                iterate 2 (with_reducible refine quiet_skip (by kernel_rfl) ?_)
                iterate 1 (quiet_step (fail))
                refine wpQuiet_nil ?_
                intro w4 hw'
                obtain ⟨⟨dq, osq⟩, hw''⟩ := hw'
                have hb4 : Below w3.heap.size w3 w4 := by rw [hw'']; exact below_regrown _ _ _
                clear hw''
                go_wp2
                refine bodyPost_ret (v := .tuple #[.int .i64 0, .int .i64 11]) (by simp [results, Try.results6, go_sem]) rfl ⟨?_, hbw3.trans (hb4.mono hbw3.size)⟩
                rw [(unhide HRN false (unhide HCH) (unhide HB)).1 rfl]
                rfl
        · obtain ⟨q, hq0⟩ : ∃ q, k = rn + q := ⟨k - rn, by omega⟩
          have hd1 : decide ((rn : Int) ≤ (k : Int)) = true := by simp; omega
          have hq : q < on := by omega
          have hzs : IntKind.i64.wrap ((k : Int) - (rn : Int)) = (q : Int) := by rw [IntKind.wrap_i64]; omega
          obtain ⟨b, off, rfl, hb, hcell⟩ := (h2.later hbwr).cellAt (by omega)
          have hck := hcell q hq
          have HIW : Hid (∀ W, Below w.heap.size w W → Ints W (slAt R2 q).la (slAt R2 q).ln (slAt R2 q).lc (slAt R2 q).ints) := fun W hW => (h2.later hW).mem hq
          have hsm := unhide HL2 (slAt R2 q) (slAt_mem (by have := unhide H2N; omega))
          have HDR : Hid ((allC (lists R1) (lists R2)).drop k = (true, (slAt R2 q).ints) :: (allC (lists R1) (lists R2)).drop (k + 1)) := by
            have := allC_row R1 R2 (j := q) (by have := unhide H2N; omega)
            rw [← unhide H1N, ← hq0] at this
            exact this
          have HKQ := hide hq0
          clear hcell hq0
          generalize slAt R2 q = S at *
          obtain ⟨la, ln, lc, ints⟩ := S
          simp only at hck HIW hsm HDR
          have HLI := hide (unhide HIW wr hbwr).1
          have hlc := (unhide HIW wr hbwr).2.1
          have hlm := (unhide HIW wr hbwr).2.2.1
          unfold maxLen at hlm
          rw [unhide HDR] at HRUN
          by_cases hs2 : ln < 2
          · have hE : chE F F.length ints u = 7 := by unfold chE; rw [if_pos (by have := unhide HLI; omega)]
            have HR := hide (runR_bad (gv := gv) (rd := rd) (rw := rw) (row := true) (rest := (allC (lists R1) (lists R2)).drop (k + 1)) (g := g) (show ¬ chE F F.length ints u = 0 by rw [hE]; omega))
            rw [hE] at HR
            clear hE
            have hd2 : decide ((ln : Int) < 2) = true := by simp; omega
            go_wp2
            refine bodyPost_ret (v := .tuple #[.int .i64 0, .int .i64 7]) (by simp [results, Try.results6, go_sem]) rfl ⟨?_, hbwr⟩
            rw [unhide HCK, unhide HRUN, unhide HR]
            rfl
          have hd2 : decide ((ln : Int) < 2) = false := by simp; omega
          have HE : Hid (chE F F.length ints u = chFrom F fn ints u 0) := by show _ = _; unfold chE; rw [if_neg (by have := unhide HLI; omega), ← unhide HFN]
          have HRB : Hid (∀ e : Int, ¬ e = 0 → chFrom F fn ints u 0 = e → chkR gv rd rw F (lists R1) (lists R2) = (0, e)) := by
            intro e he hc
            rw [unhide HCK, unhide HRUN, runR_bad (by rw [unhide HE, hc]; exact he), unhide HE, hc]
          have HRN : Hid (∀ B : Bool, chFrom F fn ints u 0 = 0 → okC gv rd rw F true ints = B → (B = false → chkR gv rd rw F (lists R1) (lists R2) = (0, 11)) ∧ (B = true → runR gv rd rw F (allC (lists R1) (lists R2)) [] 0 = runR gv rd rw F ((allC (lists R1) (lists R2)).drop (k + 1)) (u ++ ints) (g + giC true ints))) := by
            intro B hc hB
            refine ⟨fun hb => ?_, fun hb => ?_⟩
            · rw [unhide HCK, unhide HRUN, runR_no (by rw [unhide HE, hc]) (by rw [hB, hb])]
            · rw [unhide HRUN, runR_on (by rw [unhide HE, hc]) (by rw [hB, hb])]
          clear HE HRUN HDR
          go_wp2_with fail
          clear hck
          try rw [show decide (rn ≤ k) = true from decide_eq_true (by omega)]
          go_loopw [14, 9, 15, 16] (fun i v _ _ wz => Below w1.heap.size w1 wz ∧ ∃ j m : Nat, j ≤ ln ∧ i = .int .i64 j ∧ m = u.length + j ∧ wz.ownsRow w1.heap.size 3 1 v m (intVals (u ++ ints.take j)) ∧ (∀ t, t < j → 0 ≤ ints[t]?.getD 0 ∧ ints[t]?.getD 0 < fn) ∧ chFrom F fn ints u 0 = chFrom F fn ints u j) (fun i _ _ _ _ => ln - (intOf i).toNat)
          case atStart => exact ⟨hbr, 0, u.length, Nat.zero_le _, rfl, rfl, by rw [List.take_zero, List.append_nil]; exact unhide HOWN, fun t ht => by omega, rfl⟩
          case round =>
            rename World => wq
            obtain ⟨hbq, j, m, hj, rfl, hm, hown, hv, hch⟩ := hrel
            have HO := hide hown
            have HV := hide hv
            have HCH := hide hch
            have HM := hide hm
            clear hown hv hch hm HOWN
            have hbwq := hbw1.trans (hbq.mono hbw1.size)
            have tq := t1.later hbq
            have f1q := cell_regrown tq.c1
            by_cases hjl : j < ln
            · have hIq := unhide HIW wq hbwq
              obtain ⟨b, off, rfl, hb, hcell⟩ := hIq.cellAt (by omega)
              have hx := hcell j hjl
              have HCL := hide hcell
              have hkl : j < ints.length := by have := unhide HLI; omega
              have HST := hide (ch_step (F := F) (n := fn) (l := ints) (u := u) hkl)
              have HKL := hide hkl
              have hjc : j < lc := by omega
              clear hcell hkl hIq
              by_cases c1 : ints[j]?.getD 0 < 0
              · have HR : Hid (chFrom F fn ints u j = 8) := by rw [unhide HST, if_pos (.inl c1)]; rfl
                generalize ints[j]?.getD 0 = x at *
                have e1 : decide (x < 0) = true := decide_eq_true c1
                have xq := cell_regrown hx
                go_wp2_with fail
                refine wp_region_quiet_below (by kernel_rfl) (by kernel_rfl) ?_
                iterate 6 (quiet_step (fail))
                iterate 8 (with_reducible refine quiet_skip (by kernel_rfl) ?_)
                iterate 1 (quiet_step (fail))
                refine wpQuiet_nil ?_
                intro wQ hw'
                obtain ⟨⟨dq, osq⟩, hw''⟩ := hw'
                have hbQ : Below wq.heap.size wq wQ := by rw [hw'']; exact below_regrown _ _ _
                clear hw''
                go_wp2
                refine bodyPost_ret (v := .tuple #[.int .i64 0, .int .i64 8]) (by simp [results, Try.results6, go_sem]) rfl ⟨?_, hbwq.trans (hbQ.mono hbwq.size)⟩
                rw [unhide HRB 8 (by omega) (by rw [unhide HCH, unhide HR])]
                rfl
              by_cases c2 : (fn : Int) ≤ ints[j]?.getD 0
              · have HR : Hid (chFrom F fn ints u j = 8) := by rw [unhide HST, if_pos (.inr c2)]; rfl
                generalize ints[j]?.getD 0 = x at *
                have e1 : decide (x < 0) = false := decide_eq_false c1
                have e2 : decide ((fn : Int) ≤ x) = true := decide_eq_true c2
                have xq := cell_regrown hx
                go_wp2_with fail
                refine wp_region_quiet_below (by kernel_rfl) (by kernel_rfl) ?_
                iterate 15 (quiet_step (fail))
                refine wpQuiet_nil ?_
                intro wQ hw'
                obtain ⟨⟨dq, osq⟩, hw''⟩ := hw'
                have hbQ : Below wq.heap.size wq wQ := by rw [hw'']; exact below_regrown _ _ _
                clear hw''
                go_wp2
                refine bodyPost_ret (v := .tuple #[.int .i64 0, .int .i64 8]) (by simp [results, Try.results6, go_sem]) rfl ⟨?_, hbwq.trans (hbQ.mono hbwq.size)⟩
                rw [unhide HRB 8 (by omega) (by rw [unhide HCH, unhide HR])]
                rfl
              obtain ⟨x, hx2⟩ : ∃ x : Nat, ints[j]?.getD 0 = x := ⟨(ints[j]?.getD 0).toNat, by omega⟩
              have HX2 := hide hx2
              rw [hx2] at hx c1 c2 HST
              rw [if_neg (show ¬ ((x : Int) < 0 ∨ (fn : Int) ≤ (x : Int)) by omega)] at HST
              clear hx2
              have e1 : decide ((x : Int) < 0) = false := decide_eq_false c1
              have e2 : decide ((fn : Int) ≤ (x : Int)) = false := decide_eq_false c2
              have xq := cell_regrown hx
              obtain ⟨ua, uc, rfl, hIu⟩ := ints_owns (unhide HO)
              have huc := hIu.2.1
              have hum := hIu.2.2.1
              unfold maxLen at hum
              go_wp2_with fail
              refine wp_region_quiet_below (by kernel_rfl) (by kernel_rfl) ?_
              iterate 15 (quiet_step (fail))
              refine wpQuiet_nil ?_
              intro wQ hw'
              obtain ⟨⟨dq, osq⟩, hw''⟩ := hw'
              have hbQ : Below wq.heap.size wq wQ := by rw [hw'']; exact below_regrown _ _ _
              clear hw''
              have hbwQ := hbwq.trans (hbQ.mono hbwq.size)
              have hbrQ := hbq.trans (hbQ.mono hbq.size)
              have xQ := (hbQ.cell (p := ⟨b, off + j, none⟩) (World.block_lt_of_cell? wq _ hx)).trans hx
              have HOQ := hide (owns_later (unhide HO) hbQ)
              have CI := in_any ua m uc (u ++ ints.take j) (x : Int) wQ (hIu.later hbQ)
              rw [idx_mem] at CI
              clear hIu
              have tQ := t1.later hbrQ
              clear f1q xq hx HO tq
              by_cases c3 : (x : Int) ∈ u ++ ints.take j
              · rw [decide_eq_true c3] at CI
                rw [if_pos c3] at HST
                have CI2 := hide CI
                clear CI c3
                go_wp2_with (go_at_call 15; refine (unhide CI2).mono ?_; rintro e w2 ⟨rfl, hw2⟩; subst w2)
                go_wp2
                refine bodyPost_ret (v := .tuple #[.int .i64 0, .int .i64 6]) (by simp [results, Try.results6, go_sem]) rfl ⟨?_, hbwQ⟩
                rw [unhide HRB 6 (by omega) (by rw [unhide HCH, unhide HST])]
                rfl
              rw [decide_eq_false c3] at CI
              rw [if_neg c3] at HST
              have CI2 := hide CI
              clear CI c3
              by_cases c4 : 0 < j
              · obtain ⟨j', rfl⟩ : ∃ j', j = j' + 1 := ⟨j - 1, by omega⟩
                have hv' := unhide HV j' (by omega)
                obtain ⟨y, hy⟩ : ∃ y : Nat, ints[j']?.getD 0 = y := ⟨(ints[j']?.getD 0).toNat, by omega⟩
                have hpv : wQ.cell? ⟨b, off + j', none⟩ = some (.int .i64 (ints[j']?.getD 0)) := (hbQ.cell (p := ⟨b, off + j', none⟩) hb).trans (unhide HCL j' (by omega))
                rw [Nat.add_sub_cancel, hy, Int.toNat_natCast] at HST
                rw [hy] at hpv hv'
                have hFQ := unhide HFW wQ hbwQ
                obtain ⟨fb, fo, rfl, hfb, hfcell⟩ := hFQ.cellAt (by omega)
                have hfy := hfcell y (by omega)
                have HFB : Hid (fitsB F y x = decide (0 ≤ idxFrom (slAt F y).ints x 0)) := rfl
                have C1 := hide (fun d os => Calls.regrown_of (in_below (slAt F y).la (slAt F y).ln (slAt F y).lc (slAt F y).ints x (Sort.grow (redrawn wQ d) os) ((hFQ.later (below_regrown wQ d os)).mem (show y < fn by omega))))
                rw [← unhide HFB] at C1
                have q1 := cell_regrown xQ
                have q2 := cell_regrown tQ.c1
                have q3 := cell_regrown hpv
                have q4 := cell_regrown hfy
                have hlc' := (hFQ.mem (show y < fn by omega)).2.1
                have hlm' := (hFQ.mem (show y < fn by omega)).2.2.1
                unfold maxLen at hlm'
                clear hfcell hFQ HFB hy
                generalize (slAt F y).la = sla at *
                generalize (slAt F y).ln = sln at *
                generalize (slAt F y).lc = slc at *
                have e4 : decide (0 < (j' : Int) + 1) = true := decide_eq_true (by omega)
                have zw : IntKind.i64.wrap ((j' : Int) + 1 - 1) = (j' : Int) := by rw [IntKind.wrap_i64]; omega
                have zw2 : IntKind.i64.wrap (j' : Int) = (j' : Int) := by rw [IntKind.wrap_i64]; omega
                have zw3 : (j' : Int) < (ln : Int) := by omega
                have zw4 : j' < ln := by omega
                have zw5 : y < fn := by omega
                have zw6 : (j' : Int) + 1 < (ln : Int) := by omega
                have zw7 : (0 : Int) ≤ (j' : Int) + 1 := by omega
                cases hfB : fitsB F y x with
                | false =>
                  rw [hfB] at HST C1
                  have HST2 : Hid (chFrom F fn ints u (j' + 1) = 11) := by rw [unhide HST, if_pos ⟨by omega, rfl⟩]; rfl
                  go_wp2_with (go_at_call 15; refine (unhide CI2).mono ?_; rintro e w2 ⟨rfl, hw2⟩; subst w2)
                  refine wp_region_quiet_below (by kernel_rfl) (by kernel_rfl) ?_
                  iterate 15 (quiet_step (with_reducible exact unhide C1 _ _))
                  refine wpQuiet_nil ?_
                  intro w3 hw'
                  obtain ⟨⟨dq, osq⟩, hw''⟩ := hw'
                  have hb3 : Below wQ.heap.size wQ w3 := by rw [hw'']; exact below_regrown _ _ _
                  clear hw''
                  go_wp2
                  refine bodyPost_ret (v := .tuple #[.int .i64 0, .int .i64 11]) (by simp [results, Try.results6, go_sem]) rfl ⟨?_, hbwQ.trans (hb3.mono hbwQ.size)⟩
                  rw [unhide HRB 11 (by omega) (by rw [unhide HCH, unhide HST2])]
                  rfl
                | true =>
                  rw [hfB] at HST C1
                  have HST2 : Hid (chFrom F fn ints u (j' + 1) = chFrom F fn ints u (j' + 1 + 1)) := by rw [unhide HST, if_neg (by simp)]; rfl
                  go_wp2_with (go_at_call 15; refine (unhide CI2).mono ?_; rintro e w2 ⟨rfl, hw2⟩; subst w2)
                  refine wp_region_quiet_below (by kernel_rfl) (by kernel_rfl) ?_
                  iterate 15 (quiet_step (with_reducible exact unhide C1 _ _))
                  refine wpQuiet_nil ?_
                  intro w3 hw'
                  obtain ⟨⟨dq, osq⟩, hw''⟩ := hw'
                  have hb3 : Below wQ.heap.size wQ w3 := by rw [hw'']; exact below_regrown _ _ _
                  clear hw''
                  have hbr3 := hbrQ.trans (hb3.mono hbrQ.size)
                  have HO3 := hide (owns_later (unhide HOQ) hb3)
                  have x3 := (hb3.cell (p := ⟨b, off + (j' + 1), none⟩) (World.block_lt_of_cell? wQ _ xQ)).trans xQ
                  clear q1 q2 q3 q4 hpv hfy C1
                  go_wp2_with (at_builtin; refine wpList_append_int2 _ rfl _ _ rfl w1.heap.size _ m _ rfl ((unhide HO3).alloc _) w3.heap.size (x : Int) rfl (by simp) (by have := unhide HM; omega) (by have := hbr3.size; simp; omega) ?_; intro v2 w2 ho2 hg2)
                  go_roundw
                  case rel =>
                    have hb5 := (((Below.refl w1.heap.size w3).alloc hbr3.size (.cells #[.int .i64 (x : Int)] 3)).grown hg2 (by have := hbr3.size; simp; omega) (fun q hq => ((unhide HO3).lt q hq).1))
                    refine ⟨hbr3.trans hb5, j' + 1 + 1, m + 1, by omega, by go_num, by have := unhide HM; omega, ?_, fun t ht => ?_, by rw [unhide HCH, unhide HST2]⟩
                    · rw [take_snocI ints (unhide HKL), ← List.append_assoc, intVals_snoc, unhide HX2]
                      exact ho2
                    · by_cases e : t = j' + 1
                      · rw [e, unhide HX2]; omega
                      · exact unhide HV t (by omega)
                  case measure => simp [intOf]; omega
              · obtain rfl : j = 0 := by omega
                have HST2 : Hid (chFrom F fn ints u 0 = chFrom F fn ints u (0 + 1)) := by rw [unhide HST, if_neg (by omega)]; rfl
                rw [Nat.add_zero] at xQ
                have e4 : decide ((0 : Int) < 0) = false := by decide
                go_wp2_with (first | (go_at_call 15; refine (unhide CI2).mono ?_; rintro e w2 ⟨rfl, hw2⟩; subst w2) | (at_builtin; refine wpList_append_int2 _ rfl _ _ rfl w1.heap.size _ m _ rfl ((unhide HOQ).alloc _) wQ.heap.size (x : Int) rfl (by simp) (by have := unhide HM; omega) (by have := hbrQ.size; simp; omega) ?_; intro v2 w2 ho2 hg2))
                go_roundw
                case rel =>
                  have hb5 := (((Below.refl w1.heap.size wQ).alloc hbrQ.size (.cells #[.int .i64 (x : Int)] 3)).grown hg2 (by have := hbrQ.size; simp; omega) (fun q hq => ((unhide HOQ).lt q hq).1))
                  refine ⟨hbrQ.trans hb5, 0 + 1, m + 1, by omega, by go_num, by have := unhide HM; omega, ?_, fun t ht => ?_, unhide HST2⟩
                  · rw [take_snocI ints (unhide HKL), ← List.append_assoc, intVals_snoc, unhide HX2]
                    exact ho2
                  · by_cases e : t = 0
                    · rw [e, unhide HX2]; omega
                    · exact unhide HV t (by omega)
                case measure => simp [intOf]; omega
            · obtain rfl : j = ln := by omega
              obtain ⟨n', rfl⟩ : ∃ n', j = n' + 1 := ⟨j - 1, by omega⟩
              have HIq := unhide HIW wq hbwq
              obtain ⟨b, off, rfl, hb, hcell⟩ := HIq.cellAt (by omega)
              have hx0 := hcell 0 (by omega)
              have hx9 := hcell n' (by omega)
              have hv9 := unhide HV n' (by omega)
              obtain ⟨t, ht⟩ : ∃ t : Nat, ints[n']?.getD 0 = t := ⟨(ints[n']?.getD 0).toNat, by omega⟩
              rw [ht] at hx9 hv9
              have HX9 := hide ht
              obtain ⟨x0, hx0e⟩ : ∃ x0 : Int, ints[0]?.getD 0 = x0 := ⟨_, rfl⟩
              have HX0 := hide hx0e
              rw [hx0e, Nat.add_zero] at hx0
              rw [ch_end (k := n' + 1) (by have := unhide HLI; omega)] at HCH
              rw [show n' + 1 = ints.length from unhide HLI, List.take_length] at HO
              clear hcell HIq ht hx0e
              have hFq := unhide HFW wq hbwq
              obtain ⟨fb, fo, rfl, hfb, hfcell⟩ := hFq.cellAt (by omega)
              have hft := hfcell t (by omega)
              obtain ⟨B, hB⟩ : ∃ B : Bool, fitsB F t x0 = B := ⟨_, rfl⟩
              have HBB := hide hB
              have HFB : Hid (B = decide (0 ≤ idxFrom (slAt F t).ints x0 0)) := hB.symm
              have C1 := hide (fun d os => Calls.regrown_of (in_below (slAt F t).la (slAt F t).ln (slAt F t).lc (slAt F t).ints x0 (Sort.grow (redrawn wq d) os) ((hFq.later (below_regrown wq d os)).mem (show t < fn by omega))))
              rw [← unhide HFB] at C1
              have q1 := cell_regrown hx0
              have q2 := cell_regrown tq.c1
              have q3 := cell_regrown hx9
              have q4 := cell_regrown hft
              have hlc' := (hFq.mem (show t < fn by omega)).2.1
              have hlm' := (hFq.mem (show t < fn by omega)).2.2.1
              unfold maxLen at hlm'
              clear hfcell hFq HFB hB
              generalize (slAt F t).la = sla at *
              generalize (slAt F t).ln = sln at *
              generalize (slAt F t).lc = slc at *
              have zw : IntKind.i64.wrap ((n' : Int) + 1 - 1) = (n' : Int) := by rw [IntKind.wrap_i64]; omega
              have zw2 : IntKind.i64.wrap (n' : Int) = (n' : Int) := by rw [IntKind.wrap_i64]; omega
              have zw3 : (n' : Int) < (n' : Int) + 1 := by omega
              have zw5 : t < fn := by omega
              go_wp2_with fail
              refine wp_region_quiet_below (by kernel_rfl) (by kernel_rfl) ?_
              iterate 15 (quiet_step (with_reducible exact unhide C1 _ _))
              refine wpQuiet_nil ?_
              intro w3 hw'
              obtain ⟨⟨dq, osq⟩, hw''⟩ := hw'
              have hb3 : Below wq.heap.size wq w3 := by rw [hw'']; exact below_regrown _ _ _
              clear hw''
              have hbw3 := hbwq.trans (hb3.mono hbwq.size)
              have hbr3 := hbq.trans (hb3.mono hbq.size)
              have HO3 := hide (owns_later (unhide HO) hb3)
              have t3 := t1.later hbr3
              have y0 := cell_regrown ((hb3.cell (p := ⟨b, off, none⟩) (World.block_lt_of_cell? wq _ hx0)).trans hx0)
              have r0 := cell_regrown t3.c0
              have r2 := cell_regrown t3.c2
              have r3 := cell_regrown t3.c3
              clear q1 q2 q3 q4 hx9 hft C1 f1q
              by_cases g1 : (n' : Int) ≤ rw
              · by_cases g2 : x0 < gv
                · have HB : Hid (okC gv rd rw F true ints = true) := by
                    show _ = _
                    unfold okC rowB
                    rw [if_pos rfl, unhide HX0, ← unhide HLI]
                    simp; omega
                  have d1 : decide (rw < (n' : Int)) = false := decide_eq_false (by omega)
                  have d2 : decide (gv ≤ x0) = false := decide_eq_false (by omega)
                  go_wp2_with fail
                  refine wp_region_quiet_below (by kernel_rfl) (by kernel_rfl) ?_
                  iterate 14 (quiet_step (fail))
                  refine wpQuiet_nil ?_
                  intro w4 hw'
                  obtain ⟨⟨dq, osq⟩, hw''⟩ := hw'
                  have hb4 : Below w3.heap.size w3 w4 := by rw [hw'']; exact below_regrown _ _ _
                  clear hw''
                  go_wp2
                  go_roundw
                  case rel =>
                    refine ⟨hbr3.trans (hb4.mono hbr3.size), k + 1, u ++ ints, g + n', by omega, by go_num, by go_num, by omega, by omega, by rw [List.length_append]; have := unhide HLI; omega, ?_, ?_, ?_⟩
                    · have := eight_take (unhide HU8) h8 (Nat.le_refl ints.length) (fun t ht => unhide HV t (by have := unhide HLI; omega))
                      rw [List.take_length] at this
                      exact this
                    · rw [List.length_append, show u.length + ints.length = m by have := unhide HM; have := unhide HLI; omega]
                      exact owns_later (unhide HO3) hb4
                    · have hgi : g + giC true ints = g + n' := by unfold giC; rw [if_pos rfl, ← unhide HLI]; omega
                      rw [(unhide HRN true (unhide HCH) (unhide HB)).2 rfl, hgi]
                  case measure => simp [intOf]; omega
                · have HB : Hid (okC gv rd rw F true ints = false) := by
                    show _ = _
                    unfold okC rowB
                    rw [if_pos rfl, unhide HX0, ← unhide HLI]
                    simp; omega
                  have d1 : decide (rw < (n' : Int)) = false := decide_eq_false (by omega)
                  have d2 : decide (gv ≤ x0) = true := decide_eq_true (by omega)
                  go_wp2_with fail
                  refine wp_region_quiet_below (by kernel_rfl) (by kernel_rfl) ?_
                  iterate 14 (quiet_step (fail))
                  refine wpQuiet_nil ?_
                  intro w4 hw'
                  obtain ⟨⟨dq, osq⟩, hw''⟩ := hw'
                  have hb4 : Below w3.heap.size w3 w4 := by rw [hw'']; exact below_regrown _ _ _
                  clear hw''
                  go_wp2
                  refine bodyPost_ret (v := .tuple #[.int .i64 0, .int .i64 11]) (by simp [results, Try.results6, go_sem]) rfl ⟨?_, hbw3.trans (hb4.mono hbw3.size)⟩
                  rw [(unhide HRN false (unhide HCH) (unhide HB)).1 rfl]
                  rfl
              · have HB : Hid (okC gv rd rw F true ints = false) := by
                  show _ = _
                  unfold okC rowB
                  rw [if_pos rfl, unhide HX0, ← unhide HLI]
                  simp; omega
                have d1 : decide (rw < (n' : Int)) = true := decide_eq_true (by omega)
                go_wp2_with fail
                refine wp_region_quiet_below (by kernel_rfl) (by kernel_rfl) ?_
                iterate 7 (quiet_step (fail))
                iterate 6 (with_reducible refine quiet_skip (by kernel_rfl) ?_)
                iterate 1 (quiet_step (fail))
                refine wpQuiet_nil ?_
                intro w4 hw'
                obtain ⟨⟨dq, osq⟩, hw''⟩ := hw'
                have hb4 : Below w3.heap.size w3 w4 := by rw [hw'']; exact below_regrown _ _ _
                clear hw''
                go_wp2
                refine bodyPost_ret (v := .tuple #[.int .i64 0, .int .i64 11]) (by simp [results, Try.results6, go_sem]) rfl ⟨?_, hbw3.trans (hb4.mono hbw3.size)⟩
                rw [(unhide HRN false (unhide HCH) (unhide HB)).1 rfl]
                rfl
      · have hd0 : decide ((k : Int) < (rn : Int) + (on : Int)) = false := by simp; omega
        have HR : Hid ((allC (lists R1) (lists R2)).drop k = []) := List.drop_eq_nil_of_le (by unfold allC lists; simp; have := unhide H1N; have := unhide H2N; omega)
        go_wp2
        refine bodyPost_ret (v := .tuple #[.int .i64 g, .int .i64 0]) (by simp [results, Try.results6, go_sem]) rfl ⟨?_, hbwr⟩
        rw [unhide HCK, unhide HRUN, unhide HR, runR]
        rfl
  · have hzb : (maySw gv rd rw F != 0) = true := by simpa using hz
    have HCK : Hid (chkR gv rd rw F (lists R1) (lists R2) = (0, maySw gv rd rw F)) := by show _ = _; unfold chkR; rw [if_neg hz]
    clear hz
    generalize maySw gv rd rw F = M at *
    go_wp2
    refine bodyPost_ret (v := .tuple #[.int .i64 0, .int .i64 M]) (by simp [results, Try.results6, go_sem]) rfl ⟨?_, hbw1⟩
    rw [unhide HCK]
    rfl
end Go.Proofs.Ytfagkgehljoppaa
