import Derived.Test.YtajdijjecojdhaaDoorWCC
import Derived.Defers
import Derived.Recover
import Derived.Laws.Pointers
import Derived.Test.YtajdijjecojdhaaDoorWX
import Derived.Deep.RegionHeld3
import Derived.Test.YtajdijjecojdhaaDoorWNK
namespace Go.Proofs.YtajdijjecojdhaaDoor
open Go.RowKit
theorem catch_idle (p : Addr) (w : World) :
    CallsD Tryd.prog 24 #[.pointer (some p)] .returning w fun e u' w' => e = .returned (.tuple #[]) ∧ u' = .returning ∧ w' = w := by
  refine callsD_of_wpS Tryd.func24 rfl fun c₀ cs hu => ?_
  apply wpS_seq
  apply wpS_region
  simp [wpOpsS, go_sem, recoverD, hu, Tryd.ntmps24, Exit.thenS]
  change Code.wpS _ _ _ { tmps := #[.pointer (some p), .nilIface, undef, undef, .nilIface, undef, undef, undef, undef, undef, undef, undef, undef, undef, undef, undef, undef], defers := [] } _ _
  refine wpS_of_wp ?_
  go_wp2
  cases c₀
  simp_all [bodyPostS, results, Tryd.results24]
theorem assert_thrown (k : Int) (w : World) : (Instr.typeAssert (.iface 52 (.agg #[.int .i64 k])) 20 52 true).run Tryd.prog w = .ok (.tuple #[.agg #[.int .i64 k], .bool true]) w := by kernel_rfl
set_option maxRecDepth 100000 in
set_option maxHeartbeats 4000000 in
theorem catch_thrown (p : Addr) (x k : Int) (w : World) (hc : w.cell? p = some (.int .i64 x)) (hz : w.frozen? p = false) (hb : p.block < w.heap.size) :
    CallsD Tryd.prog 24 #[.pointer (some p)] (.panicking [{ v := thrown k, recovered := false }]) w fun e u' w' =>
      e = .returned (.tuple #[]) ∧ u' = .panicking [{ v := thrown k, recovered := true }] ∧ w' = (w.alloc (.cells #[.int .i64 k] 52)).setCell p (.int .i64 k) := by
  refine callsD_of_wpS Tryd.func24 rfl fun c₀ cs hu => ?_
  apply wpS_seq
  apply wpS_region
  simp [wpOpsS, go_sem, recoverD, hu, Tryd.ntmps24, Exit.thenS]
  change Code.wpS _ _ _ { tmps := #[.pointer (some p), (thrown k), undef, undef, (thrown k), undef, undef, undef, undef, undef, undef, undef, undef, undef, undef, undef, undef], defers := [] } _ _
  refine wpS_of_wp ?_
  unfold thrown
  have hta := assert_thrown k
  have hz2 : ∀ o, (w.alloc o).frozen? p = false := fun o => (World.frozen?_alloc_old w o p (by omega)).trans hz
  go_wp2
  simp [bodyPostS, results, Tryd.results24]
end Go.Proofs.YtajdijjecojdhaaDoor
namespace Go.Proofs.YtajdijjecojdhaaDoor
open Go.RowKit
def sameAg (g h : Ag) : Bool := (g.name.toList == h.name.toList) && (decide (g.room = h.room) && decide (g.likes = h.likes))
def sagFuel (l m : List Ag) : Nat → Nat → Bool
  | 0, _ => true
  | f + 1, k => sameAg (agAt l k) (agAt m k) && sagFuel l m f (k + 1)
def sagFrom (l m : List Ag) (k : Nat) : Bool := sagFuel l m (l.length - k) k
theorem sagFrom_step {l m : List Ag} {k : Nat} (h : k < l.length) : sagFrom l m k = (sameAg (agAt l k) (agAt m k) && sagFrom l m (k+1)) := by
  unfold sagFrom
  rw [show l.length - k = (l.length - (k + 1)) + 1 by omega, sagFuel]
theorem sagFrom_yes {l m : List Ag} {k : Nat} (h : k < l.length) (e : sameAg (agAt l k) (agAt m k) = true) : sagFrom l m k = sagFrom l m (k+1) := by
  rw [sagFrom_step h, e, Bool.true_and]
theorem sagFrom_no {l m : List Ag} {k : Nat} (h : k < l.length) (e : sameAg (agAt l k) (agAt m k) = false) : sagFrom l m k = false := by
  rw [sagFrom_step h, e, Bool.false_and]
theorem sagFrom_end {l m : List Ag} {k : Nat} (h : ¬ k < l.length) : sagFrom l m k = true := by
  unfold sagFrom
  rw [show l.length - k = 0 by omega, sagFuel]
def sagB (l m : List Ag) : Bool := decide (l.length = m.length) && sagFrom l m 0
theorem agAt_mem {l : List Ag} {k : Nat} (h : k < l.length) : agAt l k ∈ l := by
  unfold agAt
  rw [List.getElem?_eq_getElem h]
  exact List.getElem_mem h
set_option maxRecDepth 100000 in
set_option maxHeartbeats 4000000 in
theorem sameAgents_any (a a' : Option Addr) (n c n' c' : Nat) (l m : List Ag) (w : World) (h : Ags w a n c l) (h' : Ags w a' n' c' m) :
    Calls Tryd.prog 35 #[.slice a n c, .slice a' n' c'] w fun e w' => e = .returned (.bool (sagB l m)) ∧ Below w.heap.size w w' := by
  obtain ⟨hn, hc, hm, hg, h⟩ := h
  obtain ⟨hn', hc', hm', hg', h'⟩ := h'
  unfold maxLen at hm hm'
  have HN := hide hn
  have HN' := hide hn'
  have HG := hide hg
  have HG' := hide hg'
  clear hn hn' hg hg'
  by_cases hnn : n = n'
  · subst hnn
    have HL : Hid (sagB l m = sagFrom l m 0) := by
      show sagB l m = sagFrom l m 0
      unfold sagB
      rw [decide_eq_true ((unhide HN).symm.trans (unhide HN')), Bool.true_and]
    rcases h with h0 | ⟨b, off, rfl, hb, hcell⟩
    · subst h0
      go_enter Tryd.func35, Tryd.ntmps35
      go_wp2
      refine wp_loop_rounds 1 ?_
      rw [rounds_succ]
      go_wp2
      go_ret
      exact ⟨ret_bool (by rw [unhide HL, sagFrom_end (by have := unhide HN; omega)]), Below.refl _ _⟩
    · rcases h' with h0 | ⟨b', off', rfl, hb', hcell'⟩
      · subst h0
        go_enter Tryd.func35, Tryd.ntmps35
        go_wp2
        refine wp_loop_rounds 1 ?_
        rw [rounds_succ]
        go_wp2
        go_ret
        exact ⟨ret_bool (by rw [unhide HL, sagFrom_end (by have := unhide HN; omega)]), Below.refl _ _⟩
      · go_enter Tryd.func35, Tryd.ntmps35
        go_wp2
        go_loopw [5] (fun i wr => Below w.heap.size w wr ∧ ∃ k : Nat, k ≤ n ∧ i = .int .i64 k ∧ sagFrom l m 0 = sagFrom l m k) (fun i _ => n - (intOf i).toNat)
        case atStart => exact ⟨Below.refl _ _, 0, Nat.zero_le _, rfl, rfl⟩
        case round =>
          obtain ⟨hbr, k, hk, rfl, hn⟩ := hrel
          have HI := hide hn
          clear hn
          by_cases hlt : k < n
          · obtain ⟨f1, f2, f3⟩ := hcell k hlt
            obtain ⟨f1', f2', f3'⟩ := hcell' k hlt
            have HM : Hid (Ints w (agAt l k).la (agAt l k).ln (agAt l k).lc (agAt l k).likes) := (unhide HG _ (agAt_mem (by have := unhide HN; omega))).1
            have HM' : Hid (Ints w (agAt m k).la (agAt m k).ln (agAt m k).lc (agAt m k).likes) := (unhide HG' _ (agAt_mem (by have := unhide HN'; omega))).1
            have HS : Hid (∀ e, sameAg (agAt l k) (agAt m k) = e → sagFrom l m k = (e && sagFrom l m (k+1))) := fun e he => by rw [sagFrom_step (by have := unhide HN; omega), he]
            clear hcell hcell' HG HG'
            generalize agAt l k = g at *
            generalize agAt m k = g' at *
            obtain ⟨gn, gr, ga, gl, gc, gk⟩ := g
            obtain ⟨hn, hr, ha, hl, hc2, hk2⟩ := g'
            simp only at f1 f2 f3 f1' f2' f3' HM HM'
            have hcl : ∀ w', Below w.heap.size w w' → (Below w.heap.size w w' ∧ w'.cell? ⟨b, off + k * 3, none⟩ = some (.string gn) ∧ w'.cell? ⟨b, off + k * 3 + 1, none⟩ = some (.int .i64 gr) ∧ w'.cell? ⟨b, off + k * 3 + 2, none⟩ = some (.slice ga gl gc) ∧ w'.cell? ⟨b', off' + k * 3, none⟩ = some (.string hn) ∧ w'.cell? ⟨b', off' + k * 3 + 1, none⟩ = some (.int .i64 hr) ∧ w'.cell? ⟨b', off' + k * 3 + 2, none⟩ = some (.slice ha hl hc2)) := fun w' hbx =>
              ⟨hbx, (hbx.cell (p := ⟨b, off + k * 3, none⟩) hb).trans f1, (hbx.cell (p := ⟨b, off + k * 3 + 1, none⟩) hb).trans f2, (hbx.cell (p := ⟨b, off + k * 3 + 2, none⟩) hb).trans f3, (hbx.cell (p := ⟨b', off' + k * 3, none⟩) hb').trans f1', (hbx.cell (p := ⟨b', off' + k * 3 + 1, none⟩) hb').trans f2', (hbx.cell (p := ⟨b', off' + k * 3 + 2, none⟩) hb').trans f3'⟩
            have HCL := hide hcl
            clear hcl f1 f2 f3 f1' f2' f3'
            have hk0 : (0 : Int) ≤ (k : Int) := by omega
            have hk1 : (k : Int) < (n : Int) := by omega
            cases hq : (gn.toList == hn.toList) with
            | false =>
              have HQ := hide hq
              obtain ⟨_, q1, q2, q3, q4, q5, q6⟩ := unhide HCL _ hbr
              go_wp2
              go_quiet (fail)
              go_wp2
              go_ret
              exact ⟨ret_bool (by rw [unhide HL, unhide HI, unhide HS false (by simp [sameAg, unhide HQ])]; rfl), hbr.trans (below_drewN _ _ _)⟩
            | true =>
              have HQ := hide hq
              by_cases hrr : gr = hr
              · subst hrr
                have hrf : (gr != gr) = false := by simp
                have HCR : Hid (∀ W W' : World, Below w.heap.size w W → Below W.heap.size W W' → (Below w.heap.size w W' ∧ W'.cell? ⟨b, off + k * 3, none⟩ = some (.string gn) ∧ W'.cell? ⟨b, off + k * 3 + 1, none⟩ = some (.int .i64 gr) ∧ W'.cell? ⟨b, off + k * 3 + 2, none⟩ = some (.slice ga gl gc) ∧ W'.cell? ⟨b', off' + k * 3, none⟩ = some (.string hn) ∧ W'.cell? ⟨b', off' + k * 3 + 1, none⟩ = some (.int .i64 gr) ∧ W'.cell? ⟨b', off' + k * 3 + 2, none⟩ = some (.slice ha hl hc2))) := fun W W' hx hy => unhide HCL _ (hx.trans (hy.mono hx.size))
                go_wp2
                go_region_held3 (fun W => (Below w.heap.size w W ∧ W.cell? ⟨b, off + k * 3, none⟩ = some (.string gn) ∧ W.cell? ⟨b, off + k * 3 + 1, none⟩ = some (.int .i64 gr) ∧ W.cell? ⟨b, off + k * 3 + 2, none⟩ = some (.slice ga gl gc) ∧ W.cell? ⟨b', off' + k * 3, none⟩ = some (.string hn) ∧ W.cell? ⟨b', off' + k * 3 + 1, none⟩ = some (.int .i64 gr) ∧ W.cell? ⟨b', off' + k * 3 + 2, none⟩ = some (.slice ha hl hc2)))
                  (first | exact unhide HCL _ hbr.drew | assumption | exact unhide HCR _ _ ‹Below w.heap.size w _ ∧ _›.1 hbn)
                  (first
                    | (go_at_call 53; refine (sameInts_any ga ha gl gc hl hc2 gk hk2 _ (by exact (unhide HM).later ‹Below w.heap.size w _ ∧ _›.1) (by exact (unhide HM').later ‹Below w.heap.size w _ ∧ _›.1)).mono ?_; rintro e wn ⟨rfl, hbn⟩))
                all_goals
                  have hbz := ‹Below w.heap.size w wn ∧ _›.1
                  go_wp2
                  all_goals first
                    | (go_ret
                       have hlk : ¬ gk = hk2 := by simpa using ‹(!decide (gk = hk2)) = true›
                       exact ⟨ret_bool (by rw [unhide HL, unhide HI, unhide HS false (by simp [sameAg, hlk])]; rfl), hbz⟩)
                    | (have hlk : gk = hk2 := by simpa using ‹(!decide (gk = hk2)) = false›
                       refine ⟨⟨hbz, k+1, by omega, by go_num, ?_⟩, by simp [intOf]; omega⟩
                       rw [unhide HI, unhide HS true (by simp [sameAg, unhide HQ, hlk]), Bool.true_and])
              · have hrf : (gr != hr) = true := by simpa using hrr
                obtain ⟨_, q1, q2, q3, q4, q5, q6⟩ := unhide HCL _ hbr
                go_wp2
                go_quiet (fail)
                go_wp2
                go_ret
                exact ⟨ret_bool (by rw [unhide HL, unhide HI, unhide HS false (by simp [sameAg, hrr])]; rfl), hbr.trans (below_drewN _ _ _)⟩
          · go_wp2
            go_ret
            exact ⟨ret_bool (by rw [unhide HL, unhide HI, sagFrom_end (by have := unhide HN; omega)]), hbr⟩
  · have HL : Hid (sagB l m = false) := by
      show sagB l m = false
      unfold sagB
      rw [decide_eq_false (fun e => hnn (by rw [unhide HN, unhide HN', e])), Bool.false_and]
    have hnn' : ¬ (n : Int) = (n' : Int) := by omega
    go_enter Tryd.func35, Tryd.ntmps35
    go_wp2
    go_ret
    exact ⟨ret_bool (unhide HL).symm, Below.refl _ _⟩
set_option maxHeartbeats 1000000 in
theorem samePairing_any (aL : Option Addr) (nL cL : Nat) (lL : List Ag) (aR : Option Addr) (nR cR : Nat) (lR : List Ag) (bL : Option Addr) (pL dL : Nat) (mL : List Ag) (bR : Option Addr) (pR dR : Nat) (mR : List Ag) (w : World)
    (hL : Ags w aL nL cL lL) (hR : Ags w aR nR cR lR) (gL : Ags w bL pL dL mL) (gR : Ags w bR pR dR mR) :
    Calls Tryd.prog 15 #[.agg #[.slice aL nL cL, .slice aR nR cR], .agg #[.slice bL pL dL, .slice bR pR dR]] w fun e w' => e = .returned (.bool (sagB lL mL && sagB lR mR)) ∧ Below w.heap.size w w' := by
  obtain ⟨wA, hwA⟩ : ∃ y, y = (w.alloc (.cells #[.slice aL nL cL, .slice aR nR cR] 24)).alloc (.cells #[.slice bL pL dL, .slice bR pR dR] 24) := ⟨_, rfl⟩
  have hbA : Below w.heap.size w wA := by rw [hwA]; go_grown
  have a0 : wA.cell? ⟨w.heap.size, 0, none⟩ = some (.slice aL nL cL) := by rw [hwA]; simp
  have a1 : wA.cell? ⟨w.heap.size, 1, none⟩ = some (.slice aR nR cR) := by rw [hwA]; simp
  have b0 : wA.cell? ⟨w.heap.size + 1, 0, none⟩ = some (.slice bL pL dL) := by rw [hwA]; simp
  have b1 : wA.cell? ⟨w.heap.size + 1, 1, none⟩ = some (.slice bR pR dR) := by rw [hwA]; simp
  have HW := hide hwA
  clear hwA
  go_enter Tryd.func15, Tryd.ntmps15
  go_wp2_with fail
  rw [← unhide HW]
  refine (sameAgents_any aL bL nL cL pL dL lL mL wA (hL.later hbA) (gL.later hbA)).mono ?_
  rintro e w1 ⟨rfl, hb1⟩
  have hb1w : Below w.heap.size w w1 := hbA.trans (hb1.mono hbA.size)
  have c1 := (hb1.cell (p := ⟨w.heap.size, 1, none⟩) (World.block_lt_of_cell? wA _ a1)).trans a1
  have d1 := (hb1.cell (p := ⟨w.heap.size + 1, 1, none⟩) (World.block_lt_of_cell? wA _ b1)).trans b1
  clear a0 a1 b0 b1
  cases hs : sagB lL mL with
  | false =>
    go_wp2
    go_ret
    exact ⟨ret_bool (by rw [hs]; rfl), hb1w⟩
  | true =>
    go_wp2_with fail
    refine (sameAgents_any aR bR nR cR pR dR lR mR w1 (hR.later hb1w) (gR.later hb1w)).mono ?_
    rintro e w2 ⟨rfl, hb2⟩
    go_wp2
    go_ret
    exact ⟨ret_bool (by rw [hs]; rfl), hb1w.trans (hb2.mono hb1w.size)⟩
end Go.Proofs.YtajdijjecojdhaaDoor
namespace Go.Proofs.YtajdijjecojdhaaDoor
open Go.RowKit
/-- What an agent says, wherever it lies. -/
def plainA (l : List Ag) : List (List UInt8 × Int × List Int) := l.map fun g => (g.name.toList, g.room, g.likes)
theorem sagFrom_plainA {l m : List Ag} (h : plainA l = plainA m) : ∀ (d k : Nat), l.length - k = d → sagFrom l m k = true
  | 0, k, hd => sagFrom_end (by omega)
  | d + 1, k, hd => by
    have hk : k < l.length := by omega
    have hl : l.length = m.length := by have := congrArg List.length h; simpa [plainA] using this
    have he : (plainA l)[k]? = (plainA m)[k]? := by rw [h]
    unfold plainA at he
    rw [List.getElem?_map, List.getElem?_map, List.getElem?_eq_getElem hk, List.getElem?_eq_getElem (by omega)] at he
    have e1 : agAt l k = l[k] := by unfold agAt; rw [List.getElem?_eq_getElem hk]; rfl
    have e2 : agAt m k = m[k] := by unfold agAt; rw [List.getElem?_eq_getElem (by omega)]; rfl
    simp only [Option.map_some, Option.some.injEq, Prod.mk.injEq] at he
    rw [sagFrom_step hk, e1, e2, sagFrom_plainA h d (k + 1) (by omega)]
    unfold sameAg
    rw [he.1, he.2.1, he.2.2]
    simp
theorem sagB_plainA {l m : List Ag} (h : plainA l = plainA m) : sagB l m = true := by
  have hl : l.length = m.length := by have := congrArg List.length h; simpa [plainA] using this
  unfold sagB
  rw [decide_eq_true hl, sagFrom_plainA h _ 0 rfl]
  rfl
/-- The function f reads a text as 'spec' says: why not, and the two sides. -/
def Reads (f : Nat) (spec : ByteArray → Int × List (List UInt8 × Int × List Int) × List (List UInt8 × Int × List Int)) : Prop :=
  ∀ (s : ByteArray) (w : World), s.size ≤ 3000 → Glob w → Calls Tryd.prog f #[.string s] w fun e w' =>
    ∃ (aL : Option Addr) (nL cL : Nat) (lL : List Ag) (aR : Option Addr) (nR cR : Nat) (lR : List Ag), e = .returned (.tuple #[.agg #[.slice aL nL cL, .slice aR nR cR], .int .i64 (spec s).1]) ∧
      Ags w' aL nL cL lL ∧ Ags w' aR nR cR lR ∧ plainA lL = (spec s).2.1 ∧ plainA lR = (spec s).2.2 ∧ Below w.heap.size w w'
set_option maxRecDepth 100000 in
set_option maxHeartbeats 4000000 in
/-- If the program reads as the document's answer reads, the law says true. -/
theorem parses_of {spec : ByteArray → Int × List (List UInt8 × Int × List Int) × List (List UInt8 × Int × List Int)} (h13 : Reads 13 spec) (h14 : Reads 14 spec) (s : ByteArray) (w : World) (hs : s.size ≤ maxLen) (hg : Glob w) :
    Calls Tryd.prog 4 #[.string s] w fun e w' => e = .returned (.bool true) ∧ Below w.heap.size w w' := by
  have H13 := hide h13
  have H14 := hide h14
  clear h13 h14
  unfold maxLen at hs
  by_cases hbig : (3000 : Int) < (s.size : Int)
  · go_enter Tryd.func4, Tryd.ntmps4
    go_wp2
    go_ret
    exact ⟨rfl, Below.refl _ _⟩
  · have hs3 : s.size ≤ 3000 := by omega
    go_enter Tryd.func4, Tryd.ntmps4
    go_wp2_with fail
    refine (unhide H13 s w hs3 hg).mono ?_
    rintro e w1 ⟨aL, nL, cL, lL, aR, nR, cR, lR, rfl, hL, hR, pL, pR, hb1⟩
    have HP := hide (And.intro pL pR)
    clear pL pR
    generalize hspec : (spec s).1 = code at *
    have hg1 := hg.later hb1
    obtain ⟨wA, hwA⟩ : ∃ y, y = w1.alloc (.cells #[.slice aL nL cL, .slice aR nR cR] 24) := ⟨_, rfl⟩
    have hbA : Below w1.heap.size w1 wA := by rw [hwA]; go_grown
    have a0 : wA.cell? ⟨w1.heap.size, 0, none⟩ = some (.slice aL nL cL) := by rw [hwA]; simp
    have a1 : wA.cell? ⟨w1.heap.size, 1, none⟩ = some (.slice aR nR cR) := by rw [hwA]; simp
    have HW := hide hwA
    clear hwA
    go_wp2_with fail
    rw [← unhide HW]
    refine (unhide H14 s wA hs3 (hg1.later hbA)).mono ?_
    rintro e w2 ⟨bL, pL, dL, mL, bR, pR, dR, mR, rfl, gL, gR, qL, qR, hb2⟩
    rw [hspec]
    have HQ := hide (And.intro qL qR)
    clear qL qR
    have hb1A : Below w.heap.size w wA := hb1.trans (hbA.mono hb1.size)
    have hb12 : Below w1.heap.size w1 w2 := hbA.trans (hb2.mono hbA.size)
    have hb2w : Below w.heap.size w w2 := hb1.trans (hb12.mono hb1.size)
    have c0 := (hb2.cell (p := ⟨w1.heap.size, 0, none⟩) (World.block_lt_of_cell? wA _ a0)).trans a0
    have c1 := (hb2.cell (p := ⟨w1.heap.size, 1, none⟩) (World.block_lt_of_cell? wA _ a1)).trans a1
    have hlt : w1.heap.size < w2.heap.size := World.block_lt_of_cell? w2 _ c0
    clear a0 a1
    obtain ⟨wB, hwB⟩ : ∃ y, y = w2.alloc (.cells #[.slice bL pL dL, .slice bR pR dR] 24) := ⟨_, rfl⟩
    have hbB : Below w2.heap.size w2 wB := by rw [hwB]; go_grown
    have HX := hide hwB
    clear hwB
    go_wp2_with fail
    rw [← unhide HX]
    refine (samePairing_any aL nL cL lL aR nR cR lR bL pL dL mL bR pR dR mR wB ((hL.later hb12).later hbB) ((hR.later hb12).later hbB) (gL.later hbB) (gR.later hbB)).mono ?_
    rintro e w3 ⟨rfl, hb3⟩
    have e1 : sagB lL mL = true := sagB_plainA ((unhide HP).1.trans (unhide HQ).1.symm)
    have e2 : sagB lR mR = true := sagB_plainA ((unhide HP).2.trans (unhide HQ).2.symm)
    rw [e1, e2]
    go_wp2
    go_ret
    exact ⟨rfl, hb2w.trans ((hbB.trans (hb3.mono hbB.size)).mono hb2w.size)⟩
end Go.Proofs.YtajdijjecojdhaaDoor
namespace Go.Proofs.YtajdijjecojdhaaDoor
open Go.RowKit
theorem door_panic {tmps : Array Value} {P E : Nat} (h2 : tmps[2]? = some (.pointer (some ⟨P, 0, none⟩))) (h3 : tmps[3]? = some (.pointer (some ⟨E, 0, none⟩))) {Q : Ending → World → Prop} (k : Int) (w6 : World) (hne : P ≠ E) (hP : w6.heap[P]? = some (.cells #[.slice none 0 0, .slice none 0 0] 24 (0, 0))) (hE : w6.heap[E]? = some (.cells #[.int .i64 0] 29 (0, 0)))
    (hQ : Q (.returned (.tuple #[.agg #[.slice none 0 0, .slice none 0 0], .int .i64 k])) ((w6.alloc (.cells #[.int .i64 k] 52)).setCell ⟨E, 0, none⟩ (.int .i64 k))) :
    bodyPostD Tryd.prog Tryd.f13 Q (Exit.panic [{ v := thrown k, recovered := false }]) { tmps := tmps, defers := [{ target := Target.fn (Fn.func 24) #[.pointer (some ⟨E, 0, none⟩)], args := #[] }] } w6 := by
  have hEl : E < w6.heap.size := (Array.getElem?_eq_some_iff.1 hE).1
  have hPl : P < w6.heap.size := (Array.getElem?_eq_some_iff.1 hP).1
  refine leaves_cons (f := 24) (args := #[.pointer (some ⟨E, 0, none⟩)]) (by simp) (by simp [go_sem]) ?_
  refine (catch_thrown ⟨E, 0, none⟩ 0 k w6 ?_ ?_ hEl).mono ?_
  · exact (cell_in' hE 0).1
  · exact (cell_in' hE 0).2
  rintro e u' w'' ⟨rfl, rfl, rfl⟩
  have p0 : ((w6.alloc (.cells #[.int .i64 k] 52)).setCell ⟨E, 0, none⟩ (.int .i64 k)).cell? ⟨P, 0, none⟩ = some (.slice none 0 0) := by
    have q : ((w6.alloc (.cells #[.int .i64 k] 52)).setCell ⟨E, 0, none⟩ (.int .i64 k)).heap[P]? = some (.cells #[.slice none 0 0, .slice none 0 0] 24 (0, 0)) := by
      rw [Below.heap_setCell _ _ _ _ (by show P ≠ E; exact hne), (alloc_later w6 _).block P hPl]; exact hP
    exact (cell_in' q 0).1
  have p1 : ((w6.alloc (.cells #[.int .i64 k] 52)).setCell ⟨E, 0, none⟩ (.int .i64 k)).cell? ⟨P, 1, none⟩ = some (.slice none 0 0) := by
    have q : ((w6.alloc (.cells #[.int .i64 k] 52)).setCell ⟨E, 0, none⟩ (.int .i64 k)).heap[P]? = some (.cells #[.slice none 0 0, .slice none 0 0] 24 (0, 0)) := by
      rw [Below.heap_setCell _ _ _ _ (by show P ≠ E; exact hne), (alloc_later w6 _).block P hPl]; exact hP
    exact (cell_in' q 1).1
  have p2 : ((w6.alloc (.cells #[.int .i64 k] 52)).setCell ⟨E, 0, none⟩ (.int .i64 k)).cell? ⟨E, 0, none⟩ = some (.int .i64 k) := by
    have q := heap_setCell_same (w6.alloc (.cells #[.int .i64 k] 52)) E 0 _ _ (.int .i64 k) (((alloc_later w6 _).block E hEl).trans hE)
    exact (cell_in' q 0).1
  generalize (w6.alloc (.cells #[.int .i64 k] 52)).setCell ⟨E, 0, none⟩ (.int .i64 k) = W at *
  simp [Leaves, settle, results, Tryd.results13, go_sem, h2, h3, p0, p1, p2]
  exact hQ
theorem door_ret {tmps : Array Value} {P E : Nat} (h2 : tmps[2]? = some (.pointer (some ⟨P, 0, none⟩))) (h3 : tmps[3]? = some (.pointer (some ⟨E, 0, none⟩))) {Q : Ending → World → Prop} (x y : Value) (k : Int) (w6 : World) (p0 : w6.cell? ⟨P, 0, none⟩ = some x) (p1 : w6.cell? ⟨P, 1, none⟩ = some y) (p2 : w6.cell? ⟨E, 0, none⟩ = some (.int .i64 k))
    (hQ : Q (.returned (.tuple #[.agg #[x, y], .int .i64 k])) w6) :
    bodyPostD Tryd.prog Tryd.f13 Q Exit.ret { tmps := tmps, defers := [{ target := Target.fn (Fn.func 24) #[.pointer (some ⟨E, 0, none⟩)], args := #[] }] } w6 := by
  refine leaves_cons (f := 24) (args := #[.pointer (some ⟨E, 0, none⟩)]) (by simp) (by simp [go_sem]) ?_
  refine (catch_idle ⟨E, 0, none⟩ w6).mono ?_
  rintro e u' w'' ⟨rfl, rfl, rfl⟩
  simp [Leaves, settle, results, Tryd.results13, go_sem, h2, h3, p0, p1, p2]
  exact hQ
end Go.Proofs.YtajdijjecojdhaaDoor
