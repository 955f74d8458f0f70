import Derived.Test.YtloandcndnmkhaaO
namespace Go.Proofs.Ytloandcndnmkhaa
open Go.RowKit Go.Shelf
/-- What growing has done: the rounds of all orders that go on so; the row lies as it lay. -/
def GrowPost (J : List (List Int) → (Nat → Prop) → World → Prop) (xs : List (List Int)) (S : Nat → Prop) (v : Value) (d : Nat) (o : List Int) (W : World) (e : Ending) (W' : World) : Prop :=
  e = .returned (.bool true) ∧ ∃ S', J xs S' W' ∧ (∀ b, S' b → S b ∨ W.heap.size ≤ b) ∧ W'.ownsRow 0 3 1 v d (intVals o) ∧ Keep (fun b => b < W.heap.size ∧ ¬ S b ∧ v.ownBlock ≠ some b) W W'
theorem owns_keep {W W' : World} {B e s : Nat} {v : Value} {n : Nat} {xs : List Value} (h : W.ownsRow B e s v n xs) (hk : ∀ b, v.ownBlock = some b → W'.heap[b]? = W.heap[b]?) : W'.ownsRow B e s v n xs := by
  refine ⟨h.1, ?_⟩
  rcases h.2 with h0 | ⟨g, cap, cur, rfl, hbg, hgg, r⟩
  · exact .inl h0
  · exact .inr ⟨g, cap, cur, rfl, hbg, by rw [hk g rfl]; exact hgg, r⟩
section
variable {J : List (List Int) → (Nat → Prop) → World → Prop} {l n Bn By Bg : Nat}
set_option maxRecDepth 100000 in
set_option maxHeartbeats 4000000 in
theorem grow_zero (JI : Inv J) (hY : Rounds Try.prog l n J) (hn0 : 0 < n) (hn6 : n ≤ 6) (o : List Int) (v : Value) (pre : List (List Int)) (S : Nat → Prop) (W : World) (hJ : J pre S W) (hB : Bx3 W Bn By Bg n l)
    (ho : W.ownsRow 0 3 1 v n (intVals o)) (hvS : ∀ b, v.ownBlock = some b → ¬ S b) (hord : ordE o n = 0) : Calls Try.prog 71 #[v, .pointer (some ⟨Bn, 0, none⟩), .pointer (some ⟨By, 0, none⟩), .pointer (some ⟨Bg, 0, none⟩)] W fun e W' => GrowPost J (pre ++ [o]) S v n o W e W' := by
  have hol : o.length = n := by have := ho.1; rw [intVals_len] at this; omega
  obtain ⟨a, c, hv, hI, hg⟩ := Ints.of_owns ho (by omega)
  subst hv
  have hc1 := hI.2.1
  have hc2 := hI.2.2.1
  unfold maxLen at hc2
  obtain ⟨ln, ly, lg, cn, cy, cg⟩ := hB
  have mx : Try.prog.follows .mixedOrders = true := by kernel_rfl
  have HOL := hide hol
  have HO := hide ho
  have CL := hide (fun (X : World) (hx : Ints X a n c o) => clone_any a n c o X hx (by omega))
  clear hol ho cg
  go_enter Try.func71, Try.ntmps71
  go_wp2_with fail
  refine (wpIn_wide (n := 5)).1 ?_
  have HYZ : Hid (∀ (X w2 : World) (v2 : Value), Below W.heap.size W X → w2.ownsRow X.heap.size 3 1 v2 n (intVals o) → Below X.heap.size X w2 → ∃ g2 c2, v2 = .slice (some ⟨g2, 0, none⟩) n c2 ∧ w2.cell? ⟨By, 0, none⟩ = some (.func (.yield l) #[] #[]) ∧ ∃ fn tmps assign body, (Instr.yield l #[.slice (some ⟨g2, 0, none⟩) n c2]).run Try.prog w2 = .ok (.round l fn tmps assign body) w2 ∧ RoundIn Fence.wide 4 Try.prog l fn tmps assign body w2 (fun e W' => GrowPost J (pre ++ [o]) S (.slice a n c) n o W e W')) := fun X w2 v2 hbX ho2 hb2 => by
    obtain ⟨a2, c2, hv2, hI2, hg2⟩ := Ints.of_owns ho2 (by omega)
    obtain ⟨g2, q1, q2, q3⟩ := hg2.resolve_left (by omega)
    subst hv2 q3
    have hbW2 : Below W.heap.size W w2 := hbX.trans (hb2.mono hbX.size)
    have hJ2 : J pre S w2 := JI.frame hJ (Keep.of_below hbW2 (JI.lt hJ))
    have hl := unhide HOL
    have hS : ¬ S g2 := fun h => by have := JI.lt hJ _ h; have := hbX.size; omega
    have := hY 4 pre o S w2 g2 c2 hJ2 (by rw [hl]; exact hI2) hS q2 (by omega) hord
    rw [hl] at this
    obtain ⟨fn, tmps, assign, body, hy, hR⟩ := this
    refine ⟨g2, c2, rfl, (hbW2.cell (p := ⟨By, 0, none⟩) ly).trans cy, fn, tmps, assign, body, hy, hR.mono ?_⟩
    rintro e W' ⟨rfl, S', j1, j2, j3⟩
    have hsz := hbW2.size
    refine ⟨rfl, S', j1, fun b hb => ?_, ?_, ?_⟩
    · rcases j2 b hb with h | h | h
      · exact .inl h
      · exact .inr (by have := hbX.size; omega)
      · exact .inr (by omega)
    · refine owns_keep (unhide HO) fun b hb => ?_
      have hlt : b < W.heap.size := ((unhide HO).lt b hb).2
      exact (j3.block b ⟨by omega, hvS b hb⟩).trans (hbW2.block b hlt)
    · exact (Keep.of_below (S := fun b => b < W.heap.size ∧ ¬ S b ∧ (Value.slice a n c).ownBlock ≠ some b) hbW2 (fun b hb => hb.1)).trans (j3.sub fun b hb => ⟨by omega, hb.2.1⟩)
  gi_region_with_o (first
    | (refine hR.mono ?_; clear hR hy; rintro e W2 hpost; obtain ⟨rfl, S', hp1⟩ := hpost)
    | (refine ⟨trivial, ?_⟩; gi_at_call 72; refine (callsIn_wide.2 (unhide CL _ (hI.later (Below.refl _ _).drew))).mono ?_; rintro e w2 ⟨v2, rfl, ho2, hb2⟩; obtain ⟨g2, c2, hv2, cy2, fn, tmps, assign, body, hy, hR⟩ := unhide HYZ _ w2 v2 (Below.refl _ _).drew ho2 hb2; subst hv2))
  all_goals
    go_wp2_with fail
    go_ret
    exact ⟨rfl, S', hp1⟩
/-- A row that went on in its own block is there still. -/
theorem owns_less {W : World} {g d cap : Nat} {o : List Int} {k : Int} (h : W.ownsRow 0 3 1 (.slice (some ⟨g, 0, none⟩) (d + 1) cap) (d + 1) (intVals (o ++ [k]))) (ho : o.length = d) : W.ownsRow 0 3 1 (.slice (some ⟨g, 0, none⟩) d cap) d (intVals o) := by
  refine ⟨by rw [intVals_len, ho, Nat.mul_one], ?_⟩
  rcases h.2 with ⟨h1, _⟩ | ⟨g', cap', cur, e, hbg, hgg, hnc, hcm, hcs, htake⟩
  · cases h1
  · cases e
    refine .inr ⟨g, cap, cur, rfl, hbg, hgg, by omega, hcm, hcs, ?_⟩
    have h2 : (cur.toList.take ((d + 1) * 1)).take (d * 1) = (intVals (o ++ [k])).take (d * 1) := by rw [htake]
    rw [List.take_take, intVals_append, Nat.min_eq_left (by omega)] at h2
    rw [h2, List.take_append_of_le_length (by rw [intVals_len]; omega), List.take_of_length_le (by rw [intVals_len]; omega)]
set_option maxRecDepth 100000 in
set_option maxHeartbeats 8000000 in
theorem grow_in (JI : Inv J) (hY : Rounds Try.prog l n J) (hn0 : 0 < n) (hn6 : n ≤ 6) : ∀ (f d : Nat) (o : List Int), d + f = n → o.Nodup → (∀ x ∈ o, 0 ≤ x ∧ x < n) → ∀ (v : Value) (pre : List (List Int)) (S : Nat → Prop) (W : World), J pre S W → Bx3 W Bn By Bg n l → ¬ S Bn → ¬ S By → ¬ S Bg →
    W.ownsRow 0 3 1 v d (intVals o) → (∀ b, v.ownBlock = some b → ¬ S b ∧ b ≠ Bn ∧ b ≠ By ∧ b ≠ Bg) →
    Calls Try.prog 71 #[v, .pointer (some ⟨Bn, 0, none⟩), .pointer (some ⟨By, 0, none⟩), .pointer (some ⟨Bg, 0, none⟩)] W fun e W' => GrowPost J (pre ++ grL n f o) S v d o W e W' := by
  intro f
  induction f with
  | zero =>
    intro d o hd hnd hrg v pre S W hJ hB _ _ _ ho hv
    have hol : o.length = d := by have := ho.1; rw [intVals_len] at this; omega
    obtain rfl : d = n := by omega
    exact grow_zero JI hY hn0 hn6 o v pre S W hJ hB ho (fun b hb => (hv b hb).1) (ord_zero (by omega) hrg hnd)
  | succ f ih =>
    intro d o hd hnd hrg v pre S W hJ hB sn sy sg ho hv
    have HND := hide hnd
    have HRG := hide hrg
    clear hnd hrg
    have hol : o.length = d := by have := ho.1; rw [intVals_len] at this; omega
    obtain ⟨a, c, hve, hI, hgI⟩ := Ints.of_owns ho (by omega)
    have hc1 := hI.2.1
    have hc2 := hI.2.2.1
    unfold maxLen at hc2
    have dn : ((d : Int) == (n : Int)) = false := by simp; omega
    have HOL := hide hol
    have HO := hide ho
    have HV := hide hv
    have HIH := hide ih
    have HB := hide hB
    have HJ := hide hJ
    have cn0 := hB.cn
    have HVE := hide hve
    obtain ⟨P0, hP0⟩ : ∃ P0 : Nat → Prop, P0 = fun b => b < W.heap.size ∧ ¬ S b ∧ v.ownBlock ≠ some b := ⟨_, rfl⟩
    have HP0 := hide hP0
    have HPB : Hid (P0 Bn ∧ P0 By ∧ P0 Bg) := by
      rw [hP0]
      refine ⟨⟨hB.ln, sn, fun e => (hv _ e).2.1 rfl⟩, ⟨hB.ly, sy, fun e => (hv _ e).2.2.1 rfl⟩, ⟨hB.lg, sg, fun e => (hv _ e).2.2.2 rfl⟩⟩
    have HROW : Hid (∀ X : World, X.ownsRow 0 3 1 v d (intVals o) → Ints X a d c o) := fun X hX => by
      obtain ⟨a', c', e1, e2, _⟩ := Ints.of_owns hX (by omega)
      rw [hve] at e1
      cases e1
      exact e2
    clear hol ho hv ih hB hJ hP0 hgI
    rw [hve]
    go_enter Try.func71, Try.ntmps71
    go_wp2_with fail
    go_loopw [16, 6] (fun i _ wr => ∃ k : Nat, k ≤ n ∧ i = .int .i64 k ∧ ∃ S', J (pre ++ grT n f o k) S' wr ∧ (∀ b, S' b → S b ∨ W.heap.size ≤ b) ∧ wr.ownsRow 0 3 1 v d (intVals o) ∧ Keep P0 W wr) (fun i _ _ => n - (intOf i).toNat)
    case atStart => exact ⟨0, Nat.zero_le _, rfl, S, by unfold grT; simpa using unhide HJ, fun b hb => .inl hb, unhide HO, Keep.refl _ _⟩
    case round =>
      obtain ⟨k, hk, rfl, S', hJ', hS', ho', hK'⟩ := hrel
      by_cases hlt : k < n
      · have hIr := unhide HROW wr ho'
        have hBr := (unhide HB).keep hK' (unhide HPB).1 (unhide HPB).2.1 (unhide HPB).2.2
        have cgr := hBr.cg
        have HCT := hide (fun X (hX : Ints X a d c o) => contains_any a d c o (k : Int) X hX)
        by_cases hin : (k : Int) ∈ o
        · have C1 := hide (fun d os => Calls.regrown_of ((unhide HCT (Sort.grow (redrawn wr d) os) (hIr.later (below_regrown wr d os))).mono fun _ _ ⟨he, hw⟩ => (⟨he, by rw [hw]; exact Below.refl _ _⟩ : _ ∧ Below (Sort.grow (redrawn wr d) os).heap.size (Sort.grow (redrawn wr d) os) _)))
          have hidx : decide (0 ≤ idxFrom o (k : Int) 0) = true := by
            obtain ⟨i, _, q2, _⟩ := idx_of hin
            exact decide_eq_true (by omega)
          rw [hidx] at C1
          have HT1 : Hid (grT n f o (k + 1) = grT n f o k) := by show _ = _; rw [grT_succ, if_pos hin, List.append_nil]
          clear hin hidx HCT
          go_wp2_with fail
          refine wp_region_quiet_below (by kernel_rfl) (by kernel_rfl) ?_
          iterate 5 (quiet_step (first | with_reducible exact unhide C1 _ _))
          iterate 7 (with_reducible refine quiet_skip (by kernel_rfl) ?_)
          iterate 1 (quiet_step (first | with_reducible exact unhide C1 _ _))
          refine wpQuiet_nil ?_
          intro _ hw'
          obtain ⟨⟨dq, osq⟩, hw''⟩ := hw'
          subst hw''
          have hbq := below_regrown wr dq osq
          go_wp2_with fail
          go_roundw
          case rel => exact ⟨k + 1, by omega, by go_num, S', by rw [unhide HT1]; exact JI.frame hJ' (Keep.of_below hbq (JI.lt hJ')), hS', owns_later ho' hbq, hK'.trans (Keep.of_below hbq (fun b hb => by rw [unhide HP0] at hb; exact Nat.lt_of_lt_of_le hb.1 hK'.size))⟩
          case measure => simp [intOf]; omega
        · have hidx : decide (0 ≤ idxFrom o (k : Int) 0) = false := by
            refine decide_eq_false fun hge => hin ?_
            rcases idxFrom_spec o (k : Int) _ 0 rfl with ⟨h1, _⟩ | ⟨m, _, h2, h3, _, _⟩
            · omega
            · rw [← h3]; exact getD_mem h2
          rw [hidx] at HCT
          have HT1 : Hid (grT n f o (k + 1) = grT n f o k ++ grL n f (o ++ [(k : Int)])) := by show _ = _; rw [grT_succ, if_neg hin]
          have HND2 : Hid ((o ++ [(k : Int)]).Nodup ∧ ∀ x ∈ o ++ [(k : Int)], 0 ≤ x ∧ x < n) := by
            refine ⟨?_, fun x hx => ?_⟩
            · rw [List.nodup_append]
              exact ⟨unhide HND, by simp, fun a ha b hb e => by rw [List.mem_singleton] at hb; rw [hb] at e; exact hin (e ▸ ha)⟩
            · rcases List.mem_append.1 hx with h | h
              · exact unhide HRG x h
              · rw [List.mem_singleton] at h; subst h; omega
          have hvw : ∀ b, v.ownBlock = some b → b < wr.heap.size := fun b hb => (ho'.lt b hb).2
          -- the row that is longer, and what the call of itself does
          have HREC : Hid (∀ (X : World) (v2 : Value) (w2 : World), Below wr.heap.size wr X → X.ownsRow 0 3 1 v d (intVals o) → w2.ownsRow 0 3 1 v2 (d + 1) (intVals (o ++ [(k : Int)])) → X.grownBy w2 v.ownBlock →
              ((∃ g cap, v = .slice (some ⟨g, 0, none⟩) d cap ∧ v2 = .slice (some ⟨g, 0, none⟩) (d + 1) cap) ∨ (v2.ownBlock = some X.heap.size ∧ Below X.heap.size X w2)) →
              (Bg < w2.heap.size ∧ w2.cell? ⟨Bg, 0, none⟩ = some (.func (.func 71) #[] #[.pointer (some ⟨Bn, 0, none⟩), .pointer (some ⟨By, 0, none⟩), .pointer (some ⟨Bg, 0, none⟩)])) ∧
              Calls Try.prog 71 #[v2, .pointer (some ⟨Bn, 0, none⟩), .pointer (some ⟨By, 0, none⟩), .pointer (some ⟨Bg, 0, none⟩)] w2 fun e w3 => e = .returned (.bool true) ∧ ∃ S'', J (pre ++ grT n f o (k + 1)) S'' w3 ∧ (∀ b, S'' b → S b ∨ W.heap.size ≤ b) ∧ w3.ownsRow 0 3 1 v d (intVals o) ∧ Keep P0 W w3 ∧ (Bg < w3.heap.size ∧ w3.cell? ⟨Bg, 0, none⟩ = some (.func (.func 71) #[] #[.pointer (some ⟨Bn, 0, none⟩), .pointer (some ⟨By, 0, none⟩), .pointer (some ⟨Bg, 0, none⟩)]))) := fun X v2 w2 hbX hoX ho2 hg2 hcase => by
            have hszX := hbX.size
            have hsz2 := hg2.size
            have hsw := JI.lt hJ'
            have hvS : ∀ b, v.ownBlock = some b → ¬ S' b := fun b hb h => by
              rcases hS' b h with h | h
              · exact (unhide HV b hb).1 h
              · have := ((unhide HO).lt b hb).2; omega
            -- what lies as in wr
            have hkeep : ∀ b, b < wr.heap.size → v.ownBlock ≠ some b → w2.heap[b]? = wr.heap[b]? := fun b hb hne => (hg2.block b (by omega) (fun e => hne e.symm)).trans (hbX.block b hb)
            have kS : Keep S' wr w2 := ⟨hg2.os.trans hbX.os, hg2.tape.trans hbX.tape, hg2.output.trans hbX.output, by omega, fun b hb => hkeep b (hsw b hb) (fun e => hvS b e hb)⟩
            have kP : Keep P0 wr w2 := ⟨kS.os, kS.tape, kS.output, kS.size, fun b hb => by rw [unhide HP0] at hb; exact hkeep b (Nat.lt_of_lt_of_le hb.1 hK'.size) hb.2.2⟩
            have hB2 := hBr.keep kP (unhide HPB).1 (unhide HPB).2.1 (unhide HPB).2.2
            have hpb := unhide HPB
            rw [unhide HP0] at hpb
            have nS : ∀ b, b < W.heap.size → ¬ S b → ¬ S' b := fun b hb hn h => by
              rcases hS' b h with h | h
              · exact hn h
              · omega
            have hv2 : ∀ b, v2.ownBlock = some b → ¬ S' b ∧ b ≠ Bn ∧ b ≠ By ∧ b ≠ Bg := fun b hb => by
              rcases hcase with ⟨g, cap, e1, e2⟩ | ⟨e1, _⟩
              · rw [e2] at hb
                have hb' : v.ownBlock = some b := by rw [e1]; exact hb
                exact ⟨hvS b hb', (unhide HV b hb').2⟩
              · rw [e1] at hb
                cases hb
                have l1 := hBr.ln
                have l2 := hBr.ly
                have l3 := hBr.lg
                exact ⟨fun h => by have := hsw _ h; omega, by omega, by omega, by omega⟩
            refine ⟨⟨hB2.lg, hB2.cg⟩, ((unhide HIH (d + 1) (o ++ [(k : Int)]) (by omega) (unhide HND2).1 (unhide HND2).2 v2 _ S' w2 (JI.frame hJ' kS) hB2 (nS Bn hpb.1.1 hpb.1.2.1) (nS By hpb.2.1.1 hpb.2.1.2.1) (nS Bg hpb.2.2.1 hpb.2.2.2.1) ho2 hv2).mono ?_)⟩
            rintro e w3 ⟨rfl, S'', j1, j2, j3, j4⟩
            have kP3 : Keep P0 w2 w3 := j4.sub fun b hb => by
              rw [unhide HP0] at hb
              refine ⟨?_, nS b hb.1 hb.2.1, fun e => ?_⟩
              · have := hK'.size; have := hb.1; omega
              · rcases hcase with ⟨g, cap, e1, e2⟩ | ⟨e1, _⟩
                · rw [e2] at e; exact hb.2.2 (by rw [e1]; exact e)
                · rw [e1] at e; cases e; have := hK'.size; have := hb.1; omega
            have kall := (hK'.trans kP).trans kP3
            have hB3 := (unhide HB).keep kall (unhide HPB).1 (unhide HPB).2.1 (unhide HPB).2.2
            refine ⟨rfl, S'', by rw [unhide HT1, ← List.append_assoc]; exact j1, fun b hb => ?_, ?_, kall, hB3.lg, hB3.cg⟩
            · rcases j2 b hb with h | h
              · exact hS' b h
              · exact .inr (by have := hK'.size; omega)
            · rcases hcase with ⟨g, cap, e1, e2⟩ | ⟨e1, e2⟩
              · subst e1 e2
                exact owns_less j3 (unhide HOL)
              · refine owns_keep (owns_later hoX e2) fun b hb => ?_
                have hlt := hvw b hb
                exact j4.block b ⟨by omega, hvS b hb, fun e => by rw [e1] at e; cases e; omega⟩
          have hOX : Hid (∀ X, Below wr.heap.size wr X → X.ownsRow 0 3 1 v d (intVals o)) := fun X hX => owns_later ho' hX
          have lgr := hBr.lg
          have HIR := hide hIr
          have HVE2 := hide hve
          clear hidx hin ho' hJ' hK' hS' hBr hIr hvw HROW
          rw [hve] at HREC hOX
          have hbA : Below wr.heap.size wr (wr.alloc (.cells #[.int .i64 (k : Int)] 3)).drew := ((Below.refl _ wr).alloc (Nat.le_refl _) _).drew
          have hoA := unhide hOX _ hbA
          have hIA : Ints wr.drew a d c o := (unhide HIR).later (Below.refl _ _).drew
          have hcA : (wr.alloc (.cells #[.int .i64 (k : Int)] 3)).drew.cell? ⟨wr.heap.size, 0, none⟩ = some (.int .i64 (k : Int)) := by
            show (wr.alloc _).cell? ⟨wr.heap.size, 0, none⟩ = _
            simp
          have hsA : Bg < (wr.alloc (.cells #[.int .i64 (k : Int)] 3)).drew.heap.size ∧ (wr.alloc (.cells #[.int .i64 (k : Int)] 3)).drew.cell? ⟨Bg, 0, none⟩ = some (.func (.func 71) #[] #[.pointer (some ⟨Bn, 0, none⟩), .pointer (some ⟨By, 0, none⟩), .pointer (some ⟨Bg, 0, none⟩)]) := ⟨Nat.lt_of_lt_of_le lgr hbA.size, (hbA.cell (p := ⟨Bg, 0, none⟩) lgr).trans cgr⟩
          have HSA := hide hsA
          have HLG := hide (And.intro lgr cgr)
          clear hsA
          go_wp2_with fail
          go_region_held3 (fun X => Bg < X.heap.size ∧ X.cell? ⟨Bg, 0, none⟩ = some (.func (.func 71) #[] #[.pointer (some ⟨Bn, 0, none⟩), .pointer (some ⟨By, 0, none⟩), .pointer (some ⟨Bg, 0, none⟩)]))
            (first | exact unhide HLG | exact unhide HSA | exact unhide HS2 | exact unhide HS3)
            (first
              | (go_at_call 68; refine (unhide HCT _ hIA).mono ?_; rintro e w' ⟨rfl, hw'⟩; subst w')
              | (refine step_append_int1 _ (by kernel_rfl) (.tmp 25) (.tmp 27) rfl 0 _ d o (by simp [Act.eval]) hoA wr.heap.size 1 (k : Int) (by simp [Act.eval]) hcA (by omega) (Nat.zero_le _) ?_; intro v2 w2 ho2 hg2 hcase; obtain ⟨hs2, CR⟩ := unhide HREC _ v2 w2 hbA hoA ho2 hg2 hcase; have HS2 := hide hs2; clear hs2)
              | (go_at_call 71; refine CR.mono ?_; rintro e w3 ⟨rfl, S'', p1, p2, p3, p4, p5⟩; have HS3 := hide p5; clear p5))
          all_goals
            go_wp2_with fail
            go_roundw
            case rel => exact ⟨k + 1, by omega, by go_num, S'', p1, p2, by rw [unhide HVE2]; exact p3, p4⟩
            case measure => simp [intOf]; omega
      · obtain rfl : n = k := by omega
        go_wp2_with fail
        go_ret
        refine ⟨rfl, S', by rw [grL_T]; exact hJ', hS', ?_, ?_⟩
        · rw [← unhide HVE]; exact ho'
        · rw [← unhide HVE]
          have := hK'
          rw [unhide HP0] at this
          exact this
end
end Go.Proofs.Ytloandcndnmkhaa
