import Derived.Test.YtcannknicfnkdaaM
namespace Go.Proofs.Ytcannknicfnkdaa
open Go.RowKit
theorem SPost.later {C K : List Sl} {n m : Nat} {p : List Int} {w w' : World} {v : Value} (h : SPost C K n m p w v) (hb : Below w.heap.size w w') : SPost C K n m p w' v := by
  obtain ⟨va, vc, LL, M, q, a, b, c⟩ := h
  exact ⟨va, vc, LL, M, q, a, b.later hb, c⟩
theorem SPost.same {C K : List Sl} {n m : Nat} {p : List Int} {w : World} {v v' : Value} (h : SPost C K n m p w v) (h' : SPost C K n m p w v') : ∃ va vc va' vc' LL LL' k, v = .slice va k vc ∧ v' = .slice va' k vc' ∧ Lsts w va k vc LL ∧ Lsts w va' k vc' LL' ∧ lists LL = lists LL' := by
  obtain ⟨va, vc, LL, M, q, a, b, c, d, e⟩ := h
  obtain ⟨va', vc', LL', M', q', a', b', c', d', e'⟩ := h'
  have hl : lists LL = lists LL' := by rw [c, c']; exact d.uniq d' e e'
  have hk : LL.length = LL'.length := by have := congrArg List.length hl; simpa [lists] using this
  rw [← hk] at a' b'
  exact ⟨va, vc, va', vc', LL, LL', LL.length, a, a', b, b', hl⟩
set_option maxRecDepth 100000 in
set_option maxHeartbeats 8000000 in
theorem says_err (ca : Option Addr) (cn cc : Nat) (C : List Sl) (ka : Option Addr) (kn kc : Nat) (K : List Sl) (pa : Option Addr) (pn pc : Nat) (p : List Int) (w : World) (hC : Lsts w ca cn cc C) (hK : Lsts w ka kn kc K) (hp : Ints w pa pn pc p) (hs : ∀ s ∈ C, s.ln ≤ 140737488351232) (hn : cn ≤ 140737488351232) (hs' : ∀ s ∈ K, s.ln ≤ 140737488351232) (hn' : kn ≤ 140737488351232) (hE : aE C K p ≠ 0) :
    Calls Try.prog 3 #[rV ca cn cc ka kn kc, .slice pa pn pc] w fun e w' => e = .returned (.bool true) ∧ Below w.heap.size w w' := by
  have hp1 := hp.2.1
  have hp2 := hp.2.2.1
  unfold maxLen at hp2
  obtain ⟨W, hW, hbW, hlt0, hbox⟩ := box_cells (w := w) ca cn cc ka kn kc
  have HW := hide hW
  have HBX0 := hide hbox
  have HBT := hide (fun (wr : World) (hb : Below W.heap.size W wr) => Below.trans hbW (hb.mono hbW.size))
  have w0 := (hbox W (Below.refl _ _)).1
  have w1 := (hbox W (Below.refl _ _)).2
  have hCW := hC.later hbW
  have hKW := hK.later hbW
  have hPW := hp.later hbW
  have CH := hide (heavyRoads_any ca cn cc C ka kn kc K W hCW hKW hs hn hs' hn')
  have CA : Hid (∀ wr, Below W.heap.size W wr → Calls Try.prog 6 #[rV ca cn cc ka kn kc, .slice pa pn pc] wr fun e w' => e = .returned (.int .i64 (aE C K p)) ∧ Below wr.heap.size wr w') := fun wr hb => atMay_any ca cn cc C ka kn kc K pa pn pc p wr (hCW.later hb) (hKW.later hb) (hPW.later hb)
  have CR1 : Hid (∀ wr, Below W.heap.size W wr → ∀ d os, Calls Try.prog 10 #[rV ca cn cc ka kn kc] (Sort.grow (redrawn wr d) os) fun e w'' => e = .returned (.int .i64 (rE C K)) ∧ ∃ q : Regrown, w'' = Sort.grow (redrawn wr q.d) q.os) := fun wr hb d os => Calls.regrown_of (roads_any ca cn cc C ka kn kc K _ (hCW.later (hb.trans ((below_regrown wr d os).mono hb.size))) (hKW.later (hb.trans ((below_regrown wr d os).mono hb.size))))
  have CR2 : Hid (∀ wr, Below W.heap.size W wr → ∀ d os, Calls Try.prog 11 #[rV ca cn cc ka kn kc] (Sort.grow (redrawn wr d) os) fun e w'' => e = .returned (.int .i64 (rE C K)) ∧ ∃ q : Regrown, w'' = Sort.grow (redrawn wr q.d) q.os) := fun wr hb d os => Calls.regrown_of (roadsMay_any ca cn cc C ka kn kc K _ (hCW.later (hb.trans ((below_regrown wr d os).mono hb.size))) (hKW.later (hb.trans ((below_regrown wr d os).mono hb.size))))
  have C7 : Hid (∀ wr, Below W.heap.size W wr → Calls Try.prog 7 #[rV ca cn cc ka kn kc, .slice pa pn pc] wr fun e w' => e = .returned (two (.slice none 0 0) (aE C K p)) ∧ Below wr.heap.size wr w') := fun wr hb => cost7_err ca cn cc C ka kn kc K pa pn pc p wr (hCW.later hb) (hKW.later hb) (hPW.later hb) hE
  have C8 : Hid (∀ wr, Below W.heap.size W wr → Calls Try.prog 8 #[rV ca cn cc ka kn kc, .slice pa pn pc] wr fun e w' => e = .returned (two (.int .i64 0) (aE C K p)) ∧ Below wr.heap.size wr w') := fun wr hb => height_err ca cn cc C ka kn kc K pa pn pc p wr (hCW.later hb) (hKW.later hb) (hPW.later hb) hE
  have C9 : Hid (∀ wr, Below W.heap.size W wr → Calls Try.prog 9 #[rV ca cn cc ka kn kc, .slice pa pn pc] wr fun e w' => e = .returned (two (.slice none 0 0) (aE C K p)) ∧ Below wr.heap.size wr w') := fun wr hb => settle_err ca cn cc C ka kn kc K pa pn pc p wr (hCW.later hb) (hKW.later hb) (hPW.later hb) hE
  clear hC hK hp hW hbW hbox hlt0 hCW hKW hPW hs hs' hn hn'
  generalize aE C K p = E at *
  have hEE : (E != E) = false := by simp
  have hE0 : (E == 0) = false := by simp [hE]
  clear hE
  unfold two at *
  unfold rV at *
  generalize rE C K = R at *
  go_enter Try.func3, Try.ntmps3
  go_wp2_with fail
  rw [unhide HW]
  go_wp2_with fail
  refine (unhide CH).mono ?_
  rintro e wa ⟨hv, rfl, hba⟩
  have HBa := hide hba
  have HBX := hide (unhide HBT _ hba)
  clear hba w0 w1 CH
  have w0 := (unhide HBX0 _ (unhide HBa)).1
  have w1 := (unhide HBX0 _ (unhide HBa)).2
  cases hv with
  | true =>
    go_wp2
    go_ret
    exact ⟨rfl, unhide HBX⟩
  | false =>
    by_cases h100 : 100 < pn
    · have hd : decide (100 < (pn : Int)) = true := by simp; omega
      go_wp2
      go_ret
      exact ⟨rfl, unhide HBX⟩
    · have hd : decide (100 < (pn : Int)) = false := by simp; omega
      have C1 := hide (unhide CA _ (unhide HBa))
      clear CA
      go_wp2_with fail
      refine (unhide C1).mono ?_
      rintro e wb ⟨rfl, hbb⟩
      have HBb := hide ((unhide HBa).trans (hbb.mono (unhide HBa).size))
      clear hbb w0 w1 C1 HBX HBa
      have w0 := (unhide HBX0 _ (unhide HBb)).1
      have w1 := (unhide HBX0 _ (unhide HBb)).2
      have C1 := hide (unhide C7 _ (unhide HBb))
      clear C7
      go_wp2_with fail
      refine (unhide C1).mono ?_
      rintro e wc ⟨rfl, hbc⟩
      have HBc := hide ((unhide HBb).trans (hbc.mono (unhide HBb).size))
      clear hbc w0 w1 C1 HBb
      have w0 := (unhide HBX0 _ (unhide HBc)).1
      have w1 := (unhide HBX0 _ (unhide HBc)).2
      have C1 := hide (unhide C8 _ (unhide HBc))
      clear C8
      go_wp2_with fail
      refine (unhide C1).mono ?_
      rintro e wd ⟨rfl, hbd⟩
      have HBd := hide ((unhide HBc).trans (hbd.mono (unhide HBc).size))
      clear hbd w0 w1 C1 HBc
      have w0 := (unhide HBX0 _ (unhide HBd)).1
      have w1 := (unhide HBX0 _ (unhide HBd)).2
      have C1 := hide (unhide C9 _ (unhide HBd))
      clear C9
      go_wp2_with fail
      refine (unhide C1).mono ?_
      rintro e we ⟨rfl, hbe⟩
      have HBe := hide ((unhide HBd).trans (hbe.mono (unhide HBd).size))
      clear hbe w0 w1 C1 HBd
      have w0 := (unhide HBX0 _ (unhide HBe)).1
      have w1 := (unhide HBX0 _ (unhide HBe)).2
      have C1 := hide (unhide CR1 _ (unhide HBe))
      have C2 := hide (unhide CR2 _ (unhide HBe))
      have w0g := cell_regrown w0
      have w1g := cell_regrown w1
      have hrr : (R != R) = false := by simp
      go_wp2_with fail
      refine wp_region_quiet_below (by kernel_rfl) (by kernel_rfl) ?_
      repeat (quiet_step (first | exact unhide C1 _ _ | exact unhide C2 _ _))
      refine wpQuiet_nil ?_
      intro _ hw'
      obtain ⟨⟨dq, osq⟩, hw''⟩ := hw'
      subst hw''
      have hbf := below_regrown we dq osq
      have HBf := hide ((unhide HBe).trans (hbf.mono (unhide HBe).size))
      clear w0 w1 w0g w1g C1 C2 CR1 CR2 hbf
      generalize Sort.grow (redrawn we dq) osq = wf at *
      clear HBe
      have w0 := (unhide HBX0 _ (unhide HBf)).1
      have w1 := (unhide HBX0 _ (unhide HBf)).2
      have HBX := hide (unhide HBT _ (unhide HBf))
      go_wp2
      go_ret
      exact ⟨rfl, unhide HBX⟩
set_option maxRecDepth 100000 in
set_option maxHeartbeats 8000000 in
theorem says_ok (ca : Option Addr) (cn cc : Nat) (C : List Sl) (ka : Option Addr) (kn kc : Nat) (K : List Sl) (pa : Option Addr) (pc : Nat) (p : List Int) (w : World) (hC : Lsts w ca cn cc C) (hK : Lsts w ka kn kc K) (hp : Ints w pa cn pc p) (hs : ∀ s ∈ C, s.ln ≤ 140737488351232) (hn : cn ≤ 140737488351232) (hs' : ∀ s ∈ K, s.ln ≤ 140737488351232) (hn' : kn ≤ 140737488351232) (hR : Rds C K cn kn) (hO : OkP C cn p) (hE : aE C K p = 0) :
    Calls Try.prog 3 #[rV ca cn cc ka kn kc, .slice pa cn pc] w fun e w' => e = .returned (.bool true) ∧ Below w.heap.size w w' := by
  have hp1 := hp.2.1
  have hp2 := hp.2.2.1
  unfold maxLen at hp2
  obtain ⟨W, hW, hbW, hlt0, hbox⟩ := box_cells (w := w) ca cn cc ka kn kc
  have HW := hide hW
  have HBX0 := hide hbox
  have HBT := hide (fun (wr : World) (hb : Below W.heap.size W wr) => Below.trans hbW (hb.mono hbW.size))
  have w0 := (hbox W (Below.refl _ _)).1
  have w1 := (hbox W (Below.refl _ _)).2
  have hCW := hC.later hbW
  have hKW := hK.later hbW
  have hPW := hp.later hbW
  have CH := hide (heavyRoads_any ca cn cc C ka kn kc K W hCW hKW hs hn hs' hn')
  have CA : Hid (∀ wr, Below W.heap.size W wr → Calls Try.prog 6 #[rV ca cn cc ka kn kc, .slice pa cn pc] wr fun e w' => e = .returned (.int .i64 (aE C K p)) ∧ Below wr.heap.size wr w') := fun wr hb => atMay_any ca cn cc C ka kn kc K pa cn pc p wr (hCW.later hb) (hKW.later hb) (hPW.later hb)
  have CR1 : Hid (∀ wr, Below W.heap.size W wr → ∀ d os, Calls Try.prog 10 #[rV ca cn cc ka kn kc] (Sort.grow (redrawn wr d) os) fun e w'' => e = .returned (.int .i64 (rE C K)) ∧ ∃ q : Regrown, w'' = Sort.grow (redrawn wr q.d) q.os) := fun wr hb d os => Calls.regrown_of (roads_any ca cn cc C ka kn kc K _ (hCW.later (hb.trans ((below_regrown wr d os).mono hb.size))) (hKW.later (hb.trans ((below_regrown wr d os).mono hb.size))))
  have CR2 : Hid (∀ wr, Below W.heap.size W wr → ∀ d os, Calls Try.prog 11 #[rV ca cn cc ka kn kc] (Sort.grow (redrawn wr d) os) fun e w'' => e = .returned (.int .i64 (rE C K)) ∧ ∃ q : Regrown, w'' = Sort.grow (redrawn wr q.d) q.os) := fun wr hb d os => Calls.regrown_of (roadsMay_any ca cn cc C ka kn kc K _ (hCW.later (hb.trans ((below_regrown wr d os).mono hb.size))) (hKW.later (hb.trans ((below_regrown wr d os).mono hb.size))))
  have C7 : Hid (∀ wr, Below W.heap.size W wr → Calls Try.prog 7 #[rV ca cn cc ka kn kc, .slice pa cn pc] wr fun e w' => ∃ va vc, e = .returned (two (.slice va cn vc) 0) ∧ Ints w' va cn vc (lF cn (fun i => cs C K cn p i kn)) ∧ Below wr.heap.size wr w') := fun wr hb => cost7_ok ca cn cc C ka kn kc K pa pc p wr (hCW.later hb) (hKW.later hb) (hPW.later hb) hR hO hE
  have C8 : Hid (∀ wr, Below W.heap.size W wr → Calls Try.prog 8 #[rV ca cn cc ka kn kc, .slice pa cn pc] wr fun e w' => e = .returned (two (.int .i64 (hg C K cn p kn)) 0) ∧ Below wr.heap.size wr w') := fun wr hb => height_ok ca cn cc C ka kn kc K pa pc p wr (hCW.later hb) (hKW.later hb) (hPW.later hb) hR hO hE
  have C9 : Hid (∀ wr, Below W.heap.size W wr → Calls Try.prog 9 #[rV ca cn cc ka kn kc, .slice pa cn pc] wr fun e w' => ∃ v, e = .returned (two v 0) ∧ SPost C K cn kn p w' v ∧ Below wr.heap.size wr w') := fun wr hb => settle_ok ca cn cc C ka kn kc K pa pc p wr (hCW.later hb) (hKW.later hb) (hPW.later hb) hR hO hE
  have C14 : Hid (∀ wr, Below W.heap.size W wr → Calls Try.prog 14 #[rV ca cn cc ka kn kc, .slice pa cn pc] wr fun e w' => e = .returned (.int .i64 (hg C K cn p kn)) ∧ Below wr.heap.size wr w') := fun wr hb => heightOf_any ca cn cc C ka kn kc K pa pc p wr (hCW.later hb) (hKW.later hb) (hPW.later hb) hR hO
  have C16 : Hid (∀ wr, Below W.heap.size W wr → Calls Try.prog 16 #[rV ca cn cc ka kn kc, .slice pa cn pc] wr fun e w' => ∃ v, e = .returned v ∧ SPost C K cn kn p w' v ∧ Below wr.heap.size wr w') := fun wr hb => settleAll_any ca cn cc C ka kn kc K pa pc p wr (hCW.later hb) (hKW.later hb) (hPW.later hb) hR hO
  have C12 : Hid (∀ wr, Below W.heap.size W wr → ∀ i : Nat, i < cn → Calls Try.prog 12 #[rV ca cn cc ka kn kc, .slice pa cn pc, .int .i64 (i : Int)] wr fun e w' => e = .returned (.int .i64 (cs C K cn p i kn)) ∧ Below wr.heap.size wr w') := fun wr hb i hi => costOf_any ca cn cc C ka kn kc K pa pc p i wr (hCW.later hb) (hKW.later hb) (hPW.later hb) hR hO hi
  rw [hE] at CA
  have n5 := hR.n5
  clear hC hK hp hW hbW hbox hlt0 hCW hKW hPW hs hs' hn hn' hE hR hO
  unfold two at *
  obtain ⟨f, hf⟩ : ∃ f : Nat → Int, f = fun i => cs C K cn p i kn := ⟨_, rfl⟩
  have HF : Hid (∀ i : Nat, cs C K cn p i kn = f i) := fun i => by rw [hf]
  rw [← hf] at C7
  clear hf
  generalize hg C K cn p kn = HG at *
  unfold rV at *
  generalize rE C K = R at *
  go_enter Try.func3, Try.ntmps3
  go_wp2_with fail
  rw [unhide HW]
  go_wp2_with fail
  refine (unhide CH).mono ?_
  rintro e wa ⟨hv, rfl, hba⟩
  have HBa := hide hba
  have HBX := hide (unhide HBT _ hba)
  clear hba w0 w1 CH
  have w0 := (unhide HBX0 _ (unhide HBa)).1
  have w1 := (unhide HBX0 _ (unhide HBa)).2
  cases hv with
  | true =>
    go_wp2
    go_ret
    exact ⟨rfl, unhide HBX⟩
  | false =>
    · have hd : decide (100 < (cn : Int)) = false := by simp; omega
      have C1 := hide (unhide CA _ (unhide HBa))
      clear CA
      go_wp2_with fail
      refine (unhide C1).mono ?_
      rintro e wb ⟨rfl, hbb⟩
      have HBb := hide ((unhide HBa).trans (hbb.mono (unhide HBa).size))
      clear hbb w0 w1 C1 HBX HBa
      have w0 := (unhide HBX0 _ (unhide HBb)).1
      have w1 := (unhide HBX0 _ (unhide HBb)).2
      have C1 := hide (unhide C7 _ (unhide HBb))
      clear C7
      go_wp2_with fail
      refine (unhide C1).mono ?_
      rintro e wc ⟨va, vc, rfl, hIa, hbc⟩
      have HBc := hide ((unhide HBb).trans (hbc.mono (unhide HBb).size))
      have HIa := hide hIa
      clear hIa
      clear hbc w0 w1 C1 HBb
      have w0 := (unhide HBX0 _ (unhide HBc)).1
      have w1 := (unhide HBX0 _ (unhide HBc)).2
      have C1 := hide (unhide C8 _ (unhide HBc))
      clear C8
      go_wp2_with fail
      refine (unhide C1).mono ?_
      rintro e wd ⟨rfl, hbd⟩
      have HBd := hide ((unhide HBc).trans (hbd.mono (unhide HBc).size))
      have HIa := hide ((unhide HIa).later hbd)
      clear hbd w0 w1 C1 HBc
      have w0 := (unhide HBX0 _ (unhide HBd)).1
      have w1 := (unhide HBX0 _ (unhide HBd)).2
      have C1 := hide (unhide C9 _ (unhide HBd))
      clear C9
      go_wp2_with fail
      refine (unhide C1).mono ?_
      rintro e we ⟨vl, rfl, hSl, hbe⟩
      have HBe := hide ((unhide HBd).trans (hbe.mono (unhide HBd).size))
      have HIa := hide ((unhide HIa).later hbe)
      have HSl := hide hSl
      clear hSl
      clear hbe w0 w1 C1 HBd
      have w0 := (unhide HBX0 _ (unhide HBe)).1
      have w1 := (unhide HBX0 _ (unhide HBe)).2
      have C1 := hide (unhide CR1 _ (unhide HBe))
      have C2 := hide (unhide CR2 _ (unhide HBe))
      have w0g := cell_regrown w0
      have w1g := cell_regrown w1
      have hrr : (R != R) = false := by simp
      go_wp2_with fail
      refine wp_region_quiet_below (by kernel_rfl) (by kernel_rfl) ?_
      repeat (quiet_step (first | exact unhide C1 _ _ | exact unhide C2 _ _))
      refine wpQuiet_nil ?_
      intro _ hw'
      obtain ⟨⟨dq, osq⟩, hw''⟩ := hw'
      subst hw''
      have hbf := below_regrown we dq osq
      have HBf := hide ((unhide HBe).trans (hbf.mono (unhide HBe).size))
      have HIa := hide ((unhide HIa).later hbf)
      have HSl := hide ((unhide HSl).later hbf)
      clear w0 w1 w0g w1g C1 C2 CR1 CR2 hbf
      generalize Sort.grow (redrawn we dq) osq = wf at *
      clear HBe
      have w0 := (unhide HBX0 _ (unhide HBf)).1
      have w1 := (unhide HBX0 _ (unhide HBf)).2
      go_wp2
      go_loopw [12, 13] (fun r i wr => Hid (Below wf.heap.size wf wr) ∧ ∃ k : Nat, k ≤ cn ∧ i = .int .i64 k ∧ Hid (wr.ownsRow wf.heap.size 3 1 r k (intVals (lF k f)))) (fun _ i _ => cn - (intOf i).toNat)
      case atStart => exact ⟨Below.refl _ _, 0, Nat.zero_le _, rfl, World.ownsRow_nil _ _ _ _⟩
      case round =>
        clear w0 w1
        obtain ⟨HBq, k, hk, rfl, HR⟩ := hrel
        have HBr := hide ((unhide HBf).trans ((unhide HBq).mono (unhide HBf).size))
        have w0 := (unhide HBX0 _ (unhide HBr)).1
        have w1 := (unhide HBX0 _ (unhide HBr)).2
        by_cases hlt : k < cn
        · have C1 := unhide C12 _ (unhide HBr) k hlt
          rw [unhide HF k] at C1
          have C1 := hide C1
          have HFK : Hid (∃ fk, fk = f k) := ⟨_, rfl⟩
          obtain ⟨fk, hfk⟩ := unhide HFK
          rw [← hfk] at C1
          have HFK := hide hfk
          clear hfk
          go_wp2_with fail
          refine (unhide C1).mono ?_
          rintro e w4 ⟨rfl, hb4⟩
          have HB4 := hide ((unhide HBq).trans (hb4.mono (unhide HBq).size))
          have HR4 := hide (owns_later (unhide HR) hb4)
          clear hb4 w0 w1 C1
          go_wp2_with (at_builtin; refine wpList_append_int _ rfl _ _ rfl wf.heap.size _ _ _ rfl ((unhide HR4).alloc _) w4.heap.size fk rfl (by simp) (by omega) (by have := (unhide HB4).size; simp; omega) ?_; intro v2 w3 ho2 hg2)
          go_roundw
          case rel =>
            have hb5 := (((Below.refl wf.heap.size w4).alloc (unhide HB4).size (.cells #[.int .i64 fk] 3)).grown hg2 (by have := (unhide HB4).size; simp; omega) (fun q hq => ((unhide HR4).lt q hq).1))
            refine ⟨(unhide HB4).trans hb5, k + 1, by omega, by go_num, ?_⟩
            show _root_.Go.World.ownsRow _ _ _ _ _ _ _
            rw [lF_succ, intVals_append, ← unhide HFK]
            exact ho2
          case measure => simp [intOf]; omega
        · obtain rfl : cn = k := by omega
          obtain ⟨ra, rc, hv, hI, _⟩ := Ints.of_owns (unhide HR) (by omega)
          subst hv
          have HSl := hide ((unhide HSl).later (unhide HBq))
          have CS := sameInts_any va ra cn vc cn rc _ _ _ ((unhide HIa).later (unhide HBq)) hI
          rw [decide_eq_true rfl] at CS
          have CS := hide CS
          clear hI HR HIa HBq C12
          go_wp2_with fail
          refine (unhide CS).mono ?_
          rintro e wg ⟨rfl, hbg⟩
          have HBg := hide ((unhide HBr).trans (hbg.mono (unhide HBr).size))
          have HSl := hide ((unhide HSl).later hbg)
          clear hbg w0 w1 CS
          have w0 := (unhide HBX0 _ (unhide HBg)).1
          have w1 := (unhide HBX0 _ (unhide HBg)).2
          have C1 := hide (unhide C14 _ (unhide HBg))
          clear C14
          go_wp2_with fail
          refine (unhide C1).mono ?_
          rintro e wh ⟨rfl, hbh⟩
          have HBh := hide ((unhide HBg).trans (hbh.mono (unhide HBg).size))
          have HSl := hide ((unhide HSl).later hbh)
          clear hbh w0 w1 C1 HBg
          have w0 := (unhide HBX0 _ (unhide HBh)).1
          have w1 := (unhide HBX0 _ (unhide HBh)).2
          have C1 := hide (unhide C16 _ (unhide HBh))
          clear C16
          have hhg : (HG == HG) = true := by simp
          go_wp2_with fail
          refine (unhide C1).mono ?_
          rintro e wi ⟨vm, rfl, hSm, hbi⟩
          have HBi := hide ((unhide HBh).trans (hbi.mono (unhide HBh).size))
          obtain ⟨xa, xc, ya, yc, LL, LL', len, rfl, rfl, hx, hy, hl⟩ := ((unhide HSl).later hbi).same hSm
          have CZ := hide (sameLists_any len xa ya xc yc LL LL' wi hx hy hl)
          clear hbi w0 w1 C1 HBh hx hy hl hSm HSl
          go_wp2_with fail
          refine (unhide CZ).mono ?_
          rintro e wj ⟨rfl, hbj⟩
          have HBX := hide (unhide HBT _ ((unhide HBi).trans (hbj.mono (unhide HBi).size)))
          clear hbj
          go_wp2
          go_ret
          exact ⟨rfl, unhide HBX⟩
theorem says_any (ca : Option Addr) (cn cc : Nat) (C : List Sl) (ka : Option Addr) (kn kc : Nat) (K : List Sl) (pa : Option Addr) (pn pc : Nat) (p : List Int) (w : World) (hC : Lsts w ca cn cc C) (hK : Lsts w ka kn kc K) (hp : Ints w pa pn pc p) (hs : ∀ s ∈ C, s.ln ≤ 140737488351232) (hn : cn ≤ 140737488351232) (hs' : ∀ s ∈ K, s.ln ≤ 140737488351232) (hn' : kn ≤ 140737488351232) :
    Calls Try.prog 3 #[rV ca cn cc ka kn kc, .slice pa pn pc] w fun e w' => e = .returned (.bool true) ∧ Below w.heap.size w w' := by
  by_cases hE : aE C K p = 0
  · obtain ⟨h1, h2⟩ := aE_zero hE
    have hR := rds_of hC.lens hK.lens h1
    have e1 : cn = C.length := hC.1
    have e2 : kn = K.length := hK.1
    have e3 : pn = cn := by have := hp.1; have := h2.1; omega
    subst e3
    rw [← e1, ← e2] at hR
    rw [← e1] at h2
    exact says_ok ca pn cc C ka kn kc K pa pc p w hC hK hp hs hn hs' hn' hR h2 hE
  · exact says_err ca cn cc C ka kn kc K pa pn pc p w hC hK hp hs hn hs' hn' hE
end Go.Proofs.Ytcannknicfnkdaa
