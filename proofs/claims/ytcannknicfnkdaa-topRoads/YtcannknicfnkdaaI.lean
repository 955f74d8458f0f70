import Derived.Test.YtcannknicfnkdaaH
import Derived.Lib.SmallJoins
namespace Go.Proofs.Ytcannknicfnkdaa
open Go.RowKit
set_option maxRecDepth 100000 in
set_option maxHeartbeats 1000000 in
theorem clone_any (a : Option Addr) (n c : Nat) (l : List Int) (w : World) (h : Ints w a n c l) (hs : n ≤ 1000) :
    Calls Try.prog 25 #[.slice a n c] w fun e w' => ∃ v, e = .returned v ∧ w'.ownsRow w.heap.size 3 1 v n (intVals l) ∧ Below w.heap.size w w' := by
  cases a with
  | none =>
    have hz : n = 0 := by
      rcases h.2.2.2 with h0 | ⟨b, off, hh, _⟩
      · exact h0
      · cases hh
    have hl : l = [] := List.length_eq_zero_iff.1 (by have := h.1; omega)
    subst hz hl
    have hq : ∀ w, (binOp .eql 25 (.slice none 0 c) (.slice none 0 0)).run Try.prog w = .ok (.bool true) w := fun w => Lib.run_eql_slice_nil w 25 3 none 0 c 0 0 Try.underlying25
    go_enter Try.func25, Try.ntmps25
    go_wp2
    go_ret
    exact ⟨_, rfl, World.ownsRow_nil _ _ _ _, Below.refl _ _⟩
  | some ad =>
    have hb0 : Below w.heap.size w (w.alloc (.cells #[] 3)) := by go_grown
    have h1 := h.later hb0
    have hown0 : (w.alloc (.cells #[] 3)).ownsRow w.heap.size 3 1 (.slice (some ⟨w.heap.size, 0, none⟩) 0 0) 0 (intVals []) :=
      World.ownsRow_made (base := w.heap.size) (e := 3) (size := 1) w #[] 0 (Nat.le_refl _) (by unfold maxLen; omega) rfl
    have HO := hide hown0
    clear hown0
    have hq : ∀ w, (binOp .eql 25 (.slice (some ad) n c) (.slice none 0 0)).run Try.prog w = .ok (.bool false) w := fun w => Lib.run_eql_slice_nil w 25 3 (some ad) n c 0 0 Try.underlying25
    go_enter Try.func25, Try.ntmps25
    go_wp2_with (at_builtin; refine wpList_append_ints _ rfl _ _ rfl w.heap.size _ 0 [] rfl (unhide HO) (some ad) n c l rfl h1 (by omega) (by simp) ?_; intro v2 w2 ho2 hg2)
    go_ret
    have hb2 := ((Below.refl w.heap.size _).grown hg2 (by simp) (fun k hk => ((unhide HO).lt k hk).1))
    refine ⟨_, rfl, ?_, hb0.trans hb2⟩
    simpa using ho2
theorem T3.set {w : World} {g n i : Nat} {v : Value} (h : T3 w (some ⟨g, 0, none⟩) n) : T3 (w.setCell ⟨g, i, none⟩ v) (some ⟨g, 0, none⟩) n := by
  rcases h with h | ⟨b, off, arr, fz, e, hb⟩
  · exact .inl h
  · cases e
    exact .inr ⟨g, 0, _, fz, rfl, Joins.block_setCell hb v⟩
/-- A copy: where it lies. -/
theorem owns_row {w' : World} {base n : Nat} {v : Value} {l : List Int} (h : w'.ownsRow base 3 1 v n (intVals l)) (hn : 1 ≤ n) : ∃ g cap, v = .slice (some ⟨g, 0, none⟩) n cap ∧ n ≤ cap ∧ cap ≤ maxLen ∧ base ≤ g ∧ g < w'.heap.size ∧ Row base w' (some ⟨g, 0, none⟩) n (nth l) ∧ T3 w' (some ⟨g, 0, none⟩) n := by
  obtain ⟨va, cap, hv, h1, h2, hr⟩ := Row.of_owns h
  have hr0 := hr
  rcases hr with h0 | ⟨g, e, q1, q2, q3⟩
  · omega
  · subst e
    subst hv
    exact ⟨g, cap, rfl, h1, h2, q1, q2, hr0, T3.of_owns h⟩
theorem nth_upd {p : List Int} {i : Nat} {x : Int} (hi : i < p.length) (j : Nat) : upd (nth p) i x j = nth (p.set i x) j := by
  rw [nth_set hi]; rfl
set_option maxRecDepth 100000 in
set_option maxHeartbeats 4000000 in
theorem cheapest_any (ca : Option Addr) (n cc : Nat) (C : List Sl) (ka : Option Addr) (m kc : Nat) (K : List Sl) (pa : Option Addr) (pc : Nat) (p : List Int) (i : Nat) (w : World) (hC : Lsts w ca n cc C) (hK : Lsts w ka m kc K) (hp : Ints w pa n pc p) (hR : Rds C K n m) (hO : OkP C n p) (hi : i < n) :
    Calls Try.prog 32 #[rV ca n cc ka m kc, .slice pa n pc, .int .i64 i] w fun r w' => r = .returned (.int .i64 (bs (fun k => cs C K n (p.set i k) i m) (nth p i) (cs C K n p i m) (slAt C i).ln).1) ∧ Below w.heap.size w w' := by
  have hc1 := hC.2.1
  have hc2 := hC.2.2.1
  have hk1 := hK.2.1
  have hk2 := hK.2.2.1
  have hp1 := hp.2.1
  have hp2 := hp.2.2.1
  unfold maxLen at hc2 hk2 hp2
  have n1 := hR.n1
  have n5 := hR.n5
  have m6 := hR.m6
  obtain ⟨W, hW, hbW, hlt0, hbox⟩ := box_cells (w := w) ca n cc ka m kc
  have HW := hide hW
  have HBX0 := hide hbox
  have HBT := hide (fun (wr : World) (hb : Below W.heap.size W wr) => Below.trans hbW (hb.mono hbW.size))
  have w0 := (hbox W (Below.refl _ _)).1
  have w1 := (hbox W (Below.refl _ _)).2
  have hCW := hC.later hbW
  have hKW := hK.later hbW
  have hPW := hp.later hbW
  have hpl : p.length = n := hO.1
  have CC : Hid (∀ (wr : World) (qa : Option Addr) (qc : Nat) (q : List Int), Below W.heap.size W wr → Ints wr qa n qc q → OkP C n q → Calls Try.prog 23 #[rV ca n cc ka m kc, .slice qa n qc, .int .i64 (i : Int)] wr fun r w' => r = .returned (.int .i64 (cs C K n q i m)) ∧ Below wr.heap.size wr w') := fun wr qa qc q hb hq hOq => cost_any ca n cc C ka m kc K qa qc q i wr (hCW.later hb) (hKW.later hb) hq hR hOq hi
  have CL : Hid (∀ (wr : World), Below W.heap.size W wr → Calls Try.prog 25 #[.slice pa n pc] wr fun e w' => ∃ v, e = .returned v ∧ w'.ownsRow wr.heap.size 3 1 v n (intVals p) ∧ Below wr.heap.size wr w') := fun wr hb => clone_any pa n pc p wr (hPW.later hb) (by omega)
  have CR := hide (fun d os => Calls.regrown_of (unhide CC _ pa pc p (below_regrown W d os) (hPW.later (below_regrown W d os)) hO))
  have HBD := hide (fun (q : List Int) => cs_bd (C := C) hR.ok q i hi m (Nat.le_refl _))
  have HOS : Hid (∀ k : Nat, k < (slAt C i).ln → OkP C n (p.set i k)) := fun k hk => hO.set hi (by omega) (by omega)
  have HU := hide (fun x j => nth_upd (p := p) (i := i) (x := x) (by rw [hpl]; exact hi) j)
  have HPS : Hid (∀ x : Int, (p.set i x).length = n) := fun x => by rw [List.length_set]; exact hpl
  obtain ⟨cb, co', pb, po, rfl, rfl, hrd⟩ := rd_cells hCW hPW hR hO
  obtain ⟨ib, io, ln, lc, t, x, ent, -, eln, x0, x1, htl, l1, l5, l2, hcs⟩ := hrd i hi
  rw [eln] at HOS
  rw [eln]
  have HCS := hide hcs
  have p1 := (hcs _ (Below.refl _ _)).2.1
  have HEN := hide ent
  clear hC hK hp hW hbW hbox hlt0 hR hO hrd hCW hKW hPW hcs eln ent
  have w0g := cell_regrown w0
  have w1g := cell_regrown w1
  have p1g := cell_regrown p1
  unfold rV at *
  obtain ⟨f, hf⟩ : ∃ f : Nat → Int, f = fun k : Nat => cs C K n (p.set i (k : Int)) i m := ⟨_, rfl⟩
  have HF : Hid (∀ k : Nat, cs C K n (p.set i k) i m = f k) := fun k => by rw [hf]
  rw [← hf]
  have HL0 := hide (unhide HBD p)
  obtain ⟨l0, hl0⟩ : ∃ l0, l0 = cs C K n p i m := ⟨_, rfl⟩
  rw [← hl0] at CR HL0
  rw [← hl0]
  clear hf hl0 hpl
  rw [unhide HEN]
  have hl0 := unhide HL0
  go_enter Try.func32, Try.ntmps32
  go_wp2_with fail
  rw [unhide HW]
  go_wp2_with fail
  refine wp_region_quiet_below (by kernel_rfl) (by kernel_rfl) ?_
  repeat (quiet_step (first | exact unhide CR _ _))
  refine wpQuiet_nil ?_
  intro _ hw'
  obtain ⟨⟨dq, osq⟩, hw''⟩ := hw'
  subst hw''
  have HB1 := hide (below_regrown W dq osq)
  clear w0g w1g p1g w0 w1 p1 CR
  generalize Sort.grow (redrawn W dq) osq = w2 at *
  have CL := hide (unhide CL _ (unhide HB1))
  have w0 := (unhide HBX0 _ (unhide HB1)).1
  have w1 := (unhide HBX0 _ (unhide HB1)).2
  go_wp2_with fail
  refine (unhide CL).mono ?_
  rintro e w3 ⟨v, rfl, hown, hb3⟩
  obtain ⟨g, cap, rfl, g1, g2, g3, g4, hrow, -⟩ := owns_row hown n1
  have HB3 := hide ((unhide HB1).trans (hb3.mono (unhide HB1).size))
  have HR3 : Hid (Row w2.heap.size w3 (some ⟨g, 0, none⟩) n (upd (nth p) i (nth p i))) := by show Row _ _ _ _ _; rw [upd_self]; exact hrow
  have hWg : W.heap.size ≤ g := Nat.le_trans (unhide HB1).size g3
  clear hown hb3 hrow w0 w1 CL g4
  have w0 := (unhide HBX0 _ (unhide HB3)).1
  have w1 := (unhide HBX0 _ (unhide HB3)).2
  obtain ⟨k1, -, -⟩ := unhide HCS _ (unhide HB3)
  have hgm := g2
  unfold maxLen at hgm
  generalize hB : w2.heap.size = B at *
  clear hB
  go_wp2
  go_loopw [28, 7, 8, 10, 11] (fun i' bb ll _ _ wr => Hid (Below W.heap.size W wr) ∧ ∃ k : Nat, k ≤ ln ∧ i' = .int .i64 k ∧ bb = .int .i64 (bs f t l0 k).1 ∧ ll = .int .i64 (bs f t l0 k).2 ∧ Hid (∃ y, Row B wr (some ⟨g, 0, none⟩) n (upd (nth p) i y))) (fun i' _ _ _ _ _ => ln - (intOf i').toNat)
  case atStart => exact ⟨HB3, 0, Nat.zero_le _, rfl, rfl, rfl, ⟨_, unhide HR3⟩⟩
  case round =>
    clear HB3 HR3 w0 w1 k1
    obtain ⟨HBr, k, hk, rfl, rfl, rfl, HRr⟩ := hrel
    by_cases hlt : k < ln
    · obtain ⟨y, hry⟩ := unhide HRr
      obtain ⟨r1, r2, r3, -⟩ := hry.at hi
      have HR4 : Hid (Row B (wr.setCell ⟨g, i, none⟩ (.int .i64 (k : Int))) (some ⟨g, 0, none⟩) n (upd (nth p) i k)) := hry.set hi (fun j hj hne => by rw [upd_ne hne, upd_ne hne]) (by rw [upd_at])
      obtain ⟨w4, hw4⟩ : ∃ w4, wr.setCell ⟨g, i, none⟩ (.int .i64 (k : Int)) = w4 := ⟨_, rfl⟩
      rw [hw4] at HR4
      have HB4 : Hid (Below W.heap.size W w4) := by show Below _ _ _; rw [← hw4]; exact (unhide HBr).setCell (p := ⟨g, i, none⟩) hWg _
      have HI4 : Hid (Ints w4 (some ⟨g, 0, none⟩) n cap (p.set i k)) := (unhide HR4).ints (unhide HPS k).symm g1 g2 (fun j hj => unhide HU k j)
      have C1 := unhide CC w4 _ cap _ (unhide HB4) (unhide HI4) (unhide HOS k hlt)
      rw [unhide HF] at C1
      have hbd := unhide HBD (p.set i k)
      rw [unhide HF] at hbd
      have C1 := hide C1
      have HW4 := hide hw4
      have w0 := (unhide HBX0 _ (unhide HBr)).1
      have w1 := (unhide HBX0 _ (unhide HBr)).2
      have u0 := (unhide HBX0 _ (unhide HB4)).1
      have u1 := (unhide HBX0 _ (unhide HB4)).2
      have HN : Hid (bs f t l0 (k + 1) = if f k < (bs f t l0 k).2 then ((k : Int), f k) else bs f t l0 k) := rfl
      rw [← hw4] at u0 u1
      clear hry hw4
      obtain ⟨B0, B1⟩ : ∃ b : Int × Int, b = bs f t l0 k := ⟨_, rfl⟩
      rw [← B1] at HN
      have HB01 := hide B1
      rw [← B1]
      clear B1
      obtain ⟨b1, b2⟩ := B0
      generalize f k = fk at *
      by_cases hc : fk < b2
      · have hd : decide (fk < b2) = true := by simp [hc]
        rw [if_pos hc] at HN
        clear hc
        go_wp2_with fail
        rw [unhide HW4]
        refine (unhide C1).mono ?_
        rintro e w5 ⟨rfl, hb5⟩
        have HB5 := hide ((unhide HB4).trans (hb5.mono (unhide HB4).size))
        have HR5 := hide ((unhide HR4).later hb5)
        clear hb5 w0 w1 u0 u1
        go_wp2
        go_roundw
        case rel => exact ⟨HB5, k + 1, by omega, by go_num, by rw [unhide HN], by rw [unhide HN], ⟨_, unhide HR5⟩⟩
        case measure => simp [intOf]; omega
      · have hd : decide (fk < b2) = false := by simp at hc ⊢; exact hc
        rw [if_neg hc] at HN
        clear hc
        go_wp2_with fail
        rw [unhide HW4]
        refine (unhide C1).mono ?_
        rintro e w5 ⟨rfl, hb5⟩
        have HB5 := hide ((unhide HB4).trans (hb5.mono (unhide HB4).size))
        have HR5 := hide ((unhide HR4).later hb5)
        clear hb5 w0 w1 u0 u1
        go_wp2
        go_roundw
        case rel => exact ⟨HB5, k + 1, by omega, by go_num, by rw [unhide HN], by rw [unhide HN], ⟨_, unhide HR5⟩⟩
        case measure => simp [intOf]; omega
    · obtain rfl : ln = k := by omega
      have HBX := hide (unhide HBT _ (unhide HBr))
      go_wp2
      go_ret
      exact ⟨rfl, unhide HBX⟩
end Go.Proofs.Ytcannknicfnkdaa
