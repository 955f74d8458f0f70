import Derived.Test.YtaaikaeknealkaaWO
import Derived.Test.YtaaikaeknealkaaJ
namespace Go.Proofs.Ytaaikaeknealkaa
open Go.RowKit
theorem Ints.grown {w w' : World} {a : Option Addr} {n c : Nat} {l : List Int} {v : Value} (h : Ints w a n c l) (hg : w.grownBy w' v.ownBlock) (hap : ∀ b o, a = some ⟨b, o, none⟩ → some b ≠ v.ownBlock) : Ints w' a n c l := by
  obtain ⟨h1, h2, h3, h4⟩ := h
  refine ⟨h1, h2, h3, h4.imp id ?_⟩
  rintro ⟨b, off, e, hb, hc⟩
  exact ⟨b, off, e, Nat.lt_of_lt_of_le hb hg.size, fun j hj => hg.cell (hc j hj) (hap b off e)⟩
theorem wpList_append_one (w : World) {ops : Array Oper} {rest : List Oper} {o : Oper} {a : Act} {Q : Exit → Act → World → Prop} (hgd : o.guard = none) (sx x : Operand)
    (ho : o.op = .call { callee := .builtin .append, args := #[sx, x], argTypes := #[22, 22] })
    (base : Nat) (v : Value) (n : Nat) (xs : List Sl) (hs : a.eval sx = v) (hown : w.ownsRow base 26 1 v n (slVals xs))
    (g c : Nat) (s : Sl) (hx : a.eval x = .slice (some ⟨g, 0, none⟩) 1 c) (hc : w.cell? ⟨g, 0, none⟩ = some (.slice s.la s.ln s.lc))
    (hsm : n ≤ 1000) (hbase : base ≤ w.heap.size)
    (hK : ∀ v' w', w'.ownsRow base 26 1 v' (n + 1) (slVals (xs ++ [s])) → w.grownBy w' v.ownBlock → (v'.ownBlock = v.ownBlock ∨ v'.ownBlock = some w.heap.size) → wpList Try.prog ops Q rest (a.put o.dst v') w') : wpList Try.prog ops Q (o :: rest) a w :=
  wpList_plain hgd fun _ hk => by
    obtain ⟨v', w', hr, h2, h3, h4⟩ := run_append_one w o.type base v n xs hown g c s hc (by omega) hbase
    unfold Oper.wp execOp
    simp only [ho, resolve, invoke, builtin, Sem.run_bind, Sem.run_pure, Result.andThen_ok, List.map_toArray, List.map_cons, List.map_nil, hs, hx, hr]
    exact hk _ _ (hK v' w' h2 h3 h4)
theorem own_slice {w : World} {base k : Nat} {v : Value} {xs : List Value} (h : w.ownsRow base 26 1 v k xs) (hk : 0 < k) : ∃ g cap, v = .slice (some ⟨g, 0, none⟩) k cap := by
  rcases h.2 with ⟨_, e⟩ | ⟨g, cap, cur, e, _⟩
  · omega
  · exact ⟨g, cap, e⟩
theorem own_other {w : World} {base n g o : Nat} {v u : Value} {xs : List Value} (h : w.ownsRow base 26 1 v n xs) (hg : g < base) : (w.setCell ⟨g, o, none⟩ u).ownsRow base 26 1 v n xs := by
  refine ⟨h.1, ?_⟩
  rcases h.2 with e | ⟨g', cap, cur, e, hb, hh, h1, h2, h3, h4⟩
  · exact .inl e
  · refine .inr ⟨g', cap, cur, e, hb, ?_, h1, h2, h3, h4⟩
    rw [Below.heap_setCell _ _ _ _ (by show _ ≠ g; omega)]
    exact hh
theorem nth_lF {it P : Nat} {f : Nat → Int} (h : WS it f P) : nth (lF P f) = f := by
  funext j
  by_cases hj : j < P
  · exact lF_at hj
  · rw [h.2.2.2 j (by omega)]
    unfold nth
    rw [List.getElem?_eq_none (by rw [lF_len]; omega)]
    rfl
/-- A list that was made: what sets are worth. -/
def Gd (it : Nat) (s : Sl) : Prop := s.ln = 2 ^ it ∧ WS it (nth s.ints) (2 ^ it)
def BOI (w : World) (n it : Nat) (i : Value) (wr : World) : Prop :=
  Below w.heap.size w wr ∧ w.heap.size + 2 ≤ wr.heap.size ∧ wr.heap[w.heap.size]? = some (.cells #[.int .i64 0, .slice none 0 0] 24 (0, 0)) ∧
    ∃ (k : Nat) (v : Value) (L : List Sl), k ≤ n ∧ i = .int .i64 k ∧ wr.heap[w.heap.size + 1]? = some (.cells #[.int .i64 it, v] 24 (0, 0)) ∧ wr.ownsRow (w.heap.size + 2) 26 1 v k (slVals L) ∧ ∀ s ∈ L, Ints wr s.la s.ln s.lc s.ints ∧ Gd it s ∧ ∀ b o, s.la = some ⟨b, o, none⟩ → some b ≠ v.ownBlock ∧ w.heap.size + 2 ≤ b
set_option maxRecDepth 100000 in
set_option maxHeartbeats 4000000 in
theorem bidsOf_any (ra : Option Addr) (rn rc : Nat) (raw : List Int) (n it : Nat) (w : World) (h : Ints w ra rn rc raw) (hr : ∀ x ∈ raw, InR x) (hrn : rn ≤ 256) (hn1 : 1 ≤ n) (hn4 : n ≤ 4) (hit : it ≤ 4) :
    Calls Try.prog 12 #[.slice ra rn rc, .int .i64 n, .int .i64 it] w fun e w' => ∃ a c L, e = .returned (bidV it a n c) ∧ Lsts w' a n c L ∧ (∀ s ∈ L, Gd it s) ∧ Below w.heap.size w w' := by
  obtain ⟨P, hP⟩ : ∃ P : Nat, P = 2 ^ it := ⟨_, rfl⟩
  have hwp := wrap_pow hP hit
  have hP16 : P ≤ 16 := by rw [hP]; exact pow_le hit
  have hP0 : 0 < P := by rw [hP]; exact Nat.two_pow_pos it
  have HP := hide hP
  have HW : Hid (∀ W (fr : Nat), Below w.heap.size w W → fr ≤ 100 → Calls Try.prog 14 #[.slice ra rn rc, .int .i64 fr, .int .i64 it] W fun e w' => ∃ f, WS it f P ∧ e = .returned (.slice (some ⟨W.heap.size, 0, none⟩) P P) ∧ Row W.heap.size w' (some ⟨W.heap.size, 0, none⟩) P f ∧ Below W.heap.size W w') := fun W fr hW hf => by
    rw [hP]; exact worthOf_any ra rn rc raw fr it W (h.later hW) hr hrn hf hit
  have hA : Below w.heap.size w ((w.alloc (.cells #[.int .i64 0, .slice none 0 0] 24)).alloc (.cells #[.int .i64 it, .slice none 0 0] 24)) := by go_grown
  have hBx : ((w.alloc (.cells #[.int .i64 0, .slice none 0 0] 24)).alloc (.cells #[.int .i64 it, .slice none 0 0] 24)).heap[w.heap.size]? = some (.cells #[.int .i64 0, .slice none 0 0] 24 (0, 0)) := by
    rw [heap_alloc_old _ _ (by simp)]; exact heap_alloc_new _ _
  have hBy : ((w.alloc (.cells #[.int .i64 0, .slice none 0 0] 24)).alloc (.cells #[.int .i64 it, .slice none 0 0] 24)).heap[w.heap.size + 1]? = some (.cells #[.int .i64 it, .slice none 0 0] 24 (0, 0)) := heap_alloc2_new _ _ _
  have hsz0 : ((w.alloc (.cells #[.int .i64 0, .slice none 0 0] 24)).alloc (.cells #[.int .i64 it, .slice none 0 0] 24)).heap.size = w.heap.size + 2 := by simp
  clear h hr hP
  unfold bidV
  go_enter Try.func12, Try.ntmps12
  go_wp2_with fail
  generalize (w.alloc (.cells #[.int .i64 0, .slice none 0 0] 24)).alloc (.cells #[.int .i64 it, .slice none 0 0] 24) = W0 at *
  go_loopw [8, 9] (fun i _ wr => BOI w n it i wr) (fun i _ _ => n - (intOf i).toNat)
  case atStart => exact ⟨hA, by omega, hBx, 0, .slice none 0 0, [], Nat.zero_le _, rfl, hBy, World.ownsRow_nil _ _ _ _, fun s hs' => by cases hs'⟩
  case round =>
    obtain ⟨hbr, hsr, hx0, k, v, L, hk, rfl, hx1, hown, hall⟩ := hrel
    by_cases hlt : k < n
    · obtain ⟨z, hz⟩ : ∃ z : Nat, z = k * P := ⟨_, rfl⟩
      have hzi : (k : Int) * (P : Int) = (z : Int) := by rw [hz]; simp
      have hz100 : z ≤ 100 := by
        have := Nat.mul_le_mul (show k ≤ 4 by omega) hP16
        omega
      have hzw : IntKind.i64.wrap (z : Int) = (z : Int) := wrap_in _ (by omega) (by omega)
      have CW := hide (unhide HW wr z hbr hz100)
      have HO := hide hown
      have HALL := hide hall
      have HX0 := hide hx0
      have HX1 := hide hx1
      clear hown hall hx0 hx1 hz
      go_wp2_with fail
      refine (unhide CW).mono ?_
      rintro e w2 ⟨f, hWS, rfl, hR2, hb2⟩
      have hh1 := (hb2.block (w.heap.size + 1) (by omega)).trans (unhide HX1)
      have hh0 := (hb2.block w.heap.size (by omega)).trans (unhide HX0)
      obtain ⟨c1, f1⟩ := cell_in' hh1 1
      simp at c1
      have hs2 := hb2.size
      obtain ⟨sl, hsl⟩ : ∃ sl : Sl, sl = ⟨some ⟨wr.heap.size, 0, none⟩, P, P, lF P f⟩ := ⟨_, rfl⟩
      have hbX : Below w2.heap.size w2 (w2.alloc (.cells #[.slice (some ⟨wr.heap.size, 0, none⟩) P P] 26)) := by go_grown
      have hwX : Below wr.heap.size wr (w2.alloc (.cells #[.slice (some ⟨wr.heap.size, 0, none⟩) P P] 26)) := hb2.trans (hbX.mono hb2.size)
      have HOX := hide (owns_later (unhide HO) hwX)
      have hIsl : Ints w2 (some ⟨wr.heap.size, 0, none⟩) P P (lF P f) := hR2.ints (lF_len _ _).symm (Nat.le_refl _) (by unfold maxLen; omega) (fun j hj => (lF_at hj).symm)
      have hszX : (w2.alloc (.cells #[.slice (some ⟨wr.heap.size, 0, none⟩) P P] 26)).heap.size = w2.heap.size + 1 := by simp
      have HRI : Hid (∀ (w3 : World) (v3 : Value), w3.ownsRow (w.heap.size + 2) 26 1 v3 (k + 1) (slVals (L ++ [sl])) → (w2.alloc (.cells #[.slice (some ⟨wr.heap.size, 0, none⟩) P P] 26)).grownBy w3 v.ownBlock → (v3.ownBlock = v.ownBlock ∨ v3.ownBlock = some (w2.alloc (.cells #[.slice (some ⟨wr.heap.size, 0, none⟩) P P] 26)).heap.size) → w3.cell? ⟨w.heap.size + 1, 1, none⟩ = some v ∧ w3.frozen? ⟨w.heap.size + 1, 1, none⟩ = false ∧ BOI w n it (.int .i64 ((k : Int) + 1)) (w3.setCell ⟨w.heap.size + 1, 1, none⟩ v3)) := fun w3 v3 ho3 hg3 hv3 => by
        have hb3 : Below (w.heap.size + 2) (w2.alloc (.cells #[.slice (some ⟨wr.heap.size, 0, none⟩) P P] 26)) w3 := (Below.refl _ _).grown hg3 (by omega) (fun q hq => ((unhide HOX).lt q hq).1)
        have hX1 := (hb3.block (w.heap.size + 1) (by omega)).trans ((hbX.block (w.heap.size + 1) (by omega)).trans hh1)
        have hX0 := (hb3.block w.heap.size (by omega)).trans ((hbX.block w.heap.size (by omega)).trans hh0)
        have hbz : Below w.heap.size w w3 := (hbr.trans (hwX.mono hbr.size)).trans (hb3.mono (by omega))
        have hown3 : ∀ b, v.ownBlock = some b → b < wr.heap.size := fun b hb => ((unhide HO).lt b hb).2
        have hsz3 := hb3.size
        refine ⟨by simpa using (cell_in' hX1 1).1, (cell_in' hX1 1).2, hbz.setCell (p := ⟨w.heap.size + 1, 1, none⟩) (by show _ ≤ w.heap.size + 1; omega) _, by simp; omega, ?_, k + 1, v3, L ++ [sl], by omega, by go_num, ?_, ?_, fun s hs' => ?_⟩
        · rw [Below.heap_setCell _ _ _ _ (by show _ ≠ w.heap.size + 1; omega)]; exact hX0
        · rw [heap_setCell_same _ _ _ _ _ _ hX1]; rfl
        · refine ⟨ho3.1, ?_⟩
          rcases ho3.2 with e | ⟨g', cap, cur, e, hb, hh, h1, h2, h3, h4⟩
          · exact .inl e
          · refine .inr ⟨g', cap, cur, e, hb, ?_, h1, h2, h3, h4⟩
            rw [Below.heap_setCell _ _ _ _ (by show _ ≠ w.heap.size + 1; omega)]
            exact hh
        · rcases List.mem_append.1 hs' with e | e
          · obtain ⟨q1, q2, q3⟩ := unhide HALL s e
            refine ⟨((q1.later hwX).grown hg3 (fun b o hb => (q3 b o hb).1)).other (fun b o hb => by have := (q3 b o hb).2; omega), q2, fun b o hb => ⟨?_, (q3 b o hb).2⟩⟩
            rcases hv3 with e3 | e3
            · rw [e3]; exact (q3 b o hb).1
            · rw [e3]
              intro hh
              have hbb : b < wr.heap.size := by
                obtain ⟨b', o', e', hb', _⟩ := q1.nth (by rw [q2.1, ← unhide HP]; exact hP0)
                rw [hb] at e'
                cases e'
                exact hb'
              have := Option.some.inj hh
              omega
          · rw [List.mem_singleton] at e
            subst e
            rw [hsl]
            refine ⟨((hIsl.later hbX).grown hg3 (fun b o hb => ?_)).other (fun b o hb => ?_), ⟨unhide HP, by rw [← unhide HP]; show WS it (nth (lF P f)) P; rw [nth_lF hWS]; exact hWS⟩, fun b o hb => ⟨?_, ?_⟩⟩
            · cases hb
              intro hh
              have := hown3 _ hh.symm
              omega
            · cases hb; omega
            · cases hb
              rcases hv3 with e3 | e3
              · rw [e3]
                intro hh
                have := hown3 _ hh.symm
                omega
              · rw [e3]
                intro hh
                have := Option.some.inj hh
                omega
            · cases hb; omega
      have hcs : (w2.alloc (.cells #[.slice (some ⟨wr.heap.size, 0, none⟩) P P] 26)).cell? ⟨w2.heap.size, 0, none⟩ = some (.slice sl.la sl.ln sl.lc) := by rw [hsl]; simp
      have hszY : w.heap.size + 2 ≤ (w2.alloc (.cells #[.slice (some ⟨wr.heap.size, 0, none⟩) P P] 26)).heap.size := by omega
      have hne2 : ¬ w.heap.size + 1 = w2.heap.size := by omega
      have hlt2 : w.heap.size + 1 < w2.heap.size := by omega
      clear hh0 hh1 hIsl hR2 hWS
      go_wp2_with (at_builtin; refine wpList_append_one _ rfl _ _ rfl (w.heap.size + 2) v k L rfl (unhide HOX) w2.heap.size 1 sl rfl hcs (by omega) hszY ?_; intro v3 w3 ho3 hg3 hv3; obtain ⟨r1, r2, r3⟩ := unhide HRI w3 v3 ho3 hg3 hv3; obtain ⟨g3, cap3, hv3e⟩ := own_slice ho3 (Nat.succ_pos k); subst hv3e; have HR3 := hide r3; clear r3 ho3 hg3 hv3)
      go_roundw
      case rel => exact unhide HR3
      case measure => simp [intOf]; omega
    · obtain rfl : k = n := by omega
      obtain ⟨g3, cap3, hv3e⟩ := own_slice hown (by omega)
      subst hv3e
      obtain ⟨d0, g0⟩ := cell_in' hx1 0
      obtain ⟨d1, g1⟩ := cell_in' hx1 1
      obtain ⟨r0, t0⟩ := cell_in' hx0 0
      obtain ⟨r1, t1⟩ := cell_in' hx0 1
      simp at d0 d1 r0 r1
      have HX0 := hide hx0
      have HFX : Hid (∃ a c L, Ending.returned (.agg #[.int .i64 (it : Int), .slice (some ⟨g3, 0, none⟩) k cap3]) = .returned (.agg #[.int .i64 (it : Int), .slice a k c]) ∧ Lsts ((wr.setCell ⟨w.heap.size, 0, none⟩ (.int .i64 (it : Int))).setCell ⟨w.heap.size, 1, none⟩ (.slice (some ⟨g3, 0, none⟩) k cap3)) a k c L ∧ (∀ s ∈ L, Gd it s) ∧ Below w.heap.size w ((wr.setCell ⟨w.heap.size, 0, none⟩ (.int .i64 (it : Int))).setCell ⟨w.heap.size, 1, none⟩ (.slice (some ⟨g3, 0, none⟩) k cap3))) := by
        obtain ⟨a4, c4, e4, hL4⟩ := Lsts.of_owns (own_other (own_other hown (show w.heap.size < w.heap.size + 2 by omega) (o := 0) (u := .int .i64 (it : Int))) (show w.heap.size < w.heap.size + 2 by omega) (o := 1) (u := .slice (some ⟨g3, 0, none⟩) k cap3)) (fun s hs' => ((hall s hs').1.other (fun b o hb => by have := ((hall s hs').2.2 b o hb).2; omega)).other (fun b o hb => by have := ((hall s hs').2.2 b o hb).2; omega))
        exact ⟨a4, c4, L, by rw [e4], hL4, fun s hs' => (hall s hs').2.1, (hbr.setCell (p := ⟨w.heap.size, 0, none⟩) (Nat.le_refl _) _).setCell (p := ⟨w.heap.size, 1, none⟩) (Nat.le_refl _) _⟩
      clear hx0 hx1 hown hall
      go_wp2_with fail
      have hr : ((wr.setCell ⟨w.heap.size, 0, none⟩ (.int .i64 (it : Int))).setCell ⟨w.heap.size, 1, none⟩ (.slice (some ⟨g3, 0, none⟩) k cap3)).heap[w.heap.size]? = some (.cells #[.int .i64 (it : Int), .slice (some ⟨g3, 0, none⟩) k cap3] 24 (0, 0)) := by
        rw [heap_setCell_same _ _ _ _ _ _ (heap_setCell_same _ _ _ _ _ _ (unhide HX0))]; rfl
      (try simp only [Exit.inBlock, Exit.then])
      refine bodyPost_ret (results_cell_row rfl _ _ w.heap.size 24 _ (0, 0) _ rfl hr Try.underlying24 rfl (by show _ = some 2; kernel_rfl)) rfl ?_
      exact unhide HFX
end Go.Proofs.Ytaaikaeknealkaa
