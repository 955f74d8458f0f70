import Derived.Test.YtbbbjpkomnhofaaC
import Derived.Lib.ReflectliteSwap
namespace Go.Proofs.Ytbbbjpkomnhofaa
open Go.RowKit Go.Shelf
theorem index6 (k : Nat) (hk : k < 6) (X : World) : (Instr.index 40 (.agg (ordC 6)) (.int .i64 k)).run Try.prog X = .ok (.agg #[.int .i64 (o6 k 0), .int .i64 (o6 k 1), .int .i64 (o6 k 2)]) X := by
  rcases (by omega : k = 0 ∨ k = 1 ∨ k = 2 ∨ k = 3 ∨ k = 4 ∨ k = 5) with rfl | rfl | rfl | rfl | rfl | rfl <;> kernel_rfl
def arr (l : List Int) : Array Value := (l.map iv).toArray
theorem arr_set (l : List Int) (i : Nat) (x : Int) : (arr l).setIfInBounds i (.int .i64 x) = arr (l.set i x) := by simp [arr, iv, List.map_set]
/-- The first k profiles. -/
def pfI (k : Nat) : List Int := ((List.range k).flatMap fun i => [o6 (i / 6) 0, o6 (i / 6) 1, o6 (i / 6) 2, o6 (i % 6) 0, o6 (i % 6) 1, o6 (i % 6) 2]) ++ List.replicate (216 - 6 * k) 0
theorem pfI_set : ∀ k, k < 36 → ((((((pfI k).set (k * 6) (o6 (k / 6) 0)).set (k * 6 + 1) (o6 (k / 6) 1)).set (k * 6 + 2) (o6 (k / 6) 2)).set (k * 6 + 3) (o6 (k % 6) 0)).set (k * 6 + 4) (o6 (k % 6) 1)).set (k * 6 + 5) (o6 (k % 6) 2) = pfI (k + 1) := by decide +kernel
theorem pfI_at : ∀ k, k < 36 → ∀ j, j < 6 → (pfI k)[k * 6 + j]? = some 0 := by decide +kernel
theorem pfI_len : ∀ k, k < 37 → (pfI k).length = 216 := by decide +kernel
theorem arr_at {l : List Int} {j : Nat} {x : Int} (h : l[j]? = some x) : (arr l)[j]? = some (.int .i64 x) := by simp [arr, h, iv]
/-- A store of several cells into the middle of a block. -/
theorem step_store_mid (w : World) {ops : Array Oper} {o : Oper} {a : Act} {K : Act → World → Prop} {Q : Exit → Act → World → Prop} {E : Prop} (hw : Region.wanted o (yielded ops a.tmps) = true) (ty : TypeId) (x y : Operand)
    (ho : o.op = .store ty x y) (g off : Nat) (vs : List Value) (hx : a.eval x = .pointer (some ⟨g, off, none⟩)) (hy : a.eval y = .agg vs.toArray) (ie : TypeInfo) (hie : Try.prog.info? ty = some ie) (hs : vs.length = ie.size) (h1 : ∀ v ∈ vs, v.oneCell' = true)
    (hc : ∀ k, k < vs.length → (w.cell? ⟨g, off + k, none⟩).isSome = true) (hf : ∀ k, k < vs.length → w.frozen? ⟨g, off + k, none⟩ = false)
    (hK : K (a.put o.dst undef) (w.setCells g off vs)) :
    if Region.wanted o (yielded ops a.tmps) = true then Oper.wp Try.prog o a w K Q else E := by
  rw [if_pos hw]
  unfold Oper.wp execOp
  simp only [ho, hx, hy, Instr.storeAt, Instr.sureAddr, Sem.run_bind, Sem.run_pure, Result.andThen_ok, Lib.rl_storeVar_cells ty ie hie g off vs hs h1 w hc hf]
  exact hK
set_option maxRecDepth 100000 in
set_option maxHeartbeats 8000000 in
theorem profiles_any (w : World) :
    Calls Try.prog 26 #[] w fun e w' => e = .returned (.agg (arr (pfI 36))) ∧ Below w.heap.size w w' := by
  have CO := hide orders_any
  have HIX := hide index6
  have mx : Try.prog.follows .mixedOrders = true := by kernel_rfl
  have hz : ∀ X : World, (zeroValue 52).run Try.prog X = .ok (.agg (arr (pfI 0))) X := fun X => by kernel_rfl
  generalize hP0 : arr (pfI 0) = P0 at *
  have HP0 := hide hP0
  clear hP0
  go_enter Try.func26, Try.ntmps26
  go_wp2_with fail
  refine (unhide CO _).mono ?_
  rintro e w1 ⟨rfl, hb1⟩
  go_wp2_with fail
  have HW0 : Hid (Below w.heap.size w w1 ∧ w.heap.size + 2 ≤ w1.heap.size ∧ w1.heap[w.heap.size]? = some (.cells P0 52 (0, 0)) ∧ w1.heap[w.heap.size + 1]? = some (.cells P0 52 (0, 0))) := by
    have s1 : (w.alloc (.cells P0 52)).heap.size = w.heap.size + 1 := by simp
    have s2 : ((w.alloc (.cells P0 52)).alloc (.cells P0 52)).heap.size = w.heap.size + 2 := by simp
    have n1 := World.alloc_heap_new (w.alloc (.cells P0 52)) (.cells P0 52)
    rw [s1] at n1
    have hz := hb1.size
    refine ⟨(((Below.refl _ w).alloc (Nat.le_refl _) _).alloc (by rw [s1]; omega) _).trans (hb1.mono (by rw [s2]; omega)), by omega, ?_, ?_⟩
    · rw [hb1.block _ (by rw [s2]; omega), Below.heap_alloc _ _ _ (by rw [s1]; omega)]; exact World.alloc_heap_new _ _
    · rw [hb1.block _ (by rw [s2]; omega)]; exact n1
  clear hb1 hz
  have HIX2 : Hid (∀ k : Nat, k < 6 → ∀ X : World, (Instr.index 40 (.agg (ordC 6)) (.int .i64 k)).run Try.prog X = .ok (.agg #[.int .i64 (o6 k 0), .int .i64 (o6 k 1), .int .i64 (o6 k 2)]) X) := index6
  clear HIX
  generalize ordC 6 = O6 at *
  go_loopw [7] (fun i wr => ∃ a : Nat, a ≤ 6 ∧ i = .int .i64 a ∧ Below w.heap.size w wr ∧ w.heap.size + 2 ≤ wr.heap.size ∧ wr.heap[w.heap.size]? = some (.cells P0 52 (0, 0)) ∧ wr.heap[w.heap.size + 1]? = some (.cells (arr (pfI (a * 6))) 52 (0, 0))) (fun i _ => 6 - (intOf i).toNat)
  case atStart =>
    obtain ⟨q1, q2, q3, q4⟩ := unhide HW0
    exact ⟨0, by omega, rfl, q1, q2, q3, by rw [unhide HP0]; exact q4⟩
  case round =>
    obtain ⟨a, ha, rfl, r1, r2, r3, r4⟩ := hrel
    by_cases hlt : a < 6
    · have hix := unhide HIX2 a hlt
      have HR := hide (And.intro r1 (And.intro r2 (And.intro r3 r4)))
      clear r1 r3 r4
      go_wp2_with fail
      refine (unhide CO _).mono ?_
      rintro e w2 ⟨rfl, hb2⟩
      go_wp2_with fail
      obtain ⟨B3, hB3⟩ : ∃ y, y = wr.heap.size := ⟨_, rfl⟩
      rw [← hB3]
      have HI0 : Hid (Below w.heap.size w w2 ∧ w.heap.size + 2 ≤ B3 ∧ B3 < w2.heap.size ∧ w2.heap[w.heap.size]? = some (.cells P0 52 (0, 0)) ∧ w2.heap[w.heap.size + 1]? = some (.cells (arr (pfI (a * 6))) 52 (0, 0)) ∧ w2.heap[B3]? = some (.cells #[.int .i64 (o6 a 0), .int .i64 (o6 a 1), .int .i64 (o6 a 2)] 23 (0, 0))) := by
        obtain ⟨r1, r2, r3, r4⟩ := unhide HR
        have hz := hb2.size
        simp only [World.size_alloc] at hz
        refine ⟨r1.trans (((Below.refl _ wr).alloc (Nat.le_refl _) _ |>.mono (by omega)).trans (hb2.mono (by simp; omega))), by omega, by omega, ?_, ?_, ?_⟩
        · rw [hb2.block _ (by simp; omega), Below.heap_alloc _ _ _ (by omega)]; exact r3
        · rw [hb2.block _ (by simp; omega), Below.heap_alloc _ _ _ (by omega)]; exact r4
        · rw [hb2.block _ (by simp; omega), hB3]; exact World.alloc_heap_new _ _
      clear hb2 HR hix hB3 r2
      go_loopw [12] (fun i wi => ∃ b : Nat, b ≤ 6 ∧ i = .int .i64 b ∧ Below w.heap.size w wi ∧ w.heap.size + 2 ≤ B3 ∧ B3 < wi.heap.size ∧ wi.heap[w.heap.size]? = some (.cells P0 52 (0, 0)) ∧ wi.heap[w.heap.size + 1]? = some (.cells (arr (pfI (a * 6 + b))) 52 (0, 0)) ∧ wi.heap[B3]? = some (.cells #[.int .i64 (o6 a 0), .int .i64 (o6 a 1), .int .i64 (o6 a 2)] 23 (0, 0))) (fun i _ => 6 - (intOf i).toNat)
      case atStart => exact ⟨0, by omega, rfl, unhide HI0⟩
      case round =>
        obtain ⟨b, hb, rfl, r1, r2, r3, r4, r5, r6⟩ := hrel
        by_cases hltb : b < 6
        · have hix := unhide HIX2 b hltb
          have HR := hide (And.intro r1 (And.intro r4 (And.intro r5 r6)))
          clear r1 r4 r5 r6
          go_wp2_with fail
          obtain ⟨B5, hB5⟩ : ∃ y, y = wr.heap.size := ⟨_, rfl⟩
          obtain ⟨X0, hX0⟩ : ∃ y, y = wr.alloc (.cells #[.int .i64 (o6 b 0), .int .i64 (o6 b 1), .int .i64 (o6 b 2)] 23) := ⟨_, rfl⟩
          rw [← hB5, ← hX0]
          obtain ⟨kk, hkk⟩ : ∃ kk, kk = a * 6 + b := ⟨_, rfl⟩
          have HKK := hide hkk.symm
          have HALL : Hid (∀ X' : World, Below X0.heap.size X0 X' → (fun X : World => X.cell? ⟨B3, 0, none⟩ = some (.int .i64 (o6 a 0)) ∧ X.cell? ⟨B3, 1, none⟩ = some (.int .i64 (o6 a 1)) ∧ X.cell? ⟨B3, 2, none⟩ = some (.int .i64 (o6 a 2)) ∧ X.cell? ⟨B5, 0, none⟩ = some (.int .i64 (o6 b 0)) ∧ X.cell? ⟨B5, 1, none⟩ = some (.int .i64 (o6 b 1)) ∧ X.cell? ⟨B5, 2, none⟩ = some (.int .i64 (o6 b 2))) X' ∧ (X'.cell? ⟨w.heap.size + 1, kk * 6, none⟩ = some (.int .i64 0) ∧ (X'.setCell ⟨w.heap.size + 1, kk * 6, none⟩ (.int .i64 (o6 a 0))).cell? ⟨w.heap.size + 1, kk * 6 + 1, none⟩ = some (.int .i64 0) ∧ ((X'.setCell ⟨w.heap.size + 1, kk * 6, none⟩ (.int .i64 (o6 a 0))).setCell ⟨w.heap.size + 1, kk * 6 + 1, none⟩ (.int .i64 (o6 a 1))).cell? ⟨w.heap.size + 1, kk * 6 + 2, none⟩ = some (.int .i64 0) ∧ (((X'.setCell ⟨w.heap.size + 1, kk * 6, none⟩ (.int .i64 (o6 a 0))).setCell ⟨w.heap.size + 1, kk * 6 + 1, none⟩ (.int .i64 (o6 a 1))).setCell ⟨w.heap.size + 1, kk * 6 + 2, none⟩ (.int .i64 (o6 a 2))).cell? ⟨w.heap.size + 1, kk * 6 + 3, none⟩ = some (.int .i64 0) ∧ ((((X'.setCell ⟨w.heap.size + 1, kk * 6, none⟩ (.int .i64 (o6 a 0))).setCell ⟨w.heap.size + 1, kk * 6 + 1, none⟩ (.int .i64 (o6 a 1))).setCell ⟨w.heap.size + 1, kk * 6 + 2, none⟩ (.int .i64 (o6 a 2))).setCell ⟨w.heap.size + 1, kk * 6 + 3, none⟩ (.int .i64 (o6 b 0))).cell? ⟨w.heap.size + 1, kk * 6 + 4, none⟩ = some (.int .i64 0) ∧ (((((X'.setCell ⟨w.heap.size + 1, kk * 6, none⟩ (.int .i64 (o6 a 0))).setCell ⟨w.heap.size + 1, kk * 6 + 1, none⟩ (.int .i64 (o6 a 1))).setCell ⟨w.heap.size + 1, kk * 6 + 2, none⟩ (.int .i64 (o6 a 2))).setCell ⟨w.heap.size + 1, kk * 6 + 3, none⟩ (.int .i64 (o6 b 0))).setCell ⟨w.heap.size + 1, kk * 6 + 4, none⟩ (.int .i64 (o6 b 1))).cell? ⟨w.heap.size + 1, kk * 6 + 5, none⟩ = some (.int .i64 0) ∧ X'.frozen? ⟨w.heap.size + 1, kk * 6, none⟩ = false ∧ X'.frozen? ⟨w.heap.size + 1, kk * 6 + 1, none⟩ = false ∧ X'.frozen? ⟨w.heap.size + 1, kk * 6 + 2, none⟩ = false ∧ X'.frozen? ⟨w.heap.size + 1, kk * 6 + 3, none⟩ = false ∧ X'.frozen? ⟨w.heap.size + 1, kk * 6 + 4, none⟩ = false ∧ X'.frozen? ⟨w.heap.size + 1, kk * 6 + 5, none⟩ = false) ∧ (fun X : World => X.cell? ⟨B3, 0, none⟩ = some (.int .i64 (o6 a 0)) ∧ X.cell? ⟨B3, 1, none⟩ = some (.int .i64 (o6 a 1)) ∧ X.cell? ⟨B3, 2, none⟩ = some (.int .i64 (o6 a 2)) ∧ X.cell? ⟨B5, 0, none⟩ = some (.int .i64 (o6 b 0)) ∧ X.cell? ⟨B5, 1, none⟩ = some (.int .i64 (o6 b 1)) ∧ X.cell? ⟨B5, 2, none⟩ = some (.int .i64 (o6 b 2))) ((((((X'.setCell ⟨w.heap.size + 1, kk * 6, none⟩ (.int .i64 (o6 a 0))).setCell ⟨w.heap.size + 1, kk * 6 + 1, none⟩ (.int .i64 (o6 a 1))).setCell ⟨w.heap.size + 1, kk * 6 + 2, none⟩ (.int .i64 (o6 a 2))).setCell ⟨w.heap.size + 1, kk * 6 + 3, none⟩ (.int .i64 (o6 b 0))).setCell ⟨w.heap.size + 1, kk * 6 + 4, none⟩ (.int .i64 (o6 b 1))).setCell ⟨w.heap.size + 1, kk * 6 + 5, none⟩ (.int .i64 (o6 b 2))) ∧
              (fun wi : World => Below w.heap.size w wi ∧ w.heap.size + 2 ≤ B3 ∧ B3 < wi.heap.size ∧ wi.heap[w.heap.size]? = some (.cells P0 52 (0, 0)) ∧ wi.heap[w.heap.size + 1]? = some (.cells (arr (pfI (kk + 1))) 52 (0, 0)) ∧ wi.heap[B3]? = some (.cells #[.int .i64 (o6 a 0), .int .i64 (o6 a 1), .int .i64 (o6 a 2)] 23 (0, 0))) ((((((X'.setCell ⟨w.heap.size + 1, kk * 6, none⟩ (.int .i64 (o6 a 0))).setCell ⟨w.heap.size + 1, kk * 6 + 1, none⟩ (.int .i64 (o6 a 1))).setCell ⟨w.heap.size + 1, kk * 6 + 2, none⟩ (.int .i64 (o6 a 2))).setCell ⟨w.heap.size + 1, kk * 6 + 3, none⟩ (.int .i64 (o6 b 0))).setCell ⟨w.heap.size + 1, kk * 6 + 4, none⟩ (.int .i64 (o6 b 1))).setCell ⟨w.heap.size + 1, kk * 6 + 5, none⟩ (.int .i64 (o6 b 2)))) := fun X' hbX => by
            obtain ⟨q1, q4, q5, q6⟩ := unhide HR
            have hs0 : X0.heap.size = wr.heap.size + 1 := by rw [hX0]; simp
            have hzX := hbX.size
            have hb0 : Below wr.heap.size wr X0 := by rw [hX0]; exact (Below.refl _ wr).alloc (Nat.le_refl _) _
            have hbr : Below wr.heap.size wr X' := hb0.trans (hbX.mono (by omega))
            have g0 : X'.heap[w.heap.size]? = some (.cells P0 52 (0, 0)) := (hbr.block _ (by omega)).trans q4
            have g1 : X'.heap[w.heap.size + 1]? = some (.cells (arr (pfI kk)) 52 (0, 0)) := (hbr.block _ (by omega)).trans (by rw [hkk]; exact q5)
            have g3 : X'.heap[B3]? = some (.cells #[.int .i64 (o6 a 0), .int .i64 (o6 a 1), .int .i64 (o6 a 2)] 23 (0, 0)) := (hbr.block _ r3).trans q6
            have g5 : X'.heap[B5]? = some (.cells #[.int .i64 (o6 b 0), .int .i64 (o6 b 1), .int .i64 (o6 b 2)] 23 (0, 0)) := (hbX.block _ (by omega)).trans (by rw [hX0, hB5]; exact World.alloc_heap_new _ _)
            have hoth : ∀ k, k < X'.heap.size → k ≠ w.heap.size + 1 → ((((((X'.setCell ⟨w.heap.size + 1, kk * 6, none⟩ (.int .i64 (o6 a 0))).setCell ⟨w.heap.size + 1, kk * 6 + 1, none⟩ (.int .i64 (o6 a 1))).setCell ⟨w.heap.size + 1, kk * 6 + 2, none⟩ (.int .i64 (o6 a 2))).setCell ⟨w.heap.size + 1, kk * 6 + 3, none⟩ (.int .i64 (o6 b 0))).setCell ⟨w.heap.size + 1, kk * 6 + 4, none⟩ (.int .i64 (o6 b 1))).setCell ⟨w.heap.size + 1, kk * 6 + 5, none⟩ (.int .i64 (o6 b 2))).heap[k]? = X'.heap[k]? := fun k hk hne => by rw [Below.heap_setCell _ _ _ _ hne, Below.heap_setCell _ _ _ _ hne, Below.heap_setCell _ _ _ _ hne, Below.heap_setCell _ _ _ _ hne, Below.heap_setCell _ _ _ _ hne, Below.heap_setCell _ _ _ _ hne]
            have hrow : ∀ {W : World}, W.heap[B3]? = some (.cells #[.int .i64 (o6 a 0), .int .i64 (o6 a 1), .int .i64 (o6 a 2)] 23 (0, 0)) → W.heap[B5]? = some (.cells #[.int .i64 (o6 b 0), .int .i64 (o6 b 1), .int .i64 (o6 b 2)] 23 (0, 0)) → (fun X : World => X.cell? ⟨B3, 0, none⟩ = some (.int .i64 (o6 a 0)) ∧ X.cell? ⟨B3, 1, none⟩ = some (.int .i64 (o6 a 1)) ∧ X.cell? ⟨B3, 2, none⟩ = some (.int .i64 (o6 a 2)) ∧ X.cell? ⟨B5, 0, none⟩ = some (.int .i64 (o6 b 0)) ∧ X.cell? ⟨B5, 1, none⟩ = some (.int .i64 (o6 b 1)) ∧ X.cell? ⟨B5, 2, none⟩ = some (.int .i64 (o6 b 2))) W := fun {W} h3 h5 => ⟨(cell_in h3 rfl).1, (cell_in h3 rfl).1, (cell_in h3 rfl).1, (cell_in h5 rfl).1, (cell_in h5 rfl).1, (cell_in h5 rfl).1⟩
            have hat : ∀ k, k < 6 → X'.cell? ⟨w.heap.size + 1, kk * 6 + k, none⟩ = some (.int .i64 0) ∧ X'.frozen? ⟨w.heap.size + 1, kk * 6 + k, none⟩ = false := fun k hk => cell_in g1 (arr_at (pfI_at kk (by omega) k hk))
            have h3' := (hoth B3 (by omega) (by omega)).trans g3
            have h5' := (hoth B5 (by omega) (by omega)).trans g5
            have hsz : ((((((X'.setCell ⟨w.heap.size + 1, kk * 6, none⟩ (.int .i64 (o6 a 0))).setCell ⟨w.heap.size + 1, kk * 6 + 1, none⟩ (.int .i64 (o6 a 1))).setCell ⟨w.heap.size + 1, kk * 6 + 2, none⟩ (.int .i64 (o6 a 2))).setCell ⟨w.heap.size + 1, kk * 6 + 3, none⟩ (.int .i64 (o6 b 0))).setCell ⟨w.heap.size + 1, kk * 6 + 4, none⟩ (.int .i64 (o6 b 1))).setCell ⟨w.heap.size + 1, kk * 6 + 5, none⟩ (.int .i64 (o6 b 2))).heap.size = X'.heap.size := by simp
            refine ⟨hrow g3 g5, ⟨(hat 0 (by omega)).1, by rw [World.cell?_setCell_other _ _ _ _ (by intro h; injection h with _ h _; omega)]; exact (hat 1 (by omega)).1, by rw [World.cell?_setCell_other _ _ _ _ (by intro h; injection h with _ h _; omega), World.cell?_setCell_other _ _ _ _ (by intro h; injection h with _ h _; omega)]; exact (hat 2 (by omega)).1, by rw [World.cell?_setCell_other _ _ _ _ (by intro h; injection h with _ h _; omega), World.cell?_setCell_other _ _ _ _ (by intro h; injection h with _ h _; omega), World.cell?_setCell_other _ _ _ _ (by intro h; injection h with _ h _; omega)]; exact (hat 3 (by omega)).1, by rw [World.cell?_setCell_other _ _ _ _ (by intro h; injection h with _ h _; omega), World.cell?_setCell_other _ _ _ _ (by intro h; injection h with _ h _; omega), World.cell?_setCell_other _ _ _ _ (by intro h; injection h with _ h _; omega), World.cell?_setCell_other _ _ _ _ (by intro h; injection h with _ h _; omega)]; exact (hat 4 (by omega)).1, by rw [World.cell?_setCell_other _ _ _ _ (by intro h; injection h with _ h _; omega), World.cell?_setCell_other _ _ _ _ (by intro h; injection h with _ h _; omega), World.cell?_setCell_other _ _ _ _ (by intro h; injection h with _ h _; omega), World.cell?_setCell_other _ _ _ _ (by intro h; injection h with _ h _; omega), World.cell?_setCell_other _ _ _ _ (by intro h; injection h with _ h _; omega)]; exact (hat 5 (by omega)).1, (hat 0 (by omega)).2, (hat 1 (by omega)).2, (hat 2 (by omega)).2, (hat 3 (by omega)).2, (hat 4 (by omega)).2, (hat 5 (by omega)).2⟩, hrow h3' h5', ?_, r2, by rw [hsz]; omega, (hoth _ (by omega) (by omega)).trans g0, ?_, h3'⟩
            · have hp : ∀ o : Nat, w.heap.size ≤ (⟨w.heap.size + 1, o, none⟩ : Addr).block := fun o => by show _ ≤ w.heap.size + 1; omega
              exact ((((((q1.trans (hbr.mono (by omega))).setCell (hp _) _).setCell (hp _) _).setCell (hp _) _).setCell (hp _) _).setCell (hp _) _).setCell (hp _) _
            · rw [heap_setCell_same _ _ _ _ _ _ (heap_setCell_same _ _ _ _ _ _ (heap_setCell_same _ _ _ _ _ _ (heap_setCell_same _ _ _ _ _ _ (heap_setCell_same _ _ _ _ _ _ (heap_setCell_same _ _ _ _ _ _ g1))))), arr_set, arr_set, arr_set, arr_set, arr_set, arr_set, ← pfI_set kk (by omega)]
              rw [show kk / 6 = a by omega, show kk % 6 = b by omega]
          have HPL : Hid (∀ X : World, Calls Try.prog 33 #[.agg #[.int .i64 a, .int .i64 b]] X fun e w' => e = .returned (.int .i64 ((kk : Nat) : Int)) ∧ Below X.heap.size X w') := fun X => (place_any a b X (by omega) (by omega)).mono (fun e w' ⟨h1, h2⟩ => ⟨by rw [h1, show (6 * (a : Int) + b) = ((kk : Nat) : Int) by omega], h2⟩)
          have hkk : (0 : Int) ≤ ((kk : Nat) : Int) ∧ ((kk : Nat) : Int) < 36 := by omega
          obtain ⟨hk1, hk2⟩ := hkk
          clear hix HR hB5 hX0 hkk
          have HS0 := hide (unhide HALL X0 (Below.refl _ _)).1
          have HS1 := hide (unhide HALL X0.drew (Below.refl _ _).drew).1
          go_region_held3 (fun X => X.cell? ⟨B3, 0, none⟩ = some (.int .i64 (o6 a 0)) ∧ X.cell? ⟨B3, 1, none⟩ = some (.int .i64 (o6 a 1)) ∧ X.cell? ⟨B3, 2, none⟩ = some (.int .i64 (o6 a 2)) ∧ X.cell? ⟨B5, 0, none⟩ = some (.int .i64 (o6 b 0)) ∧ X.cell? ⟨B5, 1, none⟩ = some (.int .i64 (o6 b 1)) ∧ X.cell? ⟨B5, 2, none⟩ = some (.int .i64 (o6 b 2)))
            (first | with_reducible exact unhide HS0 | with_reducible exact unhide HS1 | with_reducible exact unhide HS2 | with_reducible exact unhide HS3)
            (first | (go_at_call 33; refine (unhide HPL _).mono ?_; rintro e w' ⟨rfl, hbw⟩; obtain ⟨hs2, ⟨m0, m1, m2, m3, m4, m5, n0, n1, n2, n3, n4, n5⟩, hs3, hpost⟩ := unhide HALL w' ((Below.refl _ _).drew.trans hbw); have HS2 := hide hs2; have HS3 := hide hs3; have HPO := hide hpost; clear hs2 hs3 hpost hbw))
          all_goals
            go_wp2_with fail
            go_roundw
            case rel =>
              obtain ⟨z1, z2, z3, z4, z5, z6⟩ := unhide HPO
              exact ⟨b + 1, by omega, by go_num, z1, z2, z3, z4, by rw [← Nat.add_assoc, unhide HKK]; exact z5, z6⟩
            case measure => simp [intOf]; omega
        · obtain rfl : b = 6 := by omega
          go_wp2_with fail
          go_roundw
          case rel => exact ⟨a + 1, by omega, by go_num, r1, by omega, r4, by rw [show (a + 1) * 6 = a * 6 + 6 by omega]; exact r5⟩
          case measure => simp [intOf]; omega
    · obtain rfl : a = 6 := by omega
      have r4 : wr.heap[w.heap.size + 1]? = some (.cells (arr (pfI 36)) 52 (0, 0)) := r4
      have hall : (arr (pfI 36)).all (·.oneCell') = true := by simp [arr, iv, Value.oneCell']
      have hs0 : P0.size = (arr (pfI 36)).size := by
        rw [← unhide HP0]
        simp [arr, pfI_len]
      have hsz : (Try.prog.info? 52).map (·.size) = some (arr (pfI 36)).size := by
        rw [show (arr (pfI 36)).size = 216 by simp [arr, pfI_len]]
        kernel_rfl
      have hr := setRow_heap wr w.heap.size _ (arr (pfI 36)) _ _ r3
      have HB := hide (below_setRow r1 (Nat.le_refl _) (arr (pfI 36)))
      have R4 := hide r4
      have R3 := hide r3
      have HALL := hide hall
      have HS0 := hide hs0
      have HSZ := hide hsz
      have HR := hide hr
      clear r4 r3 hall hs0 hsz hr
      generalize hC : arr (pfI 36) = C at *
      have HC := hide hC
      clear hC
      go_wp2_with (first | (refine wpList_load_row rfl 52 (.tmp 1) rfl (w.heap.size + 1) rfl 52 C (0, 0) _ (unhide R4) Try.underlying52 rfl (unhide HSZ) ?_) | (refine wpList_store_row rfl 52 (.tmp 0) (.tmp 26) rfl w.heap.size C rfl rfl 52 _ (unhide R3) (unhide HSZ) (unhide HS0) (unhide HALL) ?_))
      (try simp only [Exit.inBlock, Exit.then])
      refine bodyPost_ret (results_cell_row rfl _ _ w.heap.size 52 C (0, 0) _ rfl (unhide HR) Try.underlying52 rfl (unhide HSZ)) rfl ?_
      exact ⟨by rw [unhide HC], unhide HB⟩
end Go.Proofs.Ytbbbjpkomnhofaa
