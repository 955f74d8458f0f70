import Derived.Test.YtbbbjpkomnhofaaQ
import Derived.Test.YtbbbjpkomnhofaaB
namespace Go.Proofs.Ytbbbjpkomnhofaa
open Go.RowKit Go.Shelf
attribute [local go_sem] Oper.semAt_some
/-- The six orders of three things. -/
def L6 : List (List Int) := [[0, 1, 2], [0, 2, 1], [1, 0, 2], [1, 2, 0], [2, 0, 1], [2, 1, 0]]
theorem grL3 : grL 3 3 [] = L6 := by decide +kernel
def iv (x : Int) : Value := .int .i64 x
def ordC (k : Nat) : Array Value := (((L6.flatten.take (k * 3)).map iv) ++ List.replicate (18 - k * 3) (iv 0)).toArray
def o6 (k j : Nat) : Int := (L6[k]?.getD [])[j]?.getD 0
theorem pre_at {pre : List (List Int)} {o : List Int} (h : pre ++ [o] <+: L6) : pre.length < 6 ∧ pre = L6.take pre.length ∧ L6[pre.length]? = some o := by
  obtain ⟨t, ht⟩ := h
  have hl : pre.length + 1 + t.length = 6 := by have := congrArg List.length ht; simp [L6] at this; omega
  refine ⟨by omega, ?_, ?_⟩
  · rw [← ht]; simp
  · rw [← ht]; simp
theorem ordC_set : ∀ k, k < 6 → (((ordC k).setIfInBounds (k * 3) (iv (o6 k 0))).setIfInBounds (k * 3 + 1) (iv (o6 k 1))).setIfInBounds (k * 3 + 2) (iv (o6 k 2)) = ordC (k + 1) := by
  intro k hk
  rcases (by omega : k = 0 ∨ k = 1 ∨ k = 2 ∨ k = 3 ∨ k = 4 ∨ k = 5) with rfl | rfl | rfl | rfl | rfl | rfl <;> rfl
theorem ordC_at : ∀ k, k < 6 → ∀ j, j < 3 → (ordC k)[k * 3 + j]? = some (iv 0) := by
  intro k hk j hj
  rcases (by omega : j = 0 ∨ j = 1 ∨ j = 2) with rfl | rfl | rfl <;> rcases (by omega : k = 0 ∨ k = 1 ∨ k = 2 ∨ k = 3 ∨ k = 4 ∨ k = 5) with rfl | rfl | rfl | rfl | rfl | rfl <;> rfl
/-- Between two rounds. -/
def AO (w1 : World) (pre : List (List Int)) (S : Nat → Prop) (W : World) : Prop :=
  (∀ b, S b ↔ b < w1.heap.size + 3) ∧ Below w1.heap.size w1 W ∧ w1.heap.size + 3 ≤ W.heap.size ∧ W.heap[w1.heap.size]? = some (.cells (ordC 0) 40 (0, 0)) ∧ W.heap[w1.heap.size + 1]? = some (.cells (ordC pre.length) 40 (0, 0)) ∧ W.heap[w1.heap.size + 2]? = some (.cells #[.int .i64 pre.length] 3 (0, 0))
theorem AO.inv (w1 : World) : Inv (AO w1) := by
  refine ⟨fun {pre S W W'} ⟨h1, h2, h3, h4, h5, h6⟩ k => ⟨h1, ?_, Nat.le_trans h3 k.size, ?_, ?_, ?_⟩, fun {pre S W} ⟨h1, h2, h3, h4, h5, h6⟩ b hb => ?_⟩
  · have k2 : Keep (fun b => b < w1.heap.size) W W' := k.sub fun b hb => (h1 b).2 (by omega)
    exact h2.trans k2.below
  · exact (k.block _ ((h1 _).2 (by omega))).trans h4
  · exact (k.block _ ((h1 _).2 (by omega))).trans h5
  · exact (k.block _ ((h1 _).2 (by omega))).trans h6
  · have := (h1 b).1 hb; omega
theorem cell_in {W : World} {B j : Nat} {cs : Array Value} {t : TypeId} {v : Value} (h : W.heap[B]? = some (.cells cs t (0, 0))) (hv : cs[j]? = some v) : W.cell? ⟨B, j, none⟩ = some v ∧ W.frozen? ⟨B, j, none⟩ = false := by
  constructor <;> simp [World.cell?, World.frozen?, h, hv]
theorem four (w : World) (o0 o1 o2 o3 : Obj) : ((((w.alloc o0).alloc o1).alloc o2).alloc o3).heap[w.heap.size]? = some o0 ∧ ((((w.alloc o0).alloc o1).alloc o2).alloc o3).heap[w.heap.size + 1]? = some o1 ∧ ((((w.alloc o0).alloc o1).alloc o2).alloc o3).heap[w.heap.size + 2]? = some o2 ∧ ((((w.alloc o0).alloc o1).alloc o2).alloc o3).heap[w.heap.size + 3]? = some o3 ∧ ((((w.alloc o0).alloc o1).alloc o2).alloc o3).heap.size = w.heap.size + 4 ∧ Below w.heap.size w ((((w.alloc o0).alloc o1).alloc o2).alloc o3) := by
  have s1 : (w.alloc o0).heap.size = w.heap.size + 1 := by simp
  have s2 : ((w.alloc o0).alloc o1).heap.size = w.heap.size + 2 := by simp
  have s3 : (((w.alloc o0).alloc o1).alloc o2).heap.size = w.heap.size + 3 := by simp
  have n0 := World.alloc_heap_new w o0
  have n1 := World.alloc_heap_new (w.alloc o0) o1
  have n2 := World.alloc_heap_new ((w.alloc o0).alloc o1) o2
  have n3 := World.alloc_heap_new (((w.alloc o0).alloc o1).alloc o2) o3
  rw [s1] at n1
  rw [s2] at n2
  rw [s3] at n3
  refine ⟨?_, ?_, ?_, n3, by simp, ?_⟩
  · rw [Below.heap_alloc _ _ _ (by rw [s3]; omega), Below.heap_alloc _ _ _ (by rw [s2]; omega), Below.heap_alloc _ _ _ (by rw [s1]; omega)]; exact n0
  · rw [Below.heap_alloc _ _ _ (by rw [s3]; omega), Below.heap_alloc _ _ _ (by rw [s2]; omega)]; exact n1
  · rw [Below.heap_alloc _ _ _ (by rw [s3]; omega)]; exact n2
  · exact ((((Below.refl _ w).alloc (Nat.le_refl _) _).alloc (by rw [s1]; omega) _).alloc (by rw [s2]; omega) _).alloc (by rw [s3]; omega) _
set_option maxRecDepth 100000 in
set_option maxHeartbeats 8000000 in
theorem orders_any (w : World) :
    Calls Try.prog 19 #[] w fun e w' => e = .returned (.agg (ordC 6)) ∧ Below w.heap.size w w' := by
  refine (callsIn_wide (n := 9)).1 ?_
  refine callsIn_of_wp_marks Try.func19 rfl trivial ?_
  simp only [Try.ntmps19, List.size_toArray, List.length_nil, Nat.reduceSub, Array.replicate_succ, Array.replicate_zero, List.push_toArray, List.append_toArray, List.nil_append, List.cons_append]
  refine wpIn_wide.2 ?_
  go_wp2_with fail
  refine (all_any 3 _).mono ?_
  rintro e w3 ⟨rfl, hw3⟩
  go_wp2_with fail
  have mx : Try.prog.follows .mixedOrders = true := by kernel_rfl
  obtain ⟨wX, hwX⟩ : ∃ y, y = (((w.alloc (.cells #[.int .i64 0, .int .i64 0, .int .i64 0, .int .i64 0, .int .i64 0, .int .i64 0, .int .i64 0, .int .i64 0, .int .i64 0, .int .i64 0, .int .i64 0, .int .i64 0, .int .i64 0, .int .i64 0, .int .i64 0, .int .i64 0, .int .i64 0, .int .i64 0] 40)).alloc (.cells #[.int .i64 0, .int .i64 0, .int .i64 0, .int .i64 0, .int .i64 0, .int .i64 0, .int .i64 0, .int .i64 0, .int .i64 0, .int .i64 0, .int .i64 0, .int .i64 0, .int .i64 0, .int .i64 0, .int .i64 0, .int .i64 0, .int .i64 0, .int .i64 0] 40)).alloc (.cells #[.int .i64 0] 3)).alloc (.cells #[.int .i64 3] 3) := ⟨_, rfl⟩
  rw [← hwX]
  have F4 := four w (.cells #[.int .i64 0, .int .i64 0, .int .i64 0, .int .i64 0, .int .i64 0, .int .i64 0, .int .i64 0, .int .i64 0, .int .i64 0, .int .i64 0, .int .i64 0, .int .i64 0, .int .i64 0, .int .i64 0, .int .i64 0, .int .i64 0, .int .i64 0, .int .i64 0] 40) (.cells #[.int .i64 0, .int .i64 0, .int .i64 0, .int .i64 0, .int .i64 0, .int .i64 0, .int .i64 0, .int .i64 0, .int .i64 0, .int .i64 0, .int .i64 0, .int .i64 0, .int .i64 0, .int .i64 0, .int .i64 0, .int .i64 0, .int .i64 0, .int .i64 0] 40) (.cells #[.int .i64 0] 3) (.cells #[.int .i64 3] 3)
  rw [← hwX] at F4
  obtain ⟨q0, q1, q2, q3, q4, q5⟩ := F4
  have hA : AO w [] (fun b => b < w.heap.size + 3) wX := ⟨fun b => Iff.rfl, q5, by omega, q0, q1, q2⟩
  have hcn : wX.cell? ⟨w.heap.size + 3, 0, none⟩ = some (.int .i64 (3 : Nat)) ∧ wX.heap.size = w.heap.size + 4 := ⟨(cell_in q3 rfl).1, q4⟩
  clear q0 q1 q2 q3 q4 q5
  clear hwX
  refine (wpIn_wide (n := 9)).1 ?_
  refine range_all 3 (by omega) (gf := 41) (lb := #[.pointer (some ⟨w.heap.size + 1 + 1 + 1, 0, none⟩)]) rfl (enters_of Try.func41 (by kernel_rfl) rfl) rfl
    (AO w) (AO.inv w) (fun b => b < w.heap.size + 3) hA (grL 3 3 []) ?iter
    (fun o gb cb => { tmps := #[.pointer (some ⟨w.heap.size, 0, none⟩), .pointer (some ⟨w.heap.size + 1, 0, none⟩), .pointer (some ⟨w.heap.size + 1 + 1, 0, none⟩), .slice (some ⟨gb, 0, none⟩) o.length cb, .func (.func 41) #[] #[.pointer (some ⟨w.heap.size + 1 + 1 + 1, 0, none⟩)], .slice (some ⟨gb, 0, none⟩) o.length cb, undef, undef, undef, undef, undef, undef, undef, undef], defers := [] }) ?assign ?body ?done
  case iter =>
    intro lp J JI hY S W hJ hbW hSS
    refine callsIn_wide.2 ?_
    refine all1_any JI hY (by omega) (by omega) S W hJ (Bn := w.heap.size + 3) (by have := hbW.size; omega) (fun hs => ?_) ((hbW.cell (p := ⟨w.heap.size + 3, 0, none⟩) (by show w.heap.size + 3 < _; omega)).trans hcn.1)
    rcases hSS _ hs with h | h
    · omega
    · omega
  case assign =>
    intro lp mm o gb cb W K hK
    gi_wp2
    exact hK
  case body =>
    intro lp mm pre o S W gb cb hI hin hgS hgl hlen hord hpre
    rw [grL3] at hpre
    obtain ⟨p1, p2, p3⟩ := pre_at hpre
    obtain ⟨k1, k2, k3, k4, k5, k6⟩ := hI
    have hol : o.length = 3 := by
      rcases (by omega : pre.length = 0 ∨ pre.length = 1 ∨ pre.length = 2 ∨ pre.length = 3 ∨ pre.length = 4 ∨ pre.length = 5) with h | h | h | h | h | h <;> (rw [h] at p3; cases p3; rfl)
    have ho : ∀ j, o[j]?.getD 0 = o6 pre.length j := fun j => by unfold o6; rw [p3]; rfl
    obtain ⟨b', off', e', hb', hc'⟩ := hin.cellAt hlen
    cases e'
    have c0 := hc' 0 (by omega)
    have c1 := hc' 1 (by omega)
    have c2 := hc' 2 (by omega)
    rw [ho] at c0 c1 c2
    obtain ⟨d0, f0⟩ := cell_in k5 (ordC_at pre.length p1 0 (by omega))
    obtain ⟨d1, f1⟩ := cell_in k5 (ordC_at pre.length p1 1 (by omega))
    obtain ⟨d2, f2⟩ := cell_in k5 (ordC_at pre.length p1 2 (by omega))
    obtain ⟨d3, f3⟩ := cell_in k6 (j := 0) rfl
    have hcb := hin.2.1
    have hcb2 := hin.2.2.1
    unfold maxLen at hcb2
    have HKK := hide (And.intro k1 (And.intro k2 (And.intro k3 (And.intro k4 (And.intro k5 k6)))))
    clear hc' k1 k2 k4 k5 k6 hin
    unfold iv at d0 d1 d2
    simp only [Nat.add_zero] at d0 f0
    have hat : ∀ X : World, (Instr.arrayAt 23 (.slice (some ⟨gb, 0, none⟩) 3 cb)).run Try.prog X = .ok (.pointer (some ⟨gb, 0, none⟩)) X := fun X => by
      simp [Instr.arrayAt, go_sem]
    clear p2 p3 ho hpre
    rw [hol]
    generalize hk : pre.length = k at *
    have e1 : (W.drew.setCell ⟨w.heap.size + 1, k * 3, none⟩ (.int .i64 (o6 k 0))).cell? ⟨w.heap.size + 1, k * 3 + 1, none⟩ = some (.int .i64 0) := by
      rw [World.cell?_setCell_other _ _ _ _ (by intro h; injection h with _ h _; omega)]; exact d1
    have e2 : ((W.drew.setCell ⟨w.heap.size + 1, k * 3, none⟩ (.int .i64 (o6 k 0))).setCell ⟨w.heap.size + 1, k * 3 + 1, none⟩ (.int .i64 (o6 k 1))).cell? ⟨w.heap.size + 1, k * 3 + 2, none⟩ = some (.int .i64 0) := by
      rw [World.cell?_setCell_other _ _ _ _ (by intro h; injection h with _ h _; omega), World.cell?_setCell_other _ _ _ _ (by intro h; injection h with _ h _; omega)]; exact d2
    obtain ⟨X, hX⟩ : ∃ X, X = (((W.setCell ⟨w.heap.size + 1, k * 3, none⟩ (.int .i64 (o6 k 0))).setCell ⟨w.heap.size + 1, k * 3 + 1, none⟩ (.int .i64 (o6 k 1))).setCell ⟨w.heap.size + 1, k * 3 + 2, none⟩ (.int .i64 (o6 k 2))).drew := ⟨_, rfl⟩
    have hXo : ∀ b, b ≠ w.heap.size + 1 → X.heap[b]? = W.heap[b]? := fun b hb => by
      rw [hX]
      show (((W.setCell _ _).setCell _ _).setCell _ _).heap[b]? = _
      rw [Below.heap_setCell _ _ _ _ hb, Below.heap_setCell _ _ _ _ hb, Below.heap_setCell _ _ _ _ hb]
    have hXs : X.heap.size = W.heap.size := by
      rw [hX]
      show (((W.setCell _ _).setCell _ _).setCell _ _).heap.size = _
      simp
    have hX1 : X.heap[w.heap.size + 1]? = some (.cells (ordC (k + 1)) 40 (0, 0)) := by
      rw [hX]
      show (((W.setCell _ _).setCell _ _).setCell _ _).heap[w.heap.size + 1]? = _
      have q5 := (unhide HKK).2.2.2.2.1
      rw [heap_setCell_same _ _ _ _ _ _ (heap_setCell_same _ _ _ _ _ _ (heap_setCell_same _ _ _ _ _ _ q5)), ← ordC_set k p1]
      rfl
    have hX2 : X.heap[w.heap.size + 1 + 1]? = some (.cells #[.int .i64 k] 3 (0, 0)) := by
      have q6 := (unhide HKK).2.2.2.2.2
      rw [hXo _ (by omega)]; exact q6
    obtain ⟨d4, f4⟩ := cell_in hX2 (j := 0) rfl
    have HF : Hid (∃ S', AO w (pre ++ [o]) S' (X.setCell ⟨w.heap.size + 1 + 1, 0, none⟩ (.int .i64 ((k : Int) + 1))) ∧ (∀ b, S' b → S b ∨ b = gb ∨ W.heap.size ≤ b) ∧ Keep (fun b => b < W.heap.size ∧ ¬ S b) W (X.setCell ⟨w.heap.size + 1 + 1, 0, none⟩ (.int .i64 ((k : Int) + 1)))) := by
      obtain ⟨k1, k2, k3, k4, k5, k6⟩ := unhide HKK
      have ho2 : ∀ b, b ≠ w.heap.size + 1 + 1 → (X.setCell ⟨w.heap.size + 1 + 1, 0, none⟩ (.int .i64 ((k : Int) + 1))).heap[b]? = X.heap[b]? := fun b hb => Below.heap_setCell _ _ _ _ hb
      have hK : ∀ U : Nat → Prop, ¬ U (w.heap.size + 1) → ¬ U (w.heap.size + 1 + 1) → Keep U W (X.setCell ⟨w.heap.size + 1 + 1, 0, none⟩ (.int .i64 ((k : Int) + 1))) := fun U u1 u2 => ⟨by rw [hX]; rfl, by rw [hX]; rfl, by rw [hX]; rfl, by rw [World.size_setCell, hXs]; exact Nat.le_refl _, fun b hb => (ho2 b (fun e => u2 (e ▸ hb))).trans (hXo b (fun e => u1 (e ▸ hb)))⟩
      refine ⟨S, ⟨k1, k2.trans (hK (fun b => b < w.heap.size) (by omega) (by omega)).below, by rw [World.size_setCell, hXs]; exact k3, ?_, ?_, ?_⟩, fun b hb => .inl hb, hK _ (fun h => h.2 ((k1 _).2 (by omega))) (fun h => h.2 ((k1 _).2 (by omega)))⟩
      · rw [ho2 _ (by omega), hXo _ (by omega)]; exact k4
      · rw [ho2 _ (by omega), hX1, List.length_append, hk]; rfl
      · rw [show w.heap.size + 2 = w.heap.size + 1 + 1 from rfl, heap_setCell_same _ _ _ _ _ _ hX2, List.length_append, hk]; rfl
    clear hXo hXs hX1 hX2 HKK
    have HX := hide hX
    clear hX
    gi_wp2
    gi_region_with_o fail
    all_goals
      rw [← unhide HX]
      gi_wp2
      exact unhide HF
  case done =>
    intro D S W hD hI hdef hSD
    obtain ⟨k1, k2, k3, k4, k5, k6⟩ := hI
    rw [grL3] at k5
    have k5 : W.heap[w.heap.size + 1]? = some (.cells (ordC 6) 40 (0, 0)) := k5
    have hr := setRow_heap W w.heap.size _ (ordC 6) _ _ k4
    have hd2 : (W.setRow w.heap.size (ordC 6)).heap[D]? = some (.deferred (some [])) := by rw [setRow_other _ _ _ _ (by omega)]; exact hdef
    have HB := hide (below_setRow k2 (Nat.le_refl _) (ordC 6))
    have K5 := hide k5
    have K4 := hide k4
    have hsz : Hid ((Try.prog.info? 40).map (·.size) = some (ordC 6).size) := by show _ = _; kernel_rfl
    have hall : Hid ((ordC 6).all (·.oneCell') = true) := by show _ = _; decide +kernel
    have hs0 : Hid ((ordC 0).size = (ordC 6).size) := by show _ = _; rfl
    clear k5 k4 k6
    generalize hC : ordC 6 = C at *
    have HC := hide hC
    clear hC
    go_wp2_with (first | (refine wpList_load_row rfl 40 (.tmp 1) rfl (w.heap.size + 1) rfl 40 C (0, 0) _ (unhide K5) Try.underlying40 rfl (unhide hsz) ?_) | (refine wpList_store_row rfl 40 (.tmp 0) (.tmp 13) rfl w.heap.size C rfl rfl 40 _ (unhide K4) (unhide hsz) (unhide hs0) (unhide hall) ?_))
    refine ⟨by simp, .inl ⟨_, _, rfl, run_takeDeferred hd2, ?_⟩⟩
    have hr2 : ((W.setRow w.heap.size C).putObj D (.deferred none)).heap[w.heap.size]? = some (.cells C 40 (0, 0)) := (World.putObj_heap_other (by omega)).trans hr
    refine ⟨_, results_cell_row rfl _ _ w.heap.size 40 C (0, 0) _ rfl hr2 Try.underlying40 rfl (unhide hsz), by rw [unhide HC], ?_⟩
    exact (unhide HB).trans (Keep.putObj (S := fun b => b < w.heap.size) _ (by omega)).below
end Go.Proofs.Ytbbbjpkomnhofaa
