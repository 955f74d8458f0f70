import Derived.Test.YtbbbjpkomnhofaaH
namespace Go.Proofs.Ytbbbjpkomnhofaa
open Go.RowKit Go.Shelf
def rl (l : List Int) (i : Nat) : Nat := (l[i]?.getD 0).toNat
/-- The first k orders of a rule, cell by cell. -/
def Mk (l : List Int) (k : Nat) (cs : List Int) : Prop := cs.length = 108 ∧ ∀ i, i < k → ∀ j, j < 3 → cs[i * 3 + j]?.getD 0 = o6 (rl l i) j
theorem Mk.set {l : List Int} {k : Nat} {cs : List Int} (h : Mk l k cs) (hk : k < 36) : Mk l (k + 1) (((cs.set (k * 3) (o6 (rl l k) 0)).set (k * 3 + 1) (o6 (rl l k) 1)).set (k * 3 + 2) (o6 (rl l k) 2)) := by
  refine ⟨by simp [h.1], fun i hi j hj => ?_⟩
  have hl := h.1
  by_cases e : i = k
  · subst e
    rcases (by omega : j = 0 ∨ j = 1 ∨ j = 2) with rfl | rfl | rfl
    · rw [List.getElem?_set_ne (by omega), List.getElem?_set_ne (by omega), Nat.add_zero, List.getElem?_set_self (by omega)]; rfl
    · rw [List.getElem?_set_ne (by omega), List.getElem?_set_self (by simp; omega)]; rfl
    · rw [List.getElem?_set_self (by simp; omega)]; rfl
  · rw [List.getElem?_set_ne (by omega), List.getElem?_set_ne (by omega), List.getElem?_set_ne (by omega)]
    exact h.2 i (by omega) j hj
theorem getD_some {l : List Int} {i : Nat} (h : i < l.length) : l[i]? = some (l[i]?.getD 0) := by simp [h]
def MkPost (l : List Int) (r : Int) (w : World) (e : Ending) (w' : World) : Prop :=
  (∃ cs : List Int, e = .returned (.tuple #[.agg (arr cs), .int .i64 r]) ∧ cs.length = 108 ∧ (r = 0 → Mk l 36 cs)) ∧ Below w.heap.size w w'
set_option maxRecDepth 100000 in
set_option maxHeartbeats 4000000 in
theorem made_any (a : Option Addr) (n c : Nat) (l : List Int) (w : World) (h : Ints w a n c l) :
    Calls Try.prog 25 #[.slice a n c] w fun e w' => MkPost l (ruE l 6) w e w' := by
  have mx : Try.prog.follows .mixedOrders = true := by kernel_rfl
  obtain ⟨P0, hP0⟩ : ∃ P0, P0 = arr (List.replicate 108 0) := ⟨_, rfl⟩
  have hz : ∀ X : World, (zeroValue 47).run Try.prog X = .ok (.agg P0) X := fun X => by rw [hP0]; kernel_rfl
  have C1 := hide (fun X (hX : Below w.heap.size w X) => may_any a n c l 6 X (h.later hX))
  have HR0 : Hid (ruE l 6 = 0 → n = 36 ∧ okF l 6) := fun h0 => by
    unfold ruE at h0
    split at h0
    · split at h0
      · have := h.1; exact ⟨by omega, by assumption⟩
      · cases h0
    · cases h0
  have HN := hide h.1
  have HH := hide h
  clear h
  have HP0 := hide hP0
  clear hP0
  have hb0 : Below w.heap.size w ((w.alloc (.cells P0 47)).alloc (.cells P0 47)) := ((Below.refl _ w).alloc (Nat.le_refl _) _).alloc (by simp) _
  have CC := hide (unhide C1 _ hb0)
  have HSZ : Hid (∀ cs : List Int, cs.length = 108 → (Try.prog.info? 47).map (·.size) = some (arr cs).size) := fun cs hc => by
    rw [show (arr cs).size = 108 by simp [arr, hc]]
    kernel_rfl
  have HAL : Hid (∀ cs : List Int, (arr cs).all (·.oneCell') = true) := fun cs => by simp [arr, iv, Value.oneCell']
  have HS0 : Hid (∀ cs : List Int, cs.length = 108 → P0.size = (arr cs).size) := fun cs hc => by
    rw [unhide HP0]
    simp [arr, hc]
  generalize ruE l 6 = r at *
  by_cases h0 : r = 0
  · subst h0
    obtain ⟨rfl, hok⟩ := unhide HR0 rfl
    have HOK := hide hok
    clear hok HR0
    go_enter Try.func25, Try.ntmps25
    go_wp2_with fail
    refine (unhide CC).mono ?_
    rintro e w1 ⟨rfl, hw1⟩
    subst w1
    go_wp2_with fail
    refine (orders_any _).mono ?_
    rintro e w1 ⟨rfl, hb1⟩
    have hn := World.alloc_heap_new w1 (.cells (ordC 0) 40)
    have hsz : Hid ((Try.prog.info? 40).map (·.size) = some (ordC 6).size) := by show _ = _; kernel_rfl
    have hall : Hid ((ordC 6).all (·.oneCell') = true) := by show _ = _; decide +kernel
    have hs0 : Hid ((ordC 0).size = (ordC 6).size) := by show _ = _; rfl
    have HCA : Hid (∀ k, k < 6 → ∀ j, j < 3 → (ordC 6)[k * 3 + j]? = some (.int .i64 (o6 k j))) := ordC_get
    generalize ordC 6 = CO at *
    have HB1 := hide hb1
    clear hb1
    go_wp2_with (refine wpList_store_row rfl 40 (.tmp 6) (.tmp 15) rfl w1.heap.size CO rfl rfl 40 (ordC 0) (World.alloc_heap_new _ _) (unhide hsz) (unhide hs0) (unhide hall) ?_)
    obtain ⟨W2, hW2⟩ : ∃ y, y = (w1.alloc (.cells (ordC 0) 40)).setRow w1.heap.size CO := ⟨_, rfl⟩
    obtain ⟨B6, hB6⟩ : ∃ y, y = w1.heap.size := ⟨_, rfl⟩
    show Code.wp _ _ _ _ ((w1.alloc (.cells (ordC 0) 40)).setRow w1.heap.size CO)
    rw [← hW2, ← hB6]
    have HW2 : Hid (Below w.heap.size w W2 ∧ w.heap.size + 2 ≤ B6 ∧ B6 < W2.heap.size ∧ W2.heap[w.heap.size]? = some (.cells P0 47 (0, 0)) ∧ W2.heap[w.heap.size + 1]? = some (.cells P0 47 (0, 0)) ∧ W2.heap[B6]? = some (.cells CO 40 (0, 0))) := by
      have hr := setRow_heap (w1.alloc (.cells (ordC 0) 40)) w1.heap.size _ CO _ _ hn
      have hb : Below w1.heap.size w1 W2 := by rw [hW2]; exact below_setRow ((Below.refl _ w1).alloc (Nat.le_refl _) _) (Nat.le_refl _) _
      have hz1 := (unhide HB1).size
      have hz2 : ((w.alloc (.cells P0 47)).alloc (.cells P0 47)).heap.size = w.heap.size + 2 := by simp
      have hbb := (unhide HB1).trans (hb.mono hz1)
      rw [hz2] at hbb
      rw [hz2] at hz1
      refine ⟨(((Below.refl _ w).alloc (Nat.le_refl _) _).alloc (by simp) _).trans (hbb.mono (by omega)), by omega, ?_, ?_, ?_, ?_⟩
      · rw [hB6, hW2]; exact (Array.getElem?_eq_some_iff.1 hr).1
      · rw [hbb.block _ (by omega), Below.heap_alloc _ _ _ (by simp)]; exact World.alloc_heap_new _ _
      · rw [hbb.block _ (by omega)]; exact alloc_at _ (by simp)
      · rw [hB6, hW2]; exact hr
    clear hn hW2 hB6 HB1 hz
    obtain ⟨b, off, rfl, hb, hcell⟩ := (unhide HH).cellAt (by omega)
    have HCE := hide hcell
    clear hcell
    go_loopw [18] (fun i wr => ∃ k : Nat, k ≤ 36 ∧ i = .int .i64 k ∧ Below w.heap.size w wr ∧ w.heap.size + 2 ≤ B6 ∧ B6 < wr.heap.size ∧ wr.heap[w.heap.size]? = some (.cells P0 47 (0, 0)) ∧ wr.heap[B6]? = some (.cells CO 40 (0, 0)) ∧ ∃ cs : List Int, Mk l k cs ∧ wr.heap[w.heap.size + 1]? = some (.cells (arr cs) 47 (0, 0))) (fun i _ => 36 - (intOf i).toNat)
    case atStart =>
      obtain ⟨q1, q2, q3, q4, q5, q6⟩ := unhide HW2
      exact ⟨0, by omega, rfl, q1, q2, q3, q4, q6, List.replicate 108 0, ⟨by simp, fun i hi => by omega⟩, by rw [← unhide HP0]; exact q5⟩
    case round =>
      obtain ⟨k, hk, rfl, r1, r2, r3, r4, r5, cs, r6, r7⟩ := hrel
      by_cases hlt : k < 36
      · obtain ⟨m, hm⟩ : ∃ m, m = rl l k := ⟨_, rfl⟩
        have hv := unhide HOK k (by have := unhide HN; omega)
        have hme : l[k]?.getD 0 = ((m : Nat) : Int) := by rw [hm]; unfold rl; omega
        have hm6 : m < 6 := by omega
        have q := (r1.cell (p := ⟨b, off + k, none⟩) hb).trans (unhide HCE k hlt)
        rw [hme] at q
        have u0 := (cell_in r5 (unhide HCA m hm6 0 (by omega))).1
        have u1 := (cell_in r5 (unhide HCA m hm6 1 (by omega))).1
        have u2 := (cell_in r5 (unhide HCA m hm6 2 (by omega))).1
        simp only [Nat.add_zero] at u0
        obtain ⟨v0, f0⟩ := cell_in r7 (arr_at (getD_some (i := k * 3) (by rw [r6.1]; omega)))
        obtain ⟨v1, f1⟩ := cell_in r7 (arr_at (getD_some (i := k * 3 + 1) (by rw [r6.1]; omega)))
        obtain ⟨v2, f2⟩ := cell_in r7 (arr_at (getD_some (i := k * 3 + 2) (by rw [r6.1]; omega)))
        have v1' : (wr.setCell ⟨w.heap.size + 1, k * 3, none⟩ (.int .i64 (o6 m 0))).cell? ⟨w.heap.size + 1, k * 3 + 1, none⟩ = some (.int .i64 (cs[k * 3 + 1]?.getD 0)) := by
          rw [World.cell?_setCell_other _ _ _ _ (by intro h; injection h with _ h _; omega)]; exact v1
        have v2' : ((wr.setCell ⟨w.heap.size + 1, k * 3, none⟩ (.int .i64 (o6 m 0))).setCell ⟨w.heap.size + 1, k * 3 + 1, none⟩ (.int .i64 (o6 m 1))).cell? ⟨w.heap.size + 1, k * 3 + 2, none⟩ = some (.int .i64 (cs[k * 3 + 2]?.getD 0)) := by
          rw [World.cell?_setCell_other _ _ _ _ (by intro h; injection h with _ h _; omega), World.cell?_setCell_other _ _ _ _ (by intro h; injection h with _ h _; omega)]; exact v2
        have HF : Hid (Below w.heap.size w (((wr.setCell ⟨w.heap.size + 1, k * 3, none⟩ (.int .i64 (o6 m 0))).setCell ⟨w.heap.size + 1, k * 3 + 1, none⟩ (.int .i64 (o6 m 1))).setCell ⟨w.heap.size + 1, k * 3 + 2, none⟩ (.int .i64 (o6 m 2))) ∧ w.heap.size + 2 ≤ B6 ∧ B6 < (((wr.setCell ⟨w.heap.size + 1, k * 3, none⟩ (.int .i64 (o6 m 0))).setCell ⟨w.heap.size + 1, k * 3 + 1, none⟩ (.int .i64 (o6 m 1))).setCell ⟨w.heap.size + 1, k * 3 + 2, none⟩ (.int .i64 (o6 m 2))).heap.size ∧ (((wr.setCell ⟨w.heap.size + 1, k * 3, none⟩ (.int .i64 (o6 m 0))).setCell ⟨w.heap.size + 1, k * 3 + 1, none⟩ (.int .i64 (o6 m 1))).setCell ⟨w.heap.size + 1, k * 3 + 2, none⟩ (.int .i64 (o6 m 2))).heap[w.heap.size]? = some (.cells P0 47 (0, 0)) ∧ (((wr.setCell ⟨w.heap.size + 1, k * 3, none⟩ (.int .i64 (o6 m 0))).setCell ⟨w.heap.size + 1, k * 3 + 1, none⟩ (.int .i64 (o6 m 1))).setCell ⟨w.heap.size + 1, k * 3 + 2, none⟩ (.int .i64 (o6 m 2))).heap[B6]? = some (.cells CO 40 (0, 0)) ∧ ∃ cs : List Int, Mk l (k + 1) cs ∧ (((wr.setCell ⟨w.heap.size + 1, k * 3, none⟩ (.int .i64 (o6 m 0))).setCell ⟨w.heap.size + 1, k * 3 + 1, none⟩ (.int .i64 (o6 m 1))).setCell ⟨w.heap.size + 1, k * 3 + 2, none⟩ (.int .i64 (o6 m 2))).heap[w.heap.size + 1]? = some (.cells (arr cs) 47 (0, 0))) := by
          have ne0 : w.heap.size ≠ w.heap.size + 1 := by omega
          have ne6 : B6 ≠ w.heap.size + 1 := by omega
          have hp : ∀ o : Nat, w.heap.size ≤ (⟨w.heap.size + 1, o, none⟩ : Addr).block := fun o => by show _ ≤ w.heap.size + 1; omega
          refine ⟨((r1.setCell (hp _) _).setCell (hp _) _).setCell (hp _) _, r2, by simpa using r3, ?_, ?_, _, r6.set hlt, ?_⟩
          · rw [Below.heap_setCell _ _ _ _ ne0, Below.heap_setCell _ _ _ _ ne0, Below.heap_setCell _ _ _ _ ne0]; exact r4
          · rw [Below.heap_setCell _ _ _ _ ne6, Below.heap_setCell _ _ _ _ ne6, Below.heap_setCell _ _ _ _ ne6]; exact r5
          · rw [heap_setCell_same _ _ _ _ _ _ (heap_setCell_same _ _ _ _ _ _ (heap_setCell_same _ _ _ _ _ _ r7)), arr_set, arr_set, arr_set, hm]
        clear r1 r3 r4 r5 r6 r7 hv hme hm v1 v2
        go_wp2_with fail
        go_roundw
        case rel => exact ⟨k + 1, by omega, by go_num, unhide HF⟩
        case measure => simp [intOf]; omega
      · obtain rfl : k = 36 := by omega
        have hsz := unhide HSZ cs r6.1
        have hs0 := unhide HS0 cs r6.1
        have hall := unhide HAL cs
        have hr := setRow_heap wr w.heap.size _ (arr cs) _ _ r4
        have HB := hide (below_setRow r1 (Nat.le_refl _) (arr cs))
        have R7 := hide r7
        have R4 := hide r4
        have HALL := hide hall
        have HS1 := hide hs0
        have HSZ1 := hide hsz
        have HR := hide hr
        have HM := hide r6
        clear r4 r5 r7 hall hs0 hsz hr r6
        generalize hC : arr cs = C at *
        have HC := hide hC
        clear hC
        go_wp2_with (first | (refine wpList_load_row rfl 47 (.tmp 4) rfl (w.heap.size + 1) rfl 47 C (0, 0) _ (unhide R7) Try.underlying47 rfl (unhide HSZ1) ?_) | (refine wpList_store_row rfl 47 (.tmp 2) (.tmp 29) rfl w.heap.size C rfl rfl 47 _ (unhide R4) (unhide HSZ1) (unhide HS1) (unhide HALL) ?_))
        (try simp only [Exit.inBlock, Exit.then])
        refine bodyPost_ret (results_row_tmp (p := 2) (ty := 47) (u := 3) rfl _ _ _ w.heap.size _ rfl (run_loadVar_row _ _ 47 47 _ (0, 0) _ (unhide HR) Try.underlying47 rfl (unhide HSZ1))) rfl ?_
        exact ⟨⟨cs, by rw [unhide HC]; rfl, (unhide HM).1, fun _ => unhide HM⟩, unhide HB⟩
  · have hne : (r == 0) = false := by simp [h0]
    have HNE := hide h0
    clear h0
    have q4 : ((w.alloc (.cells P0 47)).alloc (.cells P0 47)).heap[w.heap.size]? = some (.cells P0 47 (0, 0)) := by rw [Below.heap_alloc _ _ _ (by simp)]; exact World.alloc_heap_new _ _
    have q5 : ((w.alloc (.cells P0 47)).alloc (.cells P0 47)).heap[w.heap.size + 1]? = some (.cells P0 47 (0, 0)) := alloc_at _ (by simp)
    have hr := setRow_heap _ w.heap.size _ P0 _ _ q4
    have hsz := unhide HSZ (List.replicate 108 0) (by simp)
    have hall := unhide HAL (List.replicate 108 0)
    rw [← unhide HP0] at hsz hall
    have HB := hide (below_setRow hb0 (Nat.le_refl _) P0)
    have HSZ1 := hide hsz
    have HALL := hide hall
    have HR := hide hr
    have Q4 := hide q4
    have Q5 := hide q5
    clear hsz hall hr q4 q5
    go_enter Try.func25, Try.ntmps25
    go_wp2_with fail
    refine (unhide CC).mono ?_
    rintro e w1 ⟨rfl, hw1⟩
    subst w1
    go_wp2_with (first | (refine wpList_load_row rfl 47 (.tmp 4) rfl (w.heap.size + 1) rfl 47 P0 (0, 0) _ (unhide Q5) Try.underlying47 rfl (unhide HSZ1) ?_) | (refine wpList_store_row rfl 47 (.tmp 2) (.tmp 13) rfl w.heap.size P0 rfl rfl 47 _ (unhide Q4) (unhide HSZ1) rfl (unhide HALL) ?_))
    (try simp only [Exit.inBlock, Exit.then])
    refine bodyPost_ret (results_row_tmp (p := 2) (ty := 47) (u := 3) rfl _ _ _ w.heap.size _ rfl (run_loadVar_row _ _ 47 47 _ (0, 0) _ (unhide HR) Try.underlying47 rfl (unhide HSZ1))) rfl ?_
    exact ⟨⟨List.replicate 108 0, by rw [← unhide HP0]; rfl, by simp, fun e => absurd e (unhide HNE)⟩, unhide HB⟩
end Go.Proofs.Ytbbbjpkomnhofaa
