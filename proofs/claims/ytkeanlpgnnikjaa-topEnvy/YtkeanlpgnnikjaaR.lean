import Derived.Test.YtkeanlpgnnikjaaA
namespace Go.Proofs.Ytkeanlpgnnikjaa
open Go.RowKit
theorem mul64_1 (c : Int) (hc : c = 0 ∨ c = 1 ∨ c = 2 ∨ c = 3 ∨ c = 4 ∨ c = 5 ∨ c = 6 ∨ c = 7 ∨ c = 8) (w : World) : Calls Try.prog 50 #[.int .u64 1, .int .u64 c] w fun e w' => e = .returned (.tuple #[.int .u64 0, .int .u64 c]) ∧ w' = w := by
  rcases hc with rfl | rfl | rfl | rfl | rfl | rfl | rfl | rfl | rfl
  all_goals
    go_enter Try.func50, Try.ntmps50
    go_wp2
    go_ret2
    exact ⟨rfl, rfl⟩
theorem mul_1 (c : Int) (hc : c = 0 ∨ c = 1 ∨ c = 2 ∨ c = 3 ∨ c = 4 ∨ c = 5 ∨ c = 6 ∨ c = 7 ∨ c = 8) (w : World) : Calls Try.prog 46 #[.int .u64 1, .int .u64 c] w fun e w' => e = .returned (.tuple #[.int .u64 0, .int .u64 c]) ∧ w' = w := by
  go_enter Try.func46, Try.ntmps46
  go_wp2_with (go_at_call 50; refine (mul64_1 c hc _).mono ?_; rintro e w' ⟨rfl, rfl⟩)
  go_ret2
  exact ⟨rfl, rfl⟩
def alone : Value := .int .i64 (-1)
def zer : Value := .int .i64 0
def rowK (n k : Nat) : List Value := List.replicate k alone ++ List.replicate (n - k) zer
theorem rowK_len (n k : Nat) (h : k ≤ n) : (rowK n k).length = n := by simp [rowK]; omega
theorem rowK_at (n k j : Nat) (h : j < k) : (rowK n k)[j]? = some alone := by
  unfold rowK
  rw [List.getElem?_append_left (by simpa using h), List.getElem?_replicate, if_pos h]
theorem rowK_splice (n k c : Nat) : splice (rowK n k) k (List.replicate c alone) = rowK n (k + c) := by
  unfold splice rowK
  rw [List.take_append, List.drop_append, List.length_replicate, List.length_replicate, Nat.sub_self, List.take_zero, List.append_nil, List.take_replicate, Nat.min_self,
    List.drop_replicate, List.drop_replicate, show k - (k + c) = 0 by omega, List.replicate_zero, List.nil_append, show k + c - k = c by omega, ← List.append_assoc, List.replicate_append_replicate, show n - k - c = n - (k + c) by omega]
theorem made_zer (n : Nat) : (madeCells (Value.int .i64 0).cells (n * 1)).toList = rowK n 0 := by
  unfold rowK madeCells
  rw [List.replicate_zero, List.nil_append, Nat.sub_zero, Nat.mul_one]
  refine List.ext_getElem? fun j => ?_
  by_cases hj : j < n
  · simp [hj, Value.cells, zer, Nat.mod_one]
  · simp [hj]
theorem hsz3 : (Try.prog.info? 3).map (·.size) = some 1 := by kernel_rfl
theorem Row.of_block {base g n : Nat} {W : World} {cur : List Value} {f : Nat → Int} (hg : W.heap[g]? = some (.cells cur.toArray 3 (0, 0))) (hb : base ≤ g) (h : ∀ j, j < n → cur[j]? = some (.int .i64 (f j))) : Row base W (some ⟨g, 0, none⟩) n f := by
  refine .inr ⟨g, rfl, hb, (Array.getElem?_eq_some_iff.1 hg).1, fun j hj => ?_, fun j _ => by simp [World.frozen?, hg]⟩
  have := h j hj
  simp [World.cell?, hg, this]
theorem cell_block {g j : Nat} {W : World} {cur : List Value} {v : Value} (hg : W.heap[g]? = some (.cells cur.toArray 3 (0, 0))) (h : cur[j]? = some v) : W.cell? ⟨g, j, none⟩ = some v := by
  simp [World.cell?, hg, h]
set_option maxRecDepth 100000 in
set_option maxHeartbeats 2000000 in
theorem rep_any (b n : Nat) (w : World) (hn : n ≤ 8) (hb : w.cell? ⟨b, 0, none⟩ = some (.int .i64 (-1))) : Calls Try.prog 38 #[.slice (some ⟨b, 0, none⟩) 1 1, .int .i64 n] w fun e w' =>
    e = .returned (.slice (some ⟨w.heap.size, 0, none⟩) n n) ∧ Row w.heap.size w' (some ⟨w.heap.size, 0, none⟩) n (fun _ => -1) ∧ Below w.heap.size w w' := by
  obtain ⟨i3, hi3, hz0, hz1, hz2⟩ := info_parts info3
  have hbs : b < w.heap.size := World.block_lt_of_cell? w _ hb
  have HBS := hide hbs
  clear hbs
  go_enter Try.func38, Try.ntmps38
  go_wp2_with (first
    | (go_at_call 46; refine (mul_1 n (by omega) _).mono ?_; rintro e w1 ⟨rfl, hw1⟩; subst w1)
    | (at_make; refine wpList_make_full _ rfl _ _ 23 rfl w.heap.size 3 i3 _ 1 Try.underlying23 hi3 hz0 hz1 .i64 .i64 _ _ n rfl rfl rfl rfl (by rw [hz2]; omega) (by unfold maxLen; omega) (Nat.le_refl _) ?_; intro w2 ho2 hg2))
  have hb2 : Below w.heap.size w w2 := (Below.refl w.heap.size w).grown hg2 (Nat.le_refl _) (fun k hk => by cases hk)
  have hG : w2.heap[w.heap.size]? = some (.cells (rowK n 0).toArray 3 (0, 0)) := by
    rcases ho2.2 with ⟨h, _⟩ | ⟨g, cap, cur, h, _, hgg, _, _, hcs, htake⟩
    · cases h
    · cases h
      have e : cur.toList = rowK n 0 := by rw [← made_zer, ← htake, List.take_of_length_le (by simp [hcs])]
      rw [hgg, ← e]
  clear ho2 hg2
  by_cases hz : n = 0
  · subst hz
    have hrun := run_copy_none (P := Try.prog) w2 23 23 3 3 (some ⟨w.heap.size, 0, none⟩) (some ⟨b, 0, none⟩) 0 0 1 1 Try.underlying23 hsz3 (by decide)
    rw [hrun]
    simp only [Result.andThen_ok]
    go_wp2_with fail
    refine wp_loop_rounds 1 ?_
    rw [rounds_succ]
    go_wp2
    go_ret
    exact ⟨rfl, .inl rfl, hb2⟩
  · have hrun := run_copy_row (P := Try.prog) w2 23 23 3 3 w.heap.size 0 n n ⟨b, 0, none⟩ 1 1 (rowK n 0).toArray 3 [alone] Try.underlying23 hsz3 hG (by have : Nat.min 1 n = 1 := Nat.min_eq_left (by omega); rw [this]; rfl)
      (fun j v hv => by
        cases j with
        | zero => simp at hv; subst hv; simpa [Addr.add, alone] using (hb2.cell (p := ⟨b, 0, none⟩) (unhide HBS)).trans hb
        | succ j => simp at hv) (by simp [rowK]; omega) (fun v hv => by simp at hv; subst hv; rfl)
    have hG3 : (w2.setRow w.heap.size ((rowK n 0).toArray.toList.take 0 ++ [alone] ++ (rowK n 0).toArray.toList.drop (0 + [alone].length)).toArray).heap[w.heap.size]? = some (.cells (rowK n 1).toArray 3 (0, 0)) := by
      rw [setRow_heap w2 _ _ _ 3 (0, 0) hG]
      have := rowK_splice n 0 1
      unfold splice at this
      simp only [Nat.zero_add] at this
      rw [← this]
      simp
    have hb3 : Below w.heap.size w (w2.setRow w.heap.size ((rowK n 0).toArray.toList.take 0 ++ [alone] ++ (rowK n 0).toArray.toList.drop (0 + [alone].length)).toArray) := below_setRow hb2 (Nat.le_refl _) _
    rw [hrun]
    generalize w2.setRow w.heap.size ((rowK n 0).toArray.toList.take 0 ++ [alone] ++ (rowK n 0).toArray.toList.drop (0 + [alone].length)).toArray = w3 at *
    have HG3 := hide hG3
    clear hG hG3 hrun
    have hlen : goInt [alone].length = .int .i64 1 := rfl
    rw [hlen]
    simp only [Result.andThen_ok]
    go_wp2_with fail
    go_loopw [8] (fun i wr => Below w.heap.size w wr ∧ ∃ k : Nat, 1 ≤ k ∧ k ≤ n ∧ i = .int .i64 k ∧ Hid (wr.heap[w.heap.size]? = some (.cells (rowK n k).toArray 3 (0, 0)))) (fun i _ => n - (intOf i).toNat)
    case atStart => exact ⟨hb3, 1, Nat.le_refl _, by omega, rfl, HG3⟩
    case round =>
      obtain ⟨hbr, k, hk1, hk, rfl, HGr⟩ := hrel
      by_cases hlt : k < n
      · obtain ⟨c, hc⟩ : ∃ c, c = Nat.min k (n - k) := ⟨_, rfl⟩
        have hc1 : c ≤ k := by rw [hc]; exact Nat.min_le_left _ _
        have hc2 : c ≤ n - k := by rw [hc]; exact Nat.min_le_right _ _
        have hc3 : 1 ≤ c := by rw [hc]; exact Nat.le_min.2 ⟨hk1, by omega⟩
        have HC := hide hc
        clear hc
        have hnk : ¬ n = k := by omega
        have HSRC : Hid (∀ j v, (List.replicate c alone)[j]? = some v → wr.drew.cell? ((⟨w.heap.size, 0, none⟩ : Addr).add j) = some v) := fun j v hv => by
          have hj : j < c := by
            rcases Nat.lt_or_ge j c with h | h
            · exact h
            · rw [List.getElem?_eq_none (by simpa using h)] at hv; cases hv
          rw [List.getElem?_replicate, if_pos hj] at hv
          cases hv
          have e : (⟨w.heap.size, 0, none⟩ : Addr).add j = ⟨w.heap.size, j, none⟩ := by unfold Addr.add; split <;> simp_all
          rw [e]
          exact cell_block (unhide HGr) (rowK_at n k j (by omega))
        have HNL : Hid ((List.replicate c alone).length = Nat.min k (n - k)) := by show _ = _; rw [List.length_replicate]; exact unhide HC
        have HFIT : Hid (k + (List.replicate c alone).length ≤ (rowK n k).length) := by show _ ≤ _; rw [List.length_replicate, rowK_len n k hk]; omega
        have HONE : Hid (∀ v ∈ List.replicate c alone, v.oneCell' = true) := fun v hv => by rw [List.mem_replicate] at hv; rw [hv.2]; rfl
        have HLEN : Hid (goInt ((List.replicate c alone).length : Int) = .int .i64 c) := by show _ = _; rw [List.length_replicate]; rfl
        have HSP : Hid (∀ w4 : World, Hid (w4.heap[w.heap.size]? = some (.cells (splice (rowK n k) k (List.replicate c alone)).toArray 3 (0, 0))) → Hid (w4.heap[w.heap.size]? = some (.cells (rowK n (k + c)).toArray 3 (0, 0)))) := fun w4 h => by rw [← rowK_splice]; exact h
        go_wp2_with fail
        go_region_law (first | (refine step_copy_splice rfl (.tmp 41) (.tmp 44) 23 23 rfl 3 Try.underlying23 hsz3 (some ⟨w.heap.size, k, none⟩) (some ⟨w.heap.size, 0, none⟩) (n - k) (n - k) k n (by simp [Act.eval, Act.put]) (by simp [Act.eval, Act.put]) w.heap.size k (rowK n k) 3 (unhide HGr) (List.replicate c alone) (unhide HNL) (fun _ => ⟨rfl, _, rfl, unhide HSRC⟩) (unhide HFIT) (unhide HONE) w.heap.size w hbr.drew (Nat.le_refl _) ?_; intro w4 HG4 hb4; rw [unhide HLEN]; have HG5 := unhide HSP w4 HG4; clear HG4))
        all_goals
          simp only [Act.put, List.getElem_toArray, List.getElem_cons_zero, List.getElem_cons_succ, List.setIfInBounds_toArray, List.set_cons_zero, List.set_cons_succ]
          rw [IntWalk.i64_in ((k : Int) + (c : Int)) (by omega)]
          go_roundw
          case rel => exact ⟨_, _, _, _, _, _, _, _, _, _, _, _, _, _, ⟨hb4, k + c, by omega, by omega, by rw [Int.natCast_add], HG5⟩, rfl⟩
          case measure => simp [intOf]; omega
      · go_wp2
        go_ret
        obtain rfl : k = n := by omega
        exact ⟨rfl, Row.of_block (unhide HGr) (Nat.le_refl _) (fun j hj => rowK_at _ _ j hj), hbr⟩
end Go.Proofs.Ytkeanlpgnnikjaa
