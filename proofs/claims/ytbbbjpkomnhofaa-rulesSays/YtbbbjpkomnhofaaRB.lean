import Derived.Test.YtbbbjpkomnhofaaRA
namespace Go.Proofs.Ytbbbjpkomnhofaa
open Go.RowKit Go.Shelf
def bArr (bs : List Bool) : Array Value := (bs.map Value.bool).toArray
theorem bArr_set (bs : List Bool) (i : Nat) (x : Bool) : (bArr bs).setIfInBounds i (.bool x) = bArr (bs.set i x) := by simp [bArr, List.map_set]
theorem bArr_at {bs : List Bool} {j : Nat} (h : j < bs.length) : (bArr bs)[j]? = some (.bool (bs[j]?.getD false)) := by simp [bArr, h]
/-- The first m answers of what ranks what above what. -/
def Ov (m : Nat) (bs : List Bool) : Prop := bs.length = 54 ∧ ∀ j, j < m → bs[j]?.getD false = av (j / 9) ((j / 3 % 3 : Nat) : Int) ((j % 3 : Nat) : Int)
theorem Ov.set {m : Nat} {bs : List Bool} (h : Ov m bs) (hm : m < 54) : Ov (m + 1) (bs.set m (av (m / 9) ((m / 3 % 3 : Nat) : Int) ((m % 3 : Nat) : Int))) := by
  have hl := h.1
  refine ⟨by simp [hl], fun j hj => ?_⟩
  by_cases e : j = m
  · subst e; rw [List.getElem?_set_self (by omega)]; rfl
  · rw [List.getElem?_set_ne (by omega)]; exact h.2 j (by omega)
set_option maxRecDepth 100000 in
set_option maxHeartbeats 2000000 in
theorem overs_any (w : World) :
    Calls Try.prog 35 #[] w fun e w' => (∃ b bs, e = .returned (.slice (some ⟨b, 0, none⟩) 54 54) ∧ Ov 54 bs ∧ w'.heap[b]? = some (.cells (bArr bs) 4 (0, 0))) ∧ Below w.heap.size w w' := by
  have OV := hide over_any
  obtain ⟨B0, hB0⟩ : ∃ B0, B0 = bArr (List.replicate 54 false) := ⟨_, rfl⟩
  have hmk : ∀ X : World, (Instr.makeSlice 70 (.int .i64 54) (.int .i64 54)).run Try.prog X = .ok (.slice (some ⟨X.heap.size, 0, none⟩) 54 54) (X.alloc (.cells B0 4)) := fun X => by rw [hB0]; kernel_rfl
  have HB0 := hide hB0
  clear hB0
  go_enter Try.func35, Try.ntmps35
  go_wp2_with fail
  clear hmk
  go_loopw [2, 3, 4] (fun i _ _ wr => Below w.heap.size w wr ∧ ∃ (k : Nat) (bs : List Bool), k ≤ 6 ∧ i = .int .i64 (k : Int) ∧ Ov (9 * k) bs ∧ wr.heap[w.heap.size]? = some (.cells (bArr bs) 4 (0, 0))) (fun i _ _ _ => 6 - (intOf i).toNat)
  case atStart =>
    refine ⟨(Below.refl _ w).alloc (Nat.le_refl _) _, 0, List.replicate 54 false, by omega, rfl, ⟨by simp, fun j hj => by omega⟩, ?_⟩
    rw [← unhide HB0]
    exact World.alloc_heap_new _ _
  case round =>
    obtain ⟨hb, k, bs, hk, rfl, hov, hh⟩ := hrel
    by_cases hlk : k < 6
    · have H0 : Hid (Below w.heap.size w wr ∧ Ov (9 * k + 3 * 0) bs ∧ wr.heap[w.heap.size]? = some (.cells (bArr bs) 4 (0, 0))) := ⟨hb, hov, hh⟩
      clear hb hov hh
      go_wp2_with fail
      rw [show decide ((k : Int) < 6) = true by simp; omega]
      go_loopw [3, 4] (fun i _ wr => ∃ (x : Nat) (bs : List Bool), x ≤ 3 ∧ i = .int .i64 (x : Int) ∧ Below w.heap.size w wr ∧ Ov (9 * k + 3 * x) bs ∧ wr.heap[w.heap.size]? = some (.cells (bArr bs) 4 (0, 0))) (fun i _ _ => 3 - (intOf i).toNat)
      case atStart => exact ⟨0, bs, by omega, rfl, unhide H0⟩
      case round =>
        clear H0
        obtain ⟨x, bs, hx, rfl, hb, hov, hh⟩ := hrel
        by_cases hlx : x < 3
        · have H0 : Hid (Below w.heap.size w wr ∧ Ov (9 * k + 3 * x + 0) bs ∧ wr.heap[w.heap.size]? = some (.cells (bArr bs) 4 (0, 0))) := ⟨hb, hov, hh⟩
          clear hb hov hh
          go_wp2_with fail
          rw [show decide ((x : Int) < 3) = true by simp; omega]
          go_loopw [4] (fun i wr => ∃ (y : Nat) (bs : List Bool), y ≤ 3 ∧ i = .int .i64 (y : Int) ∧ Below w.heap.size w wr ∧ Ov (9 * k + 3 * x + y) bs ∧ wr.heap[w.heap.size]? = some (.cells (bArr bs) 4 (0, 0))) (fun i _ => 3 - (intOf i).toNat)
          case atStart => exact ⟨0, bs, by omega, rfl, unhide H0⟩
          case round =>
            clear H0
            obtain ⟨y, bs, hy, rfl, hb, hov, hh⟩ := hrel
            by_cases hly : y < 3
            · obtain ⟨T, hT⟩ : ∃ T : Nat, T = 9 * k + 3 * x + y := ⟨_, rfl⟩
              have hT54 : T < 54 := by omega
              have hTi : (T : Int) < 54 := by omega
              have HT := hide hT
              have a1 : IntKind.i64.wrap (9 * (k : Int)) = 9 * (k : Int) := by rw [IntKind.wrap_i64]; omega
              have a2 : IntKind.i64.wrap (3 * (x : Int)) = 3 * (x : Int) := by rw [IntKind.wrap_i64]; omega
              have a3 : IntKind.i64.wrap (9 * (k : Int) + 3 * (x : Int)) = 9 * (k : Int) + 3 * (x : Int) := by rw [IntKind.wrap_i64]; omega
              have a4 : IntKind.i64.wrap (9 * (k : Int) + 3 * (x : Int) + (y : Int)) = (T : Int) := by rw [IntKind.wrap_i64]; omega
              have HH := hide (And.intro hb (And.intro hov hh))
              have OV' := hide (unhide OV k hlk (x : Int) (y : Int))
              have hbl := hb.size
              clear hb hov hh hT
              go_wp2_with fail
              refine (unhide OV' _).mono ?_
              rintro e w2 ⟨rfl, hb2⟩
              obtain ⟨hb, hov, hh⟩ := unhide HH
              have hwl : w.heap.size < wr.heap.size := (Array.getElem?_eq_some_iff.1 hh).1
              have hh2 := (hb2.block _ hwl).trans hh
              obtain ⟨c0, f0⟩ := cell_in hh2 (bArr_at (j := T) (by have := hov.1; omega))
              have HF : Hid (Below w.heap.size w (w2.setCell ⟨w.heap.size, T, none⟩ (.bool (av k (x : Int) (y : Int)))) ∧ ∃ bs : List Bool, Ov (T + 1) bs ∧ (w2.setCell ⟨w.heap.size, T, none⟩ (.bool (av k (x : Int) (y : Int)))).heap[w.heap.size]? = some (.cells (bArr bs) 4 (0, 0))) := by
                have hT := unhide HT
                rw [← hT] at hov
                have hs := hov.set hT54
                rw [show T / 9 = k by omega, show T / 3 % 3 = x by omega, show T % 3 = y by omega] at hs
                exact ⟨(hb.trans (hb2.mono hbl)).setCell (Nat.le_refl _) _, _, hs, by rw [heap_setCell_same _ _ _ _ _ _ hh2, bArr_set]⟩
              clear hb2 hb hov hh hh2
              go_wp2_with fail
              go_roundw
              case rel =>
                obtain ⟨f1, bs', f2, f3⟩ := unhide HF
                exact ⟨y + 1, bs', by omega, by go_num, f1, by rw [← Nat.add_assoc, ← unhide HT]; exact f2, f3⟩
              case measure => simp [intOf]; omega
            · obtain rfl : y = 3 := by omega
              go_wp2_with fail
              go_roundw
              case rel => exact ⟨x + 1, bs, by omega, by go_num, hb, by rw [show 9 * k + 3 * (x + 1) = 9 * k + 3 * x + 3 by omega]; exact hov, hh⟩
              case measure => simp [intOf]; omega
        · obtain rfl : x = 3 := by omega
          go_wp2_with fail
          go_roundw
          case rel => exact ⟨hb, k + 1, bs, by omega, by go_num, by rw [show 9 * (k + 1) = 9 * k + 3 * 3 by omega]; exact hov, hh⟩
          case measure => simp [intOf]; omega
    · obtain rfl : k = 6 := by omega
      go_wp2_with fail
      go_ret
      exact ⟨⟨w.heap.size, bs, rfl, hov, hh⟩, hb⟩
end Go.Proofs.Ytbbbjpkomnhofaa
