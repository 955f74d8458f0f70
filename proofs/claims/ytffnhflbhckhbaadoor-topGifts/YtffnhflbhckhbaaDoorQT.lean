import Derived.Test.YtffnhflbhckhbaaDoorQN
import Derived.Shelf.Spec.TrailingZeros
namespace Go.Proofs.YtffnhflbhckhbaaDoor
open Go.RowKit Go.Shelf
/-- The least one that is not used. -/
def lowB (u : Nat) : Nat := ((List.range 8).filter (fun k => !u.testBit k)).headD 8
theorem low_ctz : ∀ u : Nat, u < 255 → Lib.ctz 64 (18446744073709551615 - u) = lowB u := by decide +kernel
theorem low_spec : ∀ u : Nat, u < 256 → (lowB u < 8 → u.testBit (lowB u) = false) ∧ ∀ j, j < lowB u → u.testBit j = true := by decide +kernel
theorem low_lt : ∀ n : Nat, n ≤ 8 → ∀ u : Nat, u < 2 ^ n → u ≠ 2 ^ n - 1 → lowB u < n := by decide +kernel
/-- The table by which the library counts. -/
def Tab (w : World) : Prop := TabAt 1 Lib.deBruijn64tab w
theorem Tab.later {w w' : World} (h : Tab w) (hb : Below w.heap.size w w') : Tab w' := fun j hj => by
  have := h j hj
  exact (hb.cell (p := ⟨1, j, none⟩) (World.block_lt_of_cell? w _ this)).trans this
theorem Tab.keep {w w' : World} {S : Nat → Prop} (h : Tab w) (k : Keep S w w') (hs : S 1) : Tab w' := fun j hj => (k.cell (p := ⟨1, j, none⟩) hs).trans (h j hj)
set_option maxHeartbeats 1000000 in
theorem tz64_any (u : Nat) (hu : u < 255) (w : World) (hT : Tab w) :
    Calls Tryd.prog 30 #[.int .u64 ((18446744073709551615 - u : Nat) : Int)] w fun e w' => e = .returned (.int .i64 (lowB u : Int)) ∧ w' = w := by
  obtain ⟨x, hx⟩ : ∃ x, x = 18446744073709551615 - u := ⟨_, rfl⟩
  have hx1 : x < 18446744073709551616 := by omega
  have hx0 : x ≠ 0 := by omega
  obtain ⟨hlow, hk⟩ := Lib.lowest_bit 64 x hx0 hx1
  obtain ⟨hi, htab⟩ := Lib.deBruijn64_at _ hk
  have key := tz64_key x _ hx1 hx0 hlow
  have hc := hT _ (show _ < Lib.deBruijn64tab.length from hi)
  rw [htab] at hc
  have hl : Lib.ctz 64 x = lowB u := by rw [hx]; exact low_ctz u hu
  rw [hl] at hc key hi hk
  rw [← hx]
  have hxz : ((x : Int) == 0) = false := by simp; omega
  obtain ⟨idx, hidx⟩ : ∃ idx, idx = 2 ^ lowB u * 285870213051353865 % 18446744073709551616 / 288230376151711744 := ⟨_, rfl⟩
  rw [← hidx] at hc key hi
  clear hidx
  have hkk : lowB u < 64 := hk
  clear hT hlow htab hl hx
  go_enter Tryd.func30, Tryd.ntmps30
  go_wp2_with (simp only [key])
  go_ret
  exact ⟨rfl, rfl⟩
set_option maxHeartbeats 1000000 in
theorem tz_any (u : Nat) (hu : u < 255) (w : World) (hT : Tab w) :
    Calls Tryd.prog 24 #[.int .u64 ((18446744073709551615 - u : Nat) : Int)] w fun e w' => e = .returned (.int .i64 (lowB u : Int)) ∧ w' = w := by
  have H := hide (tz64_any u hu w hT)
  generalize ((18446744073709551615 - u : Nat) : Int) = x at *
  go_enter Tryd.func24, Tryd.ntmps24
  go_wp2_with fail
  refine (unhide H).mono ?_
  rintro e w' ⟨rfl, hw⟩
  subst w'
  go_wp2_with fail
  go_ret
  exact ⟨rfl, rfl⟩
theorem wrapPow : ∀ n : Nat, n ≤ 8 → wrap64 (wrap64 (2 ^ n) - 1) = ((2 ^ n - 1 : Nat) : Int) := by decide +kernel
set_option maxHeartbeats 1000000 in
theorem everybody_any (gv rd rw : Int) (fa : Option Addr) (fn fc : Nat) (w : World) (h8 : fn ≤ 8) :
    Calls Tryd.prog 14 #[swV gv rd rw fa fn fc] w fun e w' => e = .returned (.int .i64 ((2 ^ fn - 1 : Nat) : Int)) ∧ Below w.heap.size w w' := by
  have hb : Below w.heap.size w (w.alloc (.cells #[.int .i64 gv, .slice fa fn fc, .int .i64 rd, .int .i64 rw] 24)) := by go_grown
  have p1 := hide (wrapPow fn h8)
  unfold swV
  go_enter Tryd.func14, Tryd.ntmps14
  go_wp2_with fail
  go_ret
  exact ⟨congrArg (fun x => Ending.returned (.int .i64 x)) (unhide p1), hb⟩
end Go.Proofs.YtffnhflbhckhbaaDoor
