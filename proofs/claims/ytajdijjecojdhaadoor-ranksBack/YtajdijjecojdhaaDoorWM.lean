import Derived.Test.YtajdijjecojdhaaDoorWG2
import Derived.Lib.ConvBytes
import Derived.Deep.RegionWith
import Derived.Lib.SlBytesConst
namespace Go.Proofs.YtajdijjecojdhaaDoor
open Go.RowKit
set_option maxHeartbeats 400000 in
theorem trim_1 (w : World) : Calls Tryd.prog 73 #[.string ⟨#[1]⟩] w fun e w' => e = .returned (.string ⟨#[1]⟩) ∧ w' = w := by
  go_enter Tryd.func73, Tryd.ntmps73
  go_wp2
  refine wp_loop_rounds 1 ?_
  rw [rounds_succ]
  go_wp2
  go_ret
  exact ⟨rfl, rfl⟩
set_option maxHeartbeats 400000 in
theorem short_1 (w : World) : Calls Tryd.prog 88 #[.string ⟨#[1]⟩] w fun e w' => e = .returned (.tuple #[.int .i64 1, .bool true]) ∧ w' = w := by
  have hb : (((⟨#[1]⟩ : ByteArray)[0]).toNat : Int) = 1 := rfl
  go_enter Tryd.func88, Tryd.ntmps88
  go_wp2
  refine wp_loop_rounds 2 ?_
  rw [rounds_succ]
  go_wp2
  rw [rounds_succ]
  go_wp2
  go_ret2
  exact ⟨rfl, rfl⟩

set_option maxHeartbeats 400000 in
theorem trim_2 (w : World) : Calls Tryd.prog 73 #[.string ⟨#[2]⟩] w fun e w' => e = .returned (.string ⟨#[2]⟩) ∧ w' = w := by
  go_enter Tryd.func73, Tryd.ntmps73
  go_wp2
  refine wp_loop_rounds 1 ?_
  rw [rounds_succ]
  go_wp2
  go_ret
  exact ⟨rfl, rfl⟩
set_option maxHeartbeats 400000 in
theorem short_2 (w : World) : Calls Tryd.prog 88 #[.string ⟨#[2]⟩] w fun e w' => e = .returned (.tuple #[.int .i64 2, .bool true]) ∧ w' = w := by
  have hb : (((⟨#[2]⟩ : ByteArray)[0]).toNat : Int) = 2 := rfl
  go_enter Tryd.func88, Tryd.ntmps88
  go_wp2
  refine wp_loop_rounds 2 ?_
  rw [rounds_succ]
  go_wp2
  rw [rounds_succ]
  go_wp2
  go_ret2
  exact ⟨rfl, rfl⟩

set_option maxHeartbeats 400000 in
theorem trim_3 (w : World) : Calls Tryd.prog 73 #[.string ⟨#[3]⟩] w fun e w' => e = .returned (.string ⟨#[3]⟩) ∧ w' = w := by
  go_enter Tryd.func73, Tryd.ntmps73
  go_wp2
  refine wp_loop_rounds 1 ?_
  rw [rounds_succ]
  go_wp2
  go_ret
  exact ⟨rfl, rfl⟩
set_option maxHeartbeats 400000 in
theorem short_3 (w : World) : Calls Tryd.prog 88 #[.string ⟨#[3]⟩] w fun e w' => e = .returned (.tuple #[.int .i64 3, .bool true]) ∧ w' = w := by
  have hb : (((⟨#[3]⟩ : ByteArray)[0]).toNat : Int) = 3 := rfl
  go_enter Tryd.func88, Tryd.ntmps88
  go_wp2
  refine wp_loop_rounds 2 ?_
  rw [rounds_succ]
  go_wp2
  rw [rounds_succ]
  go_wp2
  go_ret2
  exact ⟨rfl, rfl⟩

set_option maxHeartbeats 400000 in
theorem trim_4 (w : World) : Calls Tryd.prog 73 #[.string ⟨#[4]⟩] w fun e w' => e = .returned (.string ⟨#[4]⟩) ∧ w' = w := by
  go_enter Tryd.func73, Tryd.ntmps73
  go_wp2
  refine wp_loop_rounds 1 ?_
  rw [rounds_succ]
  go_wp2
  go_ret
  exact ⟨rfl, rfl⟩
set_option maxHeartbeats 400000 in
theorem short_4 (w : World) : Calls Tryd.prog 88 #[.string ⟨#[4]⟩] w fun e w' => e = .returned (.tuple #[.int .i64 4, .bool true]) ∧ w' = w := by
  have hb : (((⟨#[4]⟩ : ByteArray)[0]).toNat : Int) = 4 := rfl
  go_enter Tryd.func88, Tryd.ntmps88
  go_wp2
  refine wp_loop_rounds 2 ?_
  rw [rounds_succ]
  go_wp2
  rw [rounds_succ]
  go_wp2
  go_ret2
  exact ⟨rfl, rfl⟩

set_option maxHeartbeats 400000 in
theorem trim_10 (w : World) : Calls Tryd.prog 73 #[.string ⟨#[10]⟩] w fun e w' => e = .returned (.string ⟨#[10]⟩) ∧ w' = w := by
  go_enter Tryd.func73, Tryd.ntmps73
  go_wp2
  refine wp_loop_rounds 1 ?_
  rw [rounds_succ]
  go_wp2
  go_ret
  exact ⟨rfl, rfl⟩
set_option maxHeartbeats 400000 in
theorem short_10 (w : World) : Calls Tryd.prog 88 #[.string ⟨#[10]⟩] w fun e w' => e = .returned (.tuple #[.int .i64 10, .bool true]) ∧ w' = w := by
  have hb : (((⟨#[10]⟩ : ByteArray)[0]).toNat : Int) = 10 := rfl
  go_enter Tryd.func88, Tryd.ntmps88
  go_wp2
  refine wp_loop_rounds 2 ?_
  rw [rounds_succ]
  go_wp2
  rw [rounds_succ]
  go_wp2
  go_ret2
  exact ⟨rfl, rfl⟩

set_option maxHeartbeats 400000 in
theorem trim_0 (w : World) : Calls Tryd.prog 73 #[.string ⟨#[]⟩] w fun e w' => e = .returned (.string ⟨#[]⟩) ∧ w' = w := by
  go_enter Tryd.func73, Tryd.ntmps73
  go_wp2
  refine wp_loop_rounds 1 ?_
  rw [rounds_succ]
  go_wp2
  go_ret
  exact ⟨rfl, rfl⟩
set_option maxHeartbeats 400000 in
theorem natOf_0 (w : World) : Calls Tryd.prog 58 #[.int .i64 0] w fun e w' => e = .returned (.string ⟨#[]⟩) ∧ w' = w := by
  go_enter Tryd.func58, Tryd.ntmps58
  go_wp2
  refine wp_loop_rounds 1 ?_
  rw [rounds_succ]
  go_wp2
  go_ret
  exact ⟨rfl, rfl⟩

theorem conv_one (dst : TypeId) (hd : Tryd.prog.underlying dst = some .string) (c : UInt8) (w : World) :
    (convert 41 dst (.slice (some ⟨w.heap.size, 0, none⟩) 1 1)).run Tryd.prog (w.alloc (.cells #[.int .u8 c.toNat] 5)) = .ok (.string ⟨#[c]⟩) (w.alloc (.cells #[.int .u8 c.toNat] 5)) :=
  run_convert_bytes_back (P := Tryd.prog) (w.alloc (.cells #[.int .u8 c.toNat] 5)) 41 dst 5 ⟨w.heap.size, 0, none⟩ 1 [c] Tryd.underlying41 Tryd.underlying5 hd (fun i hi => by
    have e : i = 0 := by simp at hi; omega
    subst e
    simp [Addr.add])

set_option maxRecDepth 100000 in
set_option maxHeartbeats 400000 in
theorem natOf_2 (w : World) : Calls Tryd.prog 58 #[.int .i64 2] w fun e w' => e = .returned (.string ⟨#[2]⟩) ∧ Below w.heap.size w w' := by
  have hcv : (convert 41 81 (.slice (some ⟨w.heap.size, 0, none⟩) 1 1)).run Tryd.prog (w.alloc (.cells #[.int .u8 2] 5)) = .ok (.string ⟨#[2]⟩) (w.alloc (.cells #[.int .u8 2] 5)) := conv_one 81 Tryd.underlying81 2 w
  go_enter Tryd.func58, Tryd.ntmps58
  go_wp2
  refine wp_loop_rounds 2 ?_
  rw [rounds_succ]
  go_wp2
  rw [rounds_succ]
  go_wp2
  go_ret
  exact ⟨rfl, by go_grown⟩

set_option maxRecDepth 100000 in
set_option maxHeartbeats 400000 in
theorem natOf_3 (w : World) : Calls Tryd.prog 58 #[.int .i64 3] w fun e w' => e = .returned (.string ⟨#[3]⟩) ∧ Below w.heap.size w w' := by
  have hcv : (convert 41 81 (.slice (some ⟨w.heap.size, 0, none⟩) 1 1)).run Tryd.prog (w.alloc (.cells #[.int .u8 3] 5)) = .ok (.string ⟨#[3]⟩) (w.alloc (.cells #[.int .u8 3] 5)) := conv_one 81 Tryd.underlying81 3 w
  go_enter Tryd.func58, Tryd.ntmps58
  go_wp2
  refine wp_loop_rounds 2 ?_
  rw [rounds_succ]
  go_wp2
  rw [rounds_succ]
  go_wp2
  go_ret
  exact ⟨rfl, by go_grown⟩

set_option maxRecDepth 100000 in
set_option maxHeartbeats 400000 in
theorem natOf_4 (w : World) : Calls Tryd.prog 58 #[.int .i64 4] w fun e w' => e = .returned (.string ⟨#[4]⟩) ∧ Below w.heap.size w w' := by
  have hcv : (convert 41 81 (.slice (some ⟨w.heap.size, 0, none⟩) 1 1)).run Tryd.prog (w.alloc (.cells #[.int .u8 4] 5)) = .ok (.string ⟨#[4]⟩) (w.alloc (.cells #[.int .u8 4] 5)) := conv_one 81 Tryd.underlying81 4 w
  go_enter Tryd.func58, Tryd.ntmps58
  go_wp2
  refine wp_loop_rounds 2 ?_
  rw [rounds_succ]
  go_wp2
  rw [rounds_succ]
  go_wp2
  go_ret
  exact ⟨rfl, by go_grown⟩

set_option maxRecDepth 100000 in
set_option maxHeartbeats 800000 in
theorem natDiv_2_1 (w : World) : Calls Tryd.prog 74 #[.string ⟨#[2]⟩, .string ⟨#[1]⟩] w fun e w' => e = .returned (.tuple #[.string ⟨#[2]⟩, .string ⟨#[]⟩, .bool true]) ∧ Below w.heap.size w w' := by
  have hw0 : IntKind.i64.wrap 0 = 0 := rfl
  have hw1 : IntKind.i64.wrap 2 = 2 := rfl
  go_enter Tryd.func74, Tryd.ntmps74
  go_wp2_with fail
  refine (trim_2 _).mono ?_
  rintro e w' ⟨rfl, rfl⟩
  go_wp2_with fail
  refine (trim_1 _).mono ?_
  rintro e w' ⟨rfl, rfl⟩
  go_wp2_with fail
  refine (short_2 _).mono ?_
  rintro e w' ⟨rfl, rfl⟩
  go_wp2_with fail
  refine (short_1 _).mono ?_
  rintro e w' ⟨rfl, rfl⟩
  go_wp2_with fail
  go_region_with (first
    | (go_at_call_of 58 (Value.int .i64 0); refine (natOf_0 _).mono ?_; rintro e w' ⟨rfl, rfl⟩)
    | (go_at_call_of 58 (Value.int .i64 2); refine (natOf_2 _).mono ?_; rintro e w1 ⟨rfl, hb1⟩))
  all_goals
    go_wp2
    go_ret3
    exact ⟨rfl, by first | exact hb1 | exact ((Below.refl _ _).drew).trans hb1⟩

set_option maxRecDepth 100000 in
set_option maxHeartbeats 800000 in
theorem natDiv_2_10 (w : World) : Calls Tryd.prog 74 #[.string ⟨#[2]⟩, .string ⟨#[10]⟩] w fun e w' => e = .returned (.tuple #[.string ⟨#[]⟩, .string ⟨#[2]⟩, .bool true]) ∧ Below w.heap.size w w' := by
  have hw0 : IntKind.i64.wrap 0 = 0 := rfl
  have hw1 : IntKind.i64.wrap 2 = 2 := rfl
  go_enter Tryd.func74, Tryd.ntmps74
  go_wp2_with fail
  refine (trim_2 _).mono ?_
  rintro e w' ⟨rfl, rfl⟩
  go_wp2_with fail
  refine (trim_10 _).mono ?_
  rintro e w' ⟨rfl, rfl⟩
  go_wp2_with fail
  refine (short_2 _).mono ?_
  rintro e w' ⟨rfl, rfl⟩
  go_wp2_with fail
  refine (short_10 _).mono ?_
  rintro e w' ⟨rfl, rfl⟩
  go_wp2_with fail
  go_region_with (first
    | (go_at_call_of 58 (Value.int .i64 0); refine (natOf_0 _).mono ?_; rintro e w' ⟨rfl, rfl⟩)
    | (go_at_call_of 58 (Value.int .i64 2); refine (natOf_2 _).mono ?_; rintro e w1 ⟨rfl, hb1⟩))
  all_goals
    go_wp2
    go_ret3
    exact ⟨rfl, by first | exact hb1 | exact ((Below.refl _ _).drew).trans hb1⟩

set_option maxRecDepth 100000 in
set_option maxHeartbeats 800000 in
theorem natDiv_3_1 (w : World) : Calls Tryd.prog 74 #[.string ⟨#[3]⟩, .string ⟨#[1]⟩] w fun e w' => e = .returned (.tuple #[.string ⟨#[3]⟩, .string ⟨#[]⟩, .bool true]) ∧ Below w.heap.size w w' := by
  have hw0 : IntKind.i64.wrap 0 = 0 := rfl
  have hw1 : IntKind.i64.wrap 3 = 3 := rfl
  go_enter Tryd.func74, Tryd.ntmps74
  go_wp2_with fail
  refine (trim_3 _).mono ?_
  rintro e w' ⟨rfl, rfl⟩
  go_wp2_with fail
  refine (trim_1 _).mono ?_
  rintro e w' ⟨rfl, rfl⟩
  go_wp2_with fail
  refine (short_3 _).mono ?_
  rintro e w' ⟨rfl, rfl⟩
  go_wp2_with fail
  refine (short_1 _).mono ?_
  rintro e w' ⟨rfl, rfl⟩
  go_wp2_with fail
  go_region_with (first
    | (go_at_call_of 58 (Value.int .i64 0); refine (natOf_0 _).mono ?_; rintro e w' ⟨rfl, rfl⟩)
    | (go_at_call_of 58 (Value.int .i64 3); refine (natOf_3 _).mono ?_; rintro e w1 ⟨rfl, hb1⟩))
  all_goals
    go_wp2
    go_ret3
    exact ⟨rfl, by first | exact hb1 | exact ((Below.refl _ _).drew).trans hb1⟩

set_option maxRecDepth 100000 in
set_option maxHeartbeats 800000 in
theorem natDiv_3_10 (w : World) : Calls Tryd.prog 74 #[.string ⟨#[3]⟩, .string ⟨#[10]⟩] w fun e w' => e = .returned (.tuple #[.string ⟨#[]⟩, .string ⟨#[3]⟩, .bool true]) ∧ Below w.heap.size w w' := by
  have hw0 : IntKind.i64.wrap 0 = 0 := rfl
  have hw1 : IntKind.i64.wrap 3 = 3 := rfl
  go_enter Tryd.func74, Tryd.ntmps74
  go_wp2_with fail
  refine (trim_3 _).mono ?_
  rintro e w' ⟨rfl, rfl⟩
  go_wp2_with fail
  refine (trim_10 _).mono ?_
  rintro e w' ⟨rfl, rfl⟩
  go_wp2_with fail
  refine (short_3 _).mono ?_
  rintro e w' ⟨rfl, rfl⟩
  go_wp2_with fail
  refine (short_10 _).mono ?_
  rintro e w' ⟨rfl, rfl⟩
  go_wp2_with fail
  go_region_with (first
    | (go_at_call_of 58 (Value.int .i64 0); refine (natOf_0 _).mono ?_; rintro e w' ⟨rfl, rfl⟩)
    | (go_at_call_of 58 (Value.int .i64 3); refine (natOf_3 _).mono ?_; rintro e w1 ⟨rfl, hb1⟩))
  all_goals
    go_wp2
    go_ret3
    exact ⟨rfl, by first | exact hb1 | exact ((Below.refl _ _).drew).trans hb1⟩

set_option maxRecDepth 100000 in
set_option maxHeartbeats 800000 in
theorem natDiv_4_1 (w : World) : Calls Tryd.prog 74 #[.string ⟨#[4]⟩, .string ⟨#[1]⟩] w fun e w' => e = .returned (.tuple #[.string ⟨#[4]⟩, .string ⟨#[]⟩, .bool true]) ∧ Below w.heap.size w w' := by
  have hw0 : IntKind.i64.wrap 0 = 0 := rfl
  have hw1 : IntKind.i64.wrap 4 = 4 := rfl
  go_enter Tryd.func74, Tryd.ntmps74
  go_wp2_with fail
  refine (trim_4 _).mono ?_
  rintro e w' ⟨rfl, rfl⟩
  go_wp2_with fail
  refine (trim_1 _).mono ?_
  rintro e w' ⟨rfl, rfl⟩
  go_wp2_with fail
  refine (short_4 _).mono ?_
  rintro e w' ⟨rfl, rfl⟩
  go_wp2_with fail
  refine (short_1 _).mono ?_
  rintro e w' ⟨rfl, rfl⟩
  go_wp2_with fail
  go_region_with (first
    | (go_at_call_of 58 (Value.int .i64 0); refine (natOf_0 _).mono ?_; rintro e w' ⟨rfl, rfl⟩)
    | (go_at_call_of 58 (Value.int .i64 4); refine (natOf_4 _).mono ?_; rintro e w1 ⟨rfl, hb1⟩))
  all_goals
    go_wp2
    go_ret3
    exact ⟨rfl, by first | exact hb1 | exact ((Below.refl _ _).drew).trans hb1⟩

set_option maxRecDepth 100000 in
set_option maxHeartbeats 800000 in
theorem natDiv_4_10 (w : World) : Calls Tryd.prog 74 #[.string ⟨#[4]⟩, .string ⟨#[10]⟩] w fun e w' => e = .returned (.tuple #[.string ⟨#[]⟩, .string ⟨#[4]⟩, .bool true]) ∧ Below w.heap.size w w' := by
  have hw0 : IntKind.i64.wrap 0 = 0 := rfl
  have hw1 : IntKind.i64.wrap 4 = 4 := rfl
  go_enter Tryd.func74, Tryd.ntmps74
  go_wp2_with fail
  refine (trim_4 _).mono ?_
  rintro e w' ⟨rfl, rfl⟩
  go_wp2_with fail
  refine (trim_10 _).mono ?_
  rintro e w' ⟨rfl, rfl⟩
  go_wp2_with fail
  refine (short_4 _).mono ?_
  rintro e w' ⟨rfl, rfl⟩
  go_wp2_with fail
  refine (short_10 _).mono ?_
  rintro e w' ⟨rfl, rfl⟩
  go_wp2_with fail
  go_region_with (first
    | (go_at_call_of 58 (Value.int .i64 0); refine (natOf_0 _).mono ?_; rintro e w' ⟨rfl, rfl⟩)
    | (go_at_call_of 58 (Value.int .i64 4); refine (natOf_4 _).mono ?_; rintro e w1 ⟨rfl, hb1⟩))
  all_goals
    go_wp2
    go_ret3
    exact ⟨rfl, by first | exact hb1 | exact ((Below.refl _ _).drew).trans hb1⟩
end Go.Proofs.YtajdijjecojdhaaDoor
