import Derived.Test.YtodbnjainpjkcaaC
import Derived.Lib.ConvBytes
import Derived.Deep.RegionWith
import Derived.Lib.SlBytesConst
namespace Go.Proofs.Ytodbnjainpjkcaa
open Go.RowKit
set_option maxHeartbeats 400000 in
theorem trim_1 (w : World) : Calls Try.prog 65 #[.string ⟨#[1]⟩] w fun e w' => e = .returned (.string ⟨#[1]⟩) ∧ w' = w := by
  go_enter Try.func65, Try.ntmps65
  go_wp2
  refine wp_loop_rounds 1 ?_
  rw [rounds_succ]
  go_wp2
  go_ret
  exact ⟨rfl, rfl⟩
set_option maxHeartbeats 400000 in
theorem short_1 (w : World) : Calls Try.prog 78 #[.string ⟨#[1]⟩] w fun e w' => e = .returned (.tuple #[.int .i64 1, .bool true]) ∧ w' = w := by
  have hb : (((⟨#[1]⟩ : ByteArray)[0]).toNat : Int) = 1 := rfl
  go_enter Try.func78, Try.ntmps78
  go_wp2
  refine wp_loop_rounds 2 ?_
  rw [rounds_succ]
  go_wp2
  rw [rounds_succ]
  go_wp2
  go_ret2
  exact ⟨rfl, rfl⟩
set_option maxHeartbeats 400000 in
theorem trim_2 (w : World) : Calls Try.prog 65 #[.string ⟨#[2]⟩] w fun e w' => e = .returned (.string ⟨#[2]⟩) ∧ w' = w := by
  go_enter Try.func65, Try.ntmps65
  go_wp2
  refine wp_loop_rounds 1 ?_
  rw [rounds_succ]
  go_wp2
  go_ret
  exact ⟨rfl, rfl⟩
set_option maxHeartbeats 400000 in
theorem short_2 (w : World) : Calls Try.prog 78 #[.string ⟨#[2]⟩] w fun e w' => e = .returned (.tuple #[.int .i64 2, .bool true]) ∧ w' = w := by
  have hb : (((⟨#[2]⟩ : ByteArray)[0]).toNat : Int) = 2 := rfl
  go_enter Try.func78, Try.ntmps78
  go_wp2
  refine wp_loop_rounds 2 ?_
  rw [rounds_succ]
  go_wp2
  rw [rounds_succ]
  go_wp2
  go_ret2
  exact ⟨rfl, rfl⟩
set_option maxHeartbeats 400000 in
theorem trim_3 (w : World) : Calls Try.prog 65 #[.string ⟨#[3]⟩] w fun e w' => e = .returned (.string ⟨#[3]⟩) ∧ w' = w := by
  go_enter Try.func65, Try.ntmps65
  go_wp2
  refine wp_loop_rounds 1 ?_
  rw [rounds_succ]
  go_wp2
  go_ret
  exact ⟨rfl, rfl⟩
set_option maxHeartbeats 400000 in
theorem short_3 (w : World) : Calls Try.prog 78 #[.string ⟨#[3]⟩] w fun e w' => e = .returned (.tuple #[.int .i64 3, .bool true]) ∧ w' = w := by
  have hb : (((⟨#[3]⟩ : ByteArray)[0]).toNat : Int) = 3 := rfl
  go_enter Try.func78, Try.ntmps78
  go_wp2
  refine wp_loop_rounds 2 ?_
  rw [rounds_succ]
  go_wp2
  rw [rounds_succ]
  go_wp2
  go_ret2
  exact ⟨rfl, rfl⟩
set_option maxHeartbeats 400000 in
theorem trim_4 (w : World) : Calls Try.prog 65 #[.string ⟨#[4]⟩] w fun e w' => e = .returned (.string ⟨#[4]⟩) ∧ w' = w := by
  go_enter Try.func65, Try.ntmps65
  go_wp2
  refine wp_loop_rounds 1 ?_
  rw [rounds_succ]
  go_wp2
  go_ret
  exact ⟨rfl, rfl⟩
set_option maxHeartbeats 400000 in
theorem short_4 (w : World) : Calls Try.prog 78 #[.string ⟨#[4]⟩] w fun e w' => e = .returned (.tuple #[.int .i64 4, .bool true]) ∧ w' = w := by
  have hb : (((⟨#[4]⟩ : ByteArray)[0]).toNat : Int) = 4 := rfl
  go_enter Try.func78, Try.ntmps78
  go_wp2
  refine wp_loop_rounds 2 ?_
  rw [rounds_succ]
  go_wp2
  rw [rounds_succ]
  go_wp2
  go_ret2
  exact ⟨rfl, rfl⟩
set_option maxHeartbeats 400000 in
theorem trim_5 (w : World) : Calls Try.prog 65 #[.string ⟨#[5]⟩] w fun e w' => e = .returned (.string ⟨#[5]⟩) ∧ w' = w := by
  go_enter Try.func65, Try.ntmps65
  go_wp2
  refine wp_loop_rounds 1 ?_
  rw [rounds_succ]
  go_wp2
  go_ret
  exact ⟨rfl, rfl⟩
set_option maxHeartbeats 400000 in
theorem short_5 (w : World) : Calls Try.prog 78 #[.string ⟨#[5]⟩] w fun e w' => e = .returned (.tuple #[.int .i64 5, .bool true]) ∧ w' = w := by
  have hb : (((⟨#[5]⟩ : ByteArray)[0]).toNat : Int) = 5 := rfl
  go_enter Try.func78, Try.ntmps78
  go_wp2
  refine wp_loop_rounds 2 ?_
  rw [rounds_succ]
  go_wp2
  rw [rounds_succ]
  go_wp2
  go_ret2
  exact ⟨rfl, rfl⟩
set_option maxHeartbeats 400000 in
theorem trim_10 (w : World) : Calls Try.prog 65 #[.string ⟨#[10]⟩] w fun e w' => e = .returned (.string ⟨#[10]⟩) ∧ w' = w := by
  go_enter Try.func65, Try.ntmps65
  go_wp2
  refine wp_loop_rounds 1 ?_
  rw [rounds_succ]
  go_wp2
  go_ret
  exact ⟨rfl, rfl⟩
set_option maxHeartbeats 400000 in
theorem short_10 (w : World) : Calls Try.prog 78 #[.string ⟨#[10]⟩] w fun e w' => e = .returned (.tuple #[.int .i64 10, .bool true]) ∧ w' = w := by
  have hb : (((⟨#[10]⟩ : ByteArray)[0]).toNat : Int) = 10 := rfl
  go_enter Try.func78, Try.ntmps78
  go_wp2
  refine wp_loop_rounds 2 ?_
  rw [rounds_succ]
  go_wp2
  rw [rounds_succ]
  go_wp2
  go_ret2
  exact ⟨rfl, rfl⟩
set_option maxHeartbeats 400000 in
theorem trim_0 (w : World) : Calls Try.prog 65 #[.string ⟨#[]⟩] w fun e w' => e = .returned (.string ⟨#[]⟩) ∧ w' = w := by
  go_enter Try.func65, Try.ntmps65
  go_wp2
  refine wp_loop_rounds 1 ?_
  rw [rounds_succ]
  go_wp2
  go_ret
  exact ⟨rfl, rfl⟩
set_option maxHeartbeats 400000 in
theorem natOf_0 (w : World) : Calls Try.prog 51 #[.int .i64 0] w fun e w' => e = .returned (.string ⟨#[]⟩) ∧ w' = w := by
  go_enter Try.func51, Try.ntmps51
  go_wp2
  refine wp_loop_rounds 1 ?_
  rw [rounds_succ]
  go_wp2
  go_ret
  exact ⟨rfl, rfl⟩
theorem conv_one (dst : TypeId) (hd : Try.prog.underlying dst = some .string) (c : UInt8) (w : World) :
    (convert 83 dst (.slice (some ⟨w.heap.size, 0, none⟩) 1 1)).run Try.prog (w.alloc (.cells #[.int .u8 c.toNat] 5)) = .ok (.string ⟨#[c]⟩) (w.alloc (.cells #[.int .u8 c.toNat] 5)) :=
  run_convert_bytes_back (P := Try.prog) (w.alloc (.cells #[.int .u8 c.toNat] 5)) 83 dst 5 ⟨w.heap.size, 0, none⟩ 1 [c] Try.underlying83 Try.underlying5 hd (fun i hi => by
    have e : i = 0 := by simp at hi; omega
    subst e
    simp [Addr.add])
set_option maxRecDepth 100000 in
set_option maxHeartbeats 400000 in
theorem natOf_1 (w : World) : Calls Try.prog 51 #[.int .i64 1] w fun e w' => e = .returned (.string ⟨#[1]⟩) ∧ Below w.heap.size w w' := by
  have hcv : (convert 83 53 (.slice (some ⟨w.heap.size, 0, none⟩) 1 1)).run Try.prog (w.alloc (.cells #[.int .u8 1] 5)) = .ok (.string ⟨#[1]⟩) (w.alloc (.cells #[.int .u8 1] 5)) := conv_one 53 Try.underlying53 1 w
  go_enter Try.func51, Try.ntmps51
  go_wp2
  refine wp_loop_rounds 2 ?_
  rw [rounds_succ]
  go_wp2
  rw [rounds_succ]
  go_wp2
  go_ret
  exact ⟨rfl, by go_grown⟩
set_option maxRecDepth 100000 in
set_option maxHeartbeats 400000 in
theorem natOf_2 (w : World) : Calls Try.prog 51 #[.int .i64 2] w fun e w' => e = .returned (.string ⟨#[2]⟩) ∧ Below w.heap.size w w' := by
  have hcv : (convert 83 53 (.slice (some ⟨w.heap.size, 0, none⟩) 1 1)).run Try.prog (w.alloc (.cells #[.int .u8 2] 5)) = .ok (.string ⟨#[2]⟩) (w.alloc (.cells #[.int .u8 2] 5)) := conv_one 53 Try.underlying53 2 w
  go_enter Try.func51, Try.ntmps51
  go_wp2
  refine wp_loop_rounds 2 ?_
  rw [rounds_succ]
  go_wp2
  rw [rounds_succ]
  go_wp2
  go_ret
  exact ⟨rfl, by go_grown⟩
set_option maxRecDepth 100000 in
set_option maxHeartbeats 400000 in
theorem natOf_3 (w : World) : Calls Try.prog 51 #[.int .i64 3] w fun e w' => e = .returned (.string ⟨#[3]⟩) ∧ Below w.heap.size w w' := by
  have hcv : (convert 83 53 (.slice (some ⟨w.heap.size, 0, none⟩) 1 1)).run Try.prog (w.alloc (.cells #[.int .u8 3] 5)) = .ok (.string ⟨#[3]⟩) (w.alloc (.cells #[.int .u8 3] 5)) := conv_one 53 Try.underlying53 3 w
  go_enter Try.func51, Try.ntmps51
  go_wp2
  refine wp_loop_rounds 2 ?_
  rw [rounds_succ]
  go_wp2
  rw [rounds_succ]
  go_wp2
  go_ret
  exact ⟨rfl, by go_grown⟩
set_option maxRecDepth 100000 in
set_option maxHeartbeats 400000 in
theorem natOf_4 (w : World) : Calls Try.prog 51 #[.int .i64 4] w fun e w' => e = .returned (.string ⟨#[4]⟩) ∧ Below w.heap.size w w' := by
  have hcv : (convert 83 53 (.slice (some ⟨w.heap.size, 0, none⟩) 1 1)).run Try.prog (w.alloc (.cells #[.int .u8 4] 5)) = .ok (.string ⟨#[4]⟩) (w.alloc (.cells #[.int .u8 4] 5)) := conv_one 53 Try.underlying53 4 w
  go_enter Try.func51, Try.ntmps51
  go_wp2
  refine wp_loop_rounds 2 ?_
  rw [rounds_succ]
  go_wp2
  rw [rounds_succ]
  go_wp2
  go_ret
  exact ⟨rfl, by go_grown⟩
set_option maxRecDepth 100000 in
set_option maxHeartbeats 400000 in
theorem natOf_5 (w : World) : Calls Try.prog 51 #[.int .i64 5] w fun e w' => e = .returned (.string ⟨#[5]⟩) ∧ Below w.heap.size w w' := by
  have hcv : (convert 83 53 (.slice (some ⟨w.heap.size, 0, none⟩) 1 1)).run Try.prog (w.alloc (.cells #[.int .u8 5] 5)) = .ok (.string ⟨#[5]⟩) (w.alloc (.cells #[.int .u8 5] 5)) := conv_one 53 Try.underlying53 5 w
  go_enter Try.func51, Try.ntmps51
  go_wp2
  refine wp_loop_rounds 2 ?_
  rw [rounds_succ]
  go_wp2
  rw [rounds_succ]
  go_wp2
  go_ret
  exact ⟨rfl, by go_grown⟩
set_option maxRecDepth 100000 in
set_option maxHeartbeats 800000 in
theorem natDiv_1_1 (w : World) : Calls Try.prog 66 #[.string ⟨#[1]⟩, .string ⟨#[1]⟩] w fun e w' => e = .returned (.tuple #[.string ⟨#[1]⟩, .string ⟨#[]⟩, .bool true]) ∧ Below w.heap.size w w' := by
  have hw0 : IntKind.i64.wrap 0 = 0 := rfl
  have hw1 : IntKind.i64.wrap 1 = 1 := rfl
  go_enter Try.func66, Try.ntmps66
  go_wp2_with fail
  refine (trim_1 _).mono ?_
  rintro e w' ⟨rfl, rfl⟩
  go_wp2_with fail
  refine (trim_1 _).mono ?_
  rintro e w' ⟨rfl, rfl⟩
  go_wp2_with fail
  refine (short_1 _).mono ?_
  rintro e w' ⟨rfl, rfl⟩
  go_wp2_with fail
  refine (short_1 _).mono ?_
  rintro e w' ⟨rfl, rfl⟩
  go_wp2_with fail
  go_region_with (first
    | (go_at_call_of 51 (Value.int .i64 0); refine (natOf_0 _).mono ?_; rintro e w' ⟨rfl, rfl⟩)
    | (go_at_call_of 51 (Value.int .i64 1); refine (natOf_1 _).mono ?_; rintro e w1 ⟨rfl, hb1⟩))
  all_goals
    go_wp2
    go_ret3
    exact ⟨rfl, by first | exact hb1 | exact ((Below.refl _ _).drew).trans hb1⟩
set_option maxRecDepth 100000 in
set_option maxHeartbeats 800000 in
theorem natDiv_1_10 (w : World) : Calls Try.prog 66 #[.string ⟨#[1]⟩, .string ⟨#[10]⟩] w fun e w' => e = .returned (.tuple #[.string ⟨#[]⟩, .string ⟨#[1]⟩, .bool true]) ∧ Below w.heap.size w w' := by
  have hw0 : IntKind.i64.wrap 0 = 0 := rfl
  have hw1 : IntKind.i64.wrap 1 = 1 := rfl
  go_enter Try.func66, Try.ntmps66
  go_wp2_with fail
  refine (trim_1 _).mono ?_
  rintro e w' ⟨rfl, rfl⟩
  go_wp2_with fail
  refine (trim_10 _).mono ?_
  rintro e w' ⟨rfl, rfl⟩
  go_wp2_with fail
  refine (short_1 _).mono ?_
  rintro e w' ⟨rfl, rfl⟩
  go_wp2_with fail
  refine (short_10 _).mono ?_
  rintro e w' ⟨rfl, rfl⟩
  go_wp2_with fail
  go_region_with (first
    | (go_at_call_of 51 (Value.int .i64 0); refine (natOf_0 _).mono ?_; rintro e w' ⟨rfl, rfl⟩)
    | (go_at_call_of 51 (Value.int .i64 1); refine (natOf_1 _).mono ?_; rintro e w1 ⟨rfl, hb1⟩))
  all_goals
    go_wp2
    go_ret3
    exact ⟨rfl, by first | exact hb1 | exact ((Below.refl _ _).drew).trans hb1⟩
set_option maxRecDepth 100000 in
set_option maxHeartbeats 800000 in
theorem natDiv_2_1 (w : World) : Calls Try.prog 66 #[.string ⟨#[2]⟩, .string ⟨#[1]⟩] w fun e w' => e = .returned (.tuple #[.string ⟨#[2]⟩, .string ⟨#[]⟩, .bool true]) ∧ Below w.heap.size w w' := by
  have hw0 : IntKind.i64.wrap 0 = 0 := rfl
  have hw1 : IntKind.i64.wrap 2 = 2 := rfl
  go_enter Try.func66, Try.ntmps66
  go_wp2_with fail
  refine (trim_2 _).mono ?_
  rintro e w' ⟨rfl, rfl⟩
  go_wp2_with fail
  refine (trim_1 _).mono ?_
  rintro e w' ⟨rfl, rfl⟩
  go_wp2_with fail
  refine (short_2 _).mono ?_
  rintro e w' ⟨rfl, rfl⟩
  go_wp2_with fail
  refine (short_1 _).mono ?_
  rintro e w' ⟨rfl, rfl⟩
  go_wp2_with fail
  go_region_with (first
    | (go_at_call_of 51 (Value.int .i64 0); refine (natOf_0 _).mono ?_; rintro e w' ⟨rfl, rfl⟩)
    | (go_at_call_of 51 (Value.int .i64 2); refine (natOf_2 _).mono ?_; rintro e w1 ⟨rfl, hb1⟩))
  all_goals
    go_wp2
    go_ret3
    exact ⟨rfl, by first | exact hb1 | exact ((Below.refl _ _).drew).trans hb1⟩
set_option maxRecDepth 100000 in
set_option maxHeartbeats 800000 in
theorem natDiv_2_10 (w : World) : Calls Try.prog 66 #[.string ⟨#[2]⟩, .string ⟨#[10]⟩] w fun e w' => e = .returned (.tuple #[.string ⟨#[]⟩, .string ⟨#[2]⟩, .bool true]) ∧ Below w.heap.size w w' := by
  have hw0 : IntKind.i64.wrap 0 = 0 := rfl
  have hw1 : IntKind.i64.wrap 2 = 2 := rfl
  go_enter Try.func66, Try.ntmps66
  go_wp2_with fail
  refine (trim_2 _).mono ?_
  rintro e w' ⟨rfl, rfl⟩
  go_wp2_with fail
  refine (trim_10 _).mono ?_
  rintro e w' ⟨rfl, rfl⟩
  go_wp2_with fail
  refine (short_2 _).mono ?_
  rintro e w' ⟨rfl, rfl⟩
  go_wp2_with fail
  refine (short_10 _).mono ?_
  rintro e w' ⟨rfl, rfl⟩
  go_wp2_with fail
  go_region_with (first
    | (go_at_call_of 51 (Value.int .i64 0); refine (natOf_0 _).mono ?_; rintro e w' ⟨rfl, rfl⟩)
    | (go_at_call_of 51 (Value.int .i64 2); refine (natOf_2 _).mono ?_; rintro e w1 ⟨rfl, hb1⟩))
  all_goals
    go_wp2
    go_ret3
    exact ⟨rfl, by first | exact hb1 | exact ((Below.refl _ _).drew).trans hb1⟩
set_option maxRecDepth 100000 in
set_option maxHeartbeats 800000 in
theorem natDiv_3_1 (w : World) : Calls Try.prog 66 #[.string ⟨#[3]⟩, .string ⟨#[1]⟩] w fun e w' => e = .returned (.tuple #[.string ⟨#[3]⟩, .string ⟨#[]⟩, .bool true]) ∧ Below w.heap.size w w' := by
  have hw0 : IntKind.i64.wrap 0 = 0 := rfl
  have hw1 : IntKind.i64.wrap 3 = 3 := rfl
  go_enter Try.func66, Try.ntmps66
  go_wp2_with fail
  refine (trim_3 _).mono ?_
  rintro e w' ⟨rfl, rfl⟩
  go_wp2_with fail
  refine (trim_1 _).mono ?_
  rintro e w' ⟨rfl, rfl⟩
  go_wp2_with fail
  refine (short_3 _).mono ?_
  rintro e w' ⟨rfl, rfl⟩
  go_wp2_with fail
  refine (short_1 _).mono ?_
  rintro e w' ⟨rfl, rfl⟩
  go_wp2_with fail
  go_region_with (first
    | (go_at_call_of 51 (Value.int .i64 0); refine (natOf_0 _).mono ?_; rintro e w' ⟨rfl, rfl⟩)
    | (go_at_call_of 51 (Value.int .i64 3); refine (natOf_3 _).mono ?_; rintro e w1 ⟨rfl, hb1⟩))
  all_goals
    go_wp2
    go_ret3
    exact ⟨rfl, by first | exact hb1 | exact ((Below.refl _ _).drew).trans hb1⟩
set_option maxRecDepth 100000 in
set_option maxHeartbeats 800000 in
theorem natDiv_3_10 (w : World) : Calls Try.prog 66 #[.string ⟨#[3]⟩, .string ⟨#[10]⟩] w fun e w' => e = .returned (.tuple #[.string ⟨#[]⟩, .string ⟨#[3]⟩, .bool true]) ∧ Below w.heap.size w w' := by
  have hw0 : IntKind.i64.wrap 0 = 0 := rfl
  have hw1 : IntKind.i64.wrap 3 = 3 := rfl
  go_enter Try.func66, Try.ntmps66
  go_wp2_with fail
  refine (trim_3 _).mono ?_
  rintro e w' ⟨rfl, rfl⟩
  go_wp2_with fail
  refine (trim_10 _).mono ?_
  rintro e w' ⟨rfl, rfl⟩
  go_wp2_with fail
  refine (short_3 _).mono ?_
  rintro e w' ⟨rfl, rfl⟩
  go_wp2_with fail
  refine (short_10 _).mono ?_
  rintro e w' ⟨rfl, rfl⟩
  go_wp2_with fail
  go_region_with (first
    | (go_at_call_of 51 (Value.int .i64 0); refine (natOf_0 _).mono ?_; rintro e w' ⟨rfl, rfl⟩)
    | (go_at_call_of 51 (Value.int .i64 3); refine (natOf_3 _).mono ?_; rintro e w1 ⟨rfl, hb1⟩))
  all_goals
    go_wp2
    go_ret3
    exact ⟨rfl, by first | exact hb1 | exact ((Below.refl _ _).drew).trans hb1⟩
set_option maxRecDepth 100000 in
set_option maxHeartbeats 800000 in
theorem natDiv_4_1 (w : World) : Calls Try.prog 66 #[.string ⟨#[4]⟩, .string ⟨#[1]⟩] w fun e w' => e = .returned (.tuple #[.string ⟨#[4]⟩, .string ⟨#[]⟩, .bool true]) ∧ Below w.heap.size w w' := by
  have hw0 : IntKind.i64.wrap 0 = 0 := rfl
  have hw1 : IntKind.i64.wrap 4 = 4 := rfl
  go_enter Try.func66, Try.ntmps66
  go_wp2_with fail
  refine (trim_4 _).mono ?_
  rintro e w' ⟨rfl, rfl⟩
  go_wp2_with fail
  refine (trim_1 _).mono ?_
  rintro e w' ⟨rfl, rfl⟩
  go_wp2_with fail
  refine (short_4 _).mono ?_
  rintro e w' ⟨rfl, rfl⟩
  go_wp2_with fail
  refine (short_1 _).mono ?_
  rintro e w' ⟨rfl, rfl⟩
  go_wp2_with fail
  go_region_with (first
    | (go_at_call_of 51 (Value.int .i64 0); refine (natOf_0 _).mono ?_; rintro e w' ⟨rfl, rfl⟩)
    | (go_at_call_of 51 (Value.int .i64 4); refine (natOf_4 _).mono ?_; rintro e w1 ⟨rfl, hb1⟩))
  all_goals
    go_wp2
    go_ret3
    exact ⟨rfl, by first | exact hb1 | exact ((Below.refl _ _).drew).trans hb1⟩
set_option maxRecDepth 100000 in
set_option maxHeartbeats 800000 in
theorem natDiv_4_10 (w : World) : Calls Try.prog 66 #[.string ⟨#[4]⟩, .string ⟨#[10]⟩] w fun e w' => e = .returned (.tuple #[.string ⟨#[]⟩, .string ⟨#[4]⟩, .bool true]) ∧ Below w.heap.size w w' := by
  have hw0 : IntKind.i64.wrap 0 = 0 := rfl
  have hw1 : IntKind.i64.wrap 4 = 4 := rfl
  go_enter Try.func66, Try.ntmps66
  go_wp2_with fail
  refine (trim_4 _).mono ?_
  rintro e w' ⟨rfl, rfl⟩
  go_wp2_with fail
  refine (trim_10 _).mono ?_
  rintro e w' ⟨rfl, rfl⟩
  go_wp2_with fail
  refine (short_4 _).mono ?_
  rintro e w' ⟨rfl, rfl⟩
  go_wp2_with fail
  refine (short_10 _).mono ?_
  rintro e w' ⟨rfl, rfl⟩
  go_wp2_with fail
  go_region_with (first
    | (go_at_call_of 51 (Value.int .i64 0); refine (natOf_0 _).mono ?_; rintro e w' ⟨rfl, rfl⟩)
    | (go_at_call_of 51 (Value.int .i64 4); refine (natOf_4 _).mono ?_; rintro e w1 ⟨rfl, hb1⟩))
  all_goals
    go_wp2
    go_ret3
    exact ⟨rfl, by first | exact hb1 | exact ((Below.refl _ _).drew).trans hb1⟩
set_option maxRecDepth 100000 in
set_option maxHeartbeats 800000 in
theorem natDiv_5_1 (w : World) : Calls Try.prog 66 #[.string ⟨#[5]⟩, .string ⟨#[1]⟩] w fun e w' => e = .returned (.tuple #[.string ⟨#[5]⟩, .string ⟨#[]⟩, .bool true]) ∧ Below w.heap.size w w' := by
  have hw0 : IntKind.i64.wrap 0 = 0 := rfl
  have hw1 : IntKind.i64.wrap 5 = 5 := rfl
  go_enter Try.func66, Try.ntmps66
  go_wp2_with fail
  refine (trim_5 _).mono ?_
  rintro e w' ⟨rfl, rfl⟩
  go_wp2_with fail
  refine (trim_1 _).mono ?_
  rintro e w' ⟨rfl, rfl⟩
  go_wp2_with fail
  refine (short_5 _).mono ?_
  rintro e w' ⟨rfl, rfl⟩
  go_wp2_with fail
  refine (short_1 _).mono ?_
  rintro e w' ⟨rfl, rfl⟩
  go_wp2_with fail
  go_region_with (first
    | (go_at_call_of 51 (Value.int .i64 0); refine (natOf_0 _).mono ?_; rintro e w' ⟨rfl, rfl⟩)
    | (go_at_call_of 51 (Value.int .i64 5); refine (natOf_5 _).mono ?_; rintro e w1 ⟨rfl, hb1⟩))
  all_goals
    go_wp2
    go_ret3
    exact ⟨rfl, by first | exact hb1 | exact ((Below.refl _ _).drew).trans hb1⟩
set_option maxRecDepth 100000 in
set_option maxHeartbeats 800000 in
theorem natDiv_5_10 (w : World) : Calls Try.prog 66 #[.string ⟨#[5]⟩, .string ⟨#[10]⟩] w fun e w' => e = .returned (.tuple #[.string ⟨#[]⟩, .string ⟨#[5]⟩, .bool true]) ∧ Below w.heap.size w w' := by
  have hw0 : IntKind.i64.wrap 0 = 0 := rfl
  have hw1 : IntKind.i64.wrap 5 = 5 := rfl
  go_enter Try.func66, Try.ntmps66
  go_wp2_with fail
  refine (trim_5 _).mono ?_
  rintro e w' ⟨rfl, rfl⟩
  go_wp2_with fail
  refine (trim_10 _).mono ?_
  rintro e w' ⟨rfl, rfl⟩
  go_wp2_with fail
  refine (short_5 _).mono ?_
  rintro e w' ⟨rfl, rfl⟩
  go_wp2_with fail
  refine (short_10 _).mono ?_
  rintro e w' ⟨rfl, rfl⟩
  go_wp2_with fail
  go_region_with (first
    | (go_at_call_of 51 (Value.int .i64 0); refine (natOf_0 _).mono ?_; rintro e w' ⟨rfl, rfl⟩)
    | (go_at_call_of 51 (Value.int .i64 5); refine (natOf_5 _).mono ?_; rintro e w1 ⟨rfl, hb1⟩))
  all_goals
    go_wp2
    go_ret3
    exact ⟨rfl, by first | exact hb1 | exact ((Below.refl _ _).drew).trans hb1⟩
end Go.Proofs.Ytodbnjainpjkcaa
