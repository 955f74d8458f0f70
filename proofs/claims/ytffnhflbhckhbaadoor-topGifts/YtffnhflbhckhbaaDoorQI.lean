import Derived.Test.YtffnhflbhckhbaaDoorQG
import Derived.Test.YtffnhflbhckhbaaDoorI
namespace Go.Proofs.YtffnhflbhckhbaaDoor
open Go.RowKit Go.Shelf
attribute [local go_sem] Oper.semAt_some
theorem and_bit0 : ∀ s : Nat, s < 256 → ∀ x : Nat, x < 8 → (bits .and .i64 ((s : Int) / 2 ^ x) 1 == 0) = !s.testBit x := by decide +kernel
theorem or_bitW : ∀ s : Nat, s < 256 → ∀ x : Nat, x < 8 → bits .or .i64 (s : Int) (IntKind.i64.wrap (2 ^ x)) = ((s ||| 2 ^ x : Nat) : Int) := by decide +kernel
def D6 : List (List Nat) := [[], [], [0, 1], [2], [3], [4], [5], [5], [5], [8, 5], [7, 9, 5, 5], [5], [5], [12, 5], [11, 13, 5], [6, 10, 14, 10, 5], [15, 5], [5, 16]]
def S6 : List (Option Tmp) := [some 42, some 43, some 44, some 45, some 46, some 47, some 48, some 49, some 50, some 51, some 52, some 53, some 54, some 55, some 56, some 57, some 58, some 59]
def growV (Bm Bs By Bg : Nat) : Value := .func (.func 32) #[] #[.pointer (some ⟨Bm, 0, none⟩), .pointer (some ⟨Bs, 0, none⟩), .pointer (some ⟨By, 0, none⟩), .pointer (some ⟨Bg, 0, none⟩)]
def V6U (u k : Nat) : List (Option Value) := [some (.int .i64 (u : Int)), some (.int .i64 (k : Int)), some (.int .i64 ((u : Int) / 2 ^ k)), some (.int .i64 (bits .and .i64 ((u : Int) / 2 ^ k) 1)), some (.bool false), some (.bool false), some undef, some undef, some undef, some undef, some undef, some undef, some undef, some undef, some undef, some undef, some undef, some (.bool false)]
set_option maxRecDepth 100000 in
set_option maxHeartbeats 4000000 in
theorem steps6U {m : Nat} {W : World} {u k : Nat} {t0 : Array Value} (h1 : t0[1]? = some (.int .i64 (u : Int))) (h10 : t0[10]? = some (.int .i64 (k : Int))) (hu : u < 256) (hk : k < 8) (hbit : u.testBit k = true)
    {o0 o1 o2 o3 o4 o5 o6 o7 o8 o9 o10 o11 o12 o13 o14 o15 o16 o17 : Oper}
    (e0 : o0.op = .move (.tmp 1)) (e1 : o1.op = .move (.tmp 10)) (e2 : o2.op = .binOp .shr 3 (.tmp 42) (.tmp 43) 3) (e3 : o3.op = .binOp .and 3 (.tmp 44) (.const (.int .i64 1)) 3) (e4 : o4.op = .binOp .eql 3 (.tmp 45) (.const (.int .i64 0)) 3) (e5 : o5.op = .move (.tmp 46)) (e6 : o6.op = .load 63 (.tmp 5)) (e7 : o7.op = .move (.tmp 0)) (e8 : o8.op = .move (.tmp 10)) (e9 : o9.op = .buildSlice 34 1 #[(0, .tmp 50)]) (e10 : o10.op = .call { callee := .builtin .append, args := #[.tmp 49, .tmp 51], argTypes := #[34, 34] }) (e11 : o11.op = .move (.tmp 1)) (e12 : o12.op = .move (.tmp 10)) (e13 : o13.op = .binOp .shl 3 (.const (.int .i64 1)) (.tmp 54) 3) (e14 : o14.op = .binOp .or 3 (.tmp 53) (.tmp 55) 3) (e15 : o15.op = .call { callee := .value (.tmp 48), args := #[.tmp 52, .tmp 56], argTypes := #[34, 3] }) (e16 : o16.op = .unOp .not 4 (.tmp 57)) (e17 : o17.op = .pick (.tmp 47) (.tmp 58) (.const (.bool false)))
    (g0 : o0.guard = none) (g1 : o1.guard = none) (g2 : o2.guard = none) (g3 : o3.guard = none) (g4 : o4.guard = none) (g5 : o5.guard = none) (g6 : o6.guard = some (5, true)) (g7 : o7.guard = some (5, true)) (g8 : o8.guard = some (5, true)) (g9 : o9.guard = some (5, true)) (g10 : o10.guard = some (5, true)) (g11 : o11.guard = some (5, true)) (g12 : o12.guard = some (5, true)) (g13 : o13.guard = some (5, true)) (g14 : o14.guard = some (5, true)) (g15 : o15.guard = some (5, true)) (g16 : o16.guard = some (5, true)) (g17 : o17.guard = none) :
    StepsV Fence.wide m Tryd.prog (fun l vals w => Det (V6U u k) l vals ∧ (Below W.heap.size W w)) D6 S6 t0 0 [o0, o1, o2, o3, o4, o5, o6, o7, o8, o9, o10, o11, o12, o13, o14, o15, o16, o17] := by
  have hab := and_bit0 u hu k hk
  rw [hbit] at hab
  refine ⟨?_, ?_, ?_, ?_, ?_, ?_, ?_, ?_, ?_, ?_, ?_, ?_, ?_, ?_, ?_, ?_, ?_, ?_, trivial⟩
  · rintro l vals w ⟨hDt, hM⟩ hl hdn hdi
    refine ⟨(fun c h => by rw [e0] at h; cases h), fun _ => ?_, fun h => absurd h (by simp [wantV, g0])⟩
    simp [upV, go_sem, e0, evV, S6, lookV, h1]
    exact ⟨hDt.step (fun v' h => by simpa [V6U] using h), hM⟩
  · rintro l vals w ⟨hDt, hM⟩ hl hdn hdi
    refine ⟨(fun c h => by rw [e1] at h; cases h), fun _ => ?_, fun h => absurd h (by simp [wantV, g1])⟩
    simp [upV, go_sem, e1, evV, S6, lookV, h10]
    exact ⟨hDt.step (fun v' h => by simpa [V6U] using h), hM⟩
  · rintro l vals w ⟨hDt, hM⟩ hl hdn hdi
    refine ⟨(fun c h => by rw [e2] at h; cases h), fun _ => ?_, fun h => absurd h (by simp [wantV, g2])⟩
    have d0 := hdi 0 (by decide)
    have v0 := hDt 0 _ rfl d0
    have d1 := hdi 1 (by decide)
    have v1 := hDt 1 _ rfl d1
    simp [upV, go_sem, e2, evV, S6, lookV, d0, v0, d1, v1]
    exact ⟨hDt.step (fun v' h => by simpa [V6U] using h), hM⟩
  · rintro l vals w ⟨hDt, hM⟩ hl hdn hdi
    refine ⟨(fun c h => by rw [e3] at h; cases h), fun _ => ?_, fun h => absurd h (by simp [wantV, g3])⟩
    have d2 := hdi 2 (by decide)
    have v2 := hDt 2 _ rfl d2
    simp [upV, go_sem, e3, evV, S6, lookV, d2, v2]
    exact ⟨hDt.step (fun v' h => by simpa [V6U] using h), hM⟩
  · rintro l vals w ⟨hDt, hM⟩ hl hdn hdi
    refine ⟨(fun c h => by rw [e4] at h; cases h), fun _ => ?_, fun h => absurd h (by simp [wantV, g4])⟩
    have d3 := hdi 3 (by decide)
    have v3 := hDt 3 _ rfl d3
    simp [upV, go_sem, e4, evV, S6, lookV, d3, v3, hab]
    exact ⟨hDt.step (fun v' h => by simpa [V6U] using h), hM⟩
  · rintro l vals w ⟨hDt, hM⟩ hl hdn hdi
    refine ⟨(fun c h => by rw [e5] at h; cases h), fun _ => ?_, fun h => absurd h (by simp [wantV, g5])⟩
    have d4 := hdi 4 (by decide)
    have v4 := hDt 4 _ rfl d4
    simp [upV, go_sem, e5, evV, S6, lookV, d4, v4]
    exact ⟨hDt.step (fun v' h => by simpa [V6U] using h), hM⟩
  · rintro l vals w ⟨hDt, hM⟩ hl hdn hdi
    have d5 := hdi 5 (by decide)
    have v5 := hDt 5 _ rfl d5
    refine ⟨(fun c h => by rw [e6] at h; cases h), fun h => absurd h (by simp [wantV, g6, isB, v5]), fun _ => ⟨hDt.step (fun v' h => by simpa [V6U] using h), hM⟩⟩
  · rintro l vals w ⟨hDt, hM⟩ hl hdn hdi
    have d5 := hdi 5 (by decide)
    have v5 := hDt 5 _ rfl d5
    refine ⟨(fun c h => by rw [e7] at h; cases h), fun h => absurd h (by simp [wantV, g7, isB, v5]), fun _ => ⟨hDt.step (fun v' h => by simpa [V6U] using h), hM⟩⟩
  · rintro l vals w ⟨hDt, hM⟩ hl hdn hdi
    have d5 := hdi 5 (by decide)
    have v5 := hDt 5 _ rfl d5
    refine ⟨(fun c h => by rw [e8] at h; cases h), fun h => absurd h (by simp [wantV, g8, isB, v5]), fun _ => ⟨hDt.step (fun v' h => by simpa [V6U] using h), hM⟩⟩
  · rintro l vals w ⟨hDt, hM⟩ hl hdn hdi
    have d5 := hdi 5 (by decide)
    have v5 := hDt 5 _ rfl d5
    refine ⟨(fun c h => by rw [e9] at h; cases h), fun h => absurd h (by simp [wantV, g9, isB, v5]), fun _ => ⟨hDt.step (fun v' h => by simpa [V6U] using h), hM⟩⟩
  · rintro l vals w ⟨hDt, hM⟩ hl hdn hdi
    have d5 := hdi 5 (by decide)
    have v5 := hDt 5 _ rfl d5
    refine ⟨(fun c h => by rw [e10] at h; cases h), fun h => absurd h (by simp [wantV, g10, isB, v5]), fun _ => ⟨hDt.step (fun v' h => by simpa [V6U] using h), hM⟩⟩
  · rintro l vals w ⟨hDt, hM⟩ hl hdn hdi
    have d5 := hdi 5 (by decide)
    have v5 := hDt 5 _ rfl d5
    refine ⟨(fun c h => by rw [e11] at h; cases h), fun h => absurd h (by simp [wantV, g11, isB, v5]), fun _ => ⟨hDt.step (fun v' h => by simpa [V6U] using h), hM⟩⟩
  · rintro l vals w ⟨hDt, hM⟩ hl hdn hdi
    have d5 := hdi 5 (by decide)
    have v5 := hDt 5 _ rfl d5
    refine ⟨(fun c h => by rw [e12] at h; cases h), fun h => absurd h (by simp [wantV, g12, isB, v5]), fun _ => ⟨hDt.step (fun v' h => by simpa [V6U] using h), hM⟩⟩
  · rintro l vals w ⟨hDt, hM⟩ hl hdn hdi
    have d5 := hdi 5 (by decide)
    have v5 := hDt 5 _ rfl d5
    refine ⟨(fun c h => by rw [e13] at h; cases h), fun h => absurd h (by simp [wantV, g13, isB, v5]), fun _ => ⟨hDt.step (fun v' h => by simpa [V6U] using h), hM⟩⟩
  · rintro l vals w ⟨hDt, hM⟩ hl hdn hdi
    have d5 := hdi 5 (by decide)
    have v5 := hDt 5 _ rfl d5
    refine ⟨(fun c h => by rw [e14] at h; cases h), fun h => absurd h (by simp [wantV, g14, isB, v5]), fun _ => ⟨hDt.step (fun v' h => by simpa [V6U] using h), hM⟩⟩
  · rintro l vals w ⟨hDt, hM⟩ hl hdn hdi
    have d5 := hdi 5 (by decide)
    have v5 := hDt 5 _ rfl d5
    refine ⟨(fun c h => by rw [e15] at h; cases h), fun h => absurd h (by simp [wantV, g15, isB, v5]), fun _ => ⟨hDt.step (fun v' h => by simpa [V6U] using h), hM⟩⟩
  · rintro l vals w ⟨hDt, hM⟩ hl hdn hdi
    have d5 := hdi 5 (by decide)
    have v5 := hDt 5 _ rfl d5
    refine ⟨(fun c h => by rw [e16] at h; cases h), fun h => absurd h (by simp [wantV, g16, isB, v5]), fun _ => ⟨hDt.step (fun v' h => by simpa [V6U] using h), hM⟩⟩
  · rintro l vals w ⟨hDt, hM⟩ hl hdn hdi
    refine ⟨(fun c h => by rw [e17] at h; cases h), fun _ => ?_, fun h => absurd h (by simp [wantV, g17])⟩
    have d5 := hdi 5 (by decide)
    have v5 := hDt 5 _ rfl d5
    have d16 := hdi 16 (by decide)
    have v16 := hDt 16 _ rfl d16
    simp [upV, go_sem, e17, evV, S6, lookV, d5, v5, d16, v16]
    exact ⟨hDt.step (fun v' h => by simpa [V6U] using h), hM⟩
def V6F (u k : Nat) (a : Option Addr) (d cp Bm Bs By Bg : Nat) : List (Option Value) := [some (.int .i64 (u : Int)), some (.int .i64 (k : Int)), some (.int .i64 ((u : Int) / 2 ^ k)), some (.int .i64 (bits .and .i64 ((u : Int) / 2 ^ k) 1)), some (.bool true), some (.bool true), some (growV Bm Bs By Bg), some (.slice a d cp), some (.int .i64 (k : Int)), none, none, some (.int .i64 (u : Int)), some (.int .i64 (k : Int)), some (.int .i64 (IntKind.i64.wrap (2 ^ k))), some (.int .i64 ((u ||| 2 ^ k : Nat) : Int)), some (.bool true), some (.bool false), some (.bool false)]
set_option maxRecDepth 100000 in
set_option maxHeartbeats 4000000 in
theorem steps6F {m : Nat} {W : World} {u k : Nat} {a : Option Addr} {d cp Bm Bs By Bg : Nat} {c : List Int} {R : World → Prop} {t0 : Array Value} (h0 : t0[0]? = some (.slice a d cp)) (h1 : t0[1]? = some (.int .i64 (u : Int))) (h10 : t0[10]? = some (.int .i64 (k : Int))) (h5 : t0[5]? = some (.pointer (some ⟨Bg, 0, none⟩))) (hu : u < 256) (hk : k < 8) (hbit : u.testBit k = false) (hd9 : d ≤ 1000) (hlg : Bg < W.heap.size) (hcg : W.cell? ⟨Bg, 0, none⟩ = some (growV Bm Bs By Bg)) (ho : W.ownsRow 0 3 1 (.slice a d cp) d (intVals c)) (hRec : ∀ (X : World) (v2 : Value) (w2 : World), Below W.heap.size W X → X.ownsRow 0 3 1 (.slice a d cp) d (intVals c) → w2.ownsRow 0 3 1 v2 (d + 1) (intVals (c ++ [(k : Int)])) → X.grownBy w2 (Value.slice a d cp).ownBlock → ((∃ g cap, Value.slice a d cp = .slice (some ⟨g, 0, none⟩) d cap ∧ v2 = .slice (some ⟨g, 0, none⟩) (d + 1) cap) ∨ (v2.ownBlock = some X.heap.size ∧ Below X.heap.size X w2)) → w2.cell? ⟨Bg, 0, none⟩ = some (growV Bm Bs By Bg) ∧ Calls Tryd.prog 32 #[v2, .int .i64 ((u ||| 2 ^ k : Nat) : Int), .pointer (some ⟨Bm, 0, none⟩), .pointer (some ⟨Bs, 0, none⟩), .pointer (some ⟨By, 0, none⟩), .pointer (some ⟨Bg, 0, none⟩)] w2 fun e w3 => e = .returned (.bool true) ∧ R w3)
    {o0 o1 o2 o3 o4 o5 o6 o7 o8 o9 o10 o11 o12 o13 o14 o15 o16 o17 : Oper}
    (e0 : o0.op = .move (.tmp 1)) (e1 : o1.op = .move (.tmp 10)) (e2 : o2.op = .binOp .shr 3 (.tmp 42) (.tmp 43) 3) (e3 : o3.op = .binOp .and 3 (.tmp 44) (.const (.int .i64 1)) 3) (e4 : o4.op = .binOp .eql 3 (.tmp 45) (.const (.int .i64 0)) 3) (e5 : o5.op = .move (.tmp 46)) (e6 : o6.op = .load 63 (.tmp 5)) (e7 : o7.op = .move (.tmp 0)) (e8 : o8.op = .move (.tmp 10)) (e9 : o9.op = .buildSlice 34 1 #[(0, .tmp 50)]) (e10 : o10.op = .call { callee := .builtin .append, args := #[.tmp 49, .tmp 51], argTypes := #[34, 34] }) (e11 : o11.op = .move (.tmp 1)) (e12 : o12.op = .move (.tmp 10)) (e13 : o13.op = .binOp .shl 3 (.const (.int .i64 1)) (.tmp 54) 3) (e14 : o14.op = .binOp .or 3 (.tmp 53) (.tmp 55) 3) (e15 : o15.op = .call { callee := .value (.tmp 48), args := #[.tmp 52, .tmp 56], argTypes := #[34, 3] }) (e16 : o16.op = .unOp .not 4 (.tmp 57)) (e17 : o17.op = .pick (.tmp 47) (.tmp 58) (.const (.bool false)))
    (g0 : o0.guard = none) (g1 : o1.guard = none) (g2 : o2.guard = none) (g3 : o3.guard = none) (g4 : o4.guard = none) (g5 : o5.guard = none) (g6 : o6.guard = some (5, true)) (g7 : o7.guard = some (5, true)) (g8 : o8.guard = some (5, true)) (g9 : o9.guard = some (5, true)) (g10 : o10.guard = some (5, true)) (g11 : o11.guard = some (5, true)) (g12 : o12.guard = some (5, true)) (g13 : o13.guard = some (5, true)) (g14 : o14.guard = some (5, true)) (g15 : o15.guard = some (5, true)) (g16 : o16.guard = some (5, true)) (g17 : o17.guard = none) :
    StepsV Fence.wide m Tryd.prog (fun l vals w => Det (V6F u k a d cp Bm Bs By Bg) l vals ∧ ((l 10 = false → Below W.heap.size W w ∧ (l 9 = true → ∃ g, vals 9 = .slice (some ⟨g, 0, none⟩) 1 1 ∧ w.cell? ⟨g, 0, none⟩ = some (.int .i64 (k : Int)))) ∧ (l 10 = true → l 15 = false → w.cell? ⟨Bg, 0, none⟩ = some (growV Bm Bs By Bg) ∧ Calls Tryd.prog 32 #[vals 10, .int .i64 ((u ||| 2 ^ k : Nat) : Int), .pointer (some ⟨Bm, 0, none⟩), .pointer (some ⟨Bs, 0, none⟩), .pointer (some ⟨By, 0, none⟩), .pointer (some ⟨Bg, 0, none⟩)] w fun e w3 => e = .returned (.bool true) ∧ R w3) ∧ (l 15 = true → R w))) D6 S6 t0 0 [o0, o1, o2, o3, o4, o5, o6, o7, o8, o9, o10, o11, o12, o13, o14, o15, o16, o17] := by
  have hab := and_bit0 u hu k hk
  rw [hbit] at hab
  have hor : bits .or .i64 (u : Int) (IntKind.i64.wrap (2 ^ k)) = ((u ||| 2 ^ k : Nat) : Int) := or_bitW u hu k hk
  refine ⟨?_, ?_, ?_, ?_, ?_, ?_, ?_, ?_, ?_, ?_, ?_, ?_, ?_, ?_, ?_, ?_, ?_, ?_, trivial⟩
  · rintro l vals w ⟨hDt, hM⟩ hl hdn hdi
    refine ⟨(fun c h => by rw [e0] at h; cases h), fun _ => ?_, fun h => absurd h (by simp [wantV, g0])⟩
    simp [upV, go_sem, e0, evV, S6, lookV, h1]
    exact ⟨hDt.step (fun v' h => by simpa [V6F] using h), ⟨fun q => ⟨(hM.1 (by simpa [updB] using q)).1, fun q2 => by obtain ⟨g, k1, k2⟩ := (hM.1 (by simpa [updB] using q)).2 (by simpa [updB] using q2); exact ⟨g, by simpa [updV] using k1, k2⟩⟩, fun q q2 => by have := hM.2.1 (by simpa [updB] using q) (by simpa [updB] using q2); simpa [updV] using this, fun q => hM.2.2 (by simpa [updB] using q)⟩⟩
  · rintro l vals w ⟨hDt, hM⟩ hl hdn hdi
    refine ⟨(fun c h => by rw [e1] at h; cases h), fun _ => ?_, fun h => absurd h (by simp [wantV, g1])⟩
    simp [upV, go_sem, e1, evV, S6, lookV, h10]
    exact ⟨hDt.step (fun v' h => by simpa [V6F] using h), ⟨fun q => ⟨(hM.1 (by simpa [updB] using q)).1, fun q2 => by obtain ⟨g, k1, k2⟩ := (hM.1 (by simpa [updB] using q)).2 (by simpa [updB] using q2); exact ⟨g, by simpa [updV] using k1, k2⟩⟩, fun q q2 => by have := hM.2.1 (by simpa [updB] using q) (by simpa [updB] using q2); simpa [updV] using this, fun q => hM.2.2 (by simpa [updB] using q)⟩⟩
  · rintro l vals w ⟨hDt, hM⟩ hl hdn hdi
    refine ⟨(fun c h => by rw [e2] at h; cases h), fun _ => ?_, fun h => absurd h (by simp [wantV, g2])⟩
    have d0 := hdi 0 (by decide)
    have v0 := hDt 0 _ rfl d0
    have d1 := hdi 1 (by decide)
    have v1 := hDt 1 _ rfl d1
    simp [upV, go_sem, e2, evV, S6, lookV, d0, v0, d1, v1]
    exact ⟨hDt.step (fun v' h => by simpa [V6F] using h), ⟨fun q => ⟨(hM.1 (by simpa [updB] using q)).1, fun q2 => by obtain ⟨g, k1, k2⟩ := (hM.1 (by simpa [updB] using q)).2 (by simpa [updB] using q2); exact ⟨g, by simpa [updV] using k1, k2⟩⟩, fun q q2 => by have := hM.2.1 (by simpa [updB] using q) (by simpa [updB] using q2); simpa [updV] using this, fun q => hM.2.2 (by simpa [updB] using q)⟩⟩
  · rintro l vals w ⟨hDt, hM⟩ hl hdn hdi
    refine ⟨(fun c h => by rw [e3] at h; cases h), fun _ => ?_, fun h => absurd h (by simp [wantV, g3])⟩
    have d2 := hdi 2 (by decide)
    have v2 := hDt 2 _ rfl d2
    simp [upV, go_sem, e3, evV, S6, lookV, d2, v2]
    exact ⟨hDt.step (fun v' h => by simpa [V6F] using h), ⟨fun q => ⟨(hM.1 (by simpa [updB] using q)).1, fun q2 => by obtain ⟨g, k1, k2⟩ := (hM.1 (by simpa [updB] using q)).2 (by simpa [updB] using q2); exact ⟨g, by simpa [updV] using k1, k2⟩⟩, fun q q2 => by have := hM.2.1 (by simpa [updB] using q) (by simpa [updB] using q2); simpa [updV] using this, fun q => hM.2.2 (by simpa [updB] using q)⟩⟩
  · rintro l vals w ⟨hDt, hM⟩ hl hdn hdi
    refine ⟨(fun c h => by rw [e4] at h; cases h), fun _ => ?_, fun h => absurd h (by simp [wantV, g4])⟩
    have d3 := hdi 3 (by decide)
    have v3 := hDt 3 _ rfl d3
    simp [upV, go_sem, e4, evV, S6, lookV, d3, v3, hab]
    exact ⟨hDt.step (fun v' h => by simpa [V6F] using h), ⟨fun q => ⟨(hM.1 (by simpa [updB] using q)).1, fun q2 => by obtain ⟨g, k1, k2⟩ := (hM.1 (by simpa [updB] using q)).2 (by simpa [updB] using q2); exact ⟨g, by simpa [updV] using k1, k2⟩⟩, fun q q2 => by have := hM.2.1 (by simpa [updB] using q) (by simpa [updB] using q2); simpa [updV] using this, fun q => hM.2.2 (by simpa [updB] using q)⟩⟩
  · rintro l vals w ⟨hDt, hM⟩ hl hdn hdi
    refine ⟨(fun c h => by rw [e5] at h; cases h), fun _ => ?_, fun h => absurd h (by simp [wantV, g5])⟩
    have d4 := hdi 4 (by decide)
    have v4 := hDt 4 _ rfl d4
    simp [upV, go_sem, e5, evV, S6, lookV, d4, v4]
    exact ⟨hDt.step (fun v' h => by simpa [V6F] using h), ⟨fun q => ⟨(hM.1 (by simpa [updB] using q)).1, fun q2 => by obtain ⟨g, k1, k2⟩ := (hM.1 (by simpa [updB] using q)).2 (by simpa [updB] using q2); exact ⟨g, by simpa [updV] using k1, k2⟩⟩, fun q q2 => by have := hM.2.1 (by simpa [updB] using q) (by simpa [updB] using q2); simpa [updV] using this, fun q => hM.2.2 (by simpa [updB] using q)⟩⟩
  · rintro l vals w ⟨hDt, hM⟩ hl hdn hdi
    have d5 := hdi 5 (by decide)
    have v5 := hDt 5 _ rfl d5
    refine ⟨(fun c h => by rw [e6] at h; cases h), fun _ => ?_, fun h => absurd h (by simp [wantV, g6, isB, v5])⟩
    have c2 : w.cell? ⟨Bg, 0, none⟩ = some (growV Bm Bs By Bg) := by
      cases q10 : l 10 with
      | false => exact ((hM.1 q10).1.cell (p := ⟨Bg, 0, none⟩) hlg).trans hcg
      | true =>
        have l15 : l 15 = false := by
          cases q0 : l 15 with
          | false => rfl
          | true =>
            have q1 := hdn 15 q0 6 (by decide)
            exact absurd (hl.symm.trans q1) (by simp)
        exact (hM.2.1 q10 l15).1
    simp [upV, go_sem, e6, evV, S6, lookV, h5, c2]
    exact ⟨hDt.step (fun v' h => by simpa [V6F] using h), ⟨fun q => ⟨(hM.1 (by simpa [updB] using q)).1, fun q2 => by obtain ⟨g, k1, k2⟩ := (hM.1 (by simpa [updB] using q)).2 (by simpa [updB] using q2); exact ⟨g, by simpa [updV] using k1, k2⟩⟩, fun q q2 => by have := hM.2.1 (by simpa [updB] using q) (by simpa [updB] using q2); simpa [updV, c2] using this, fun q => hM.2.2 (by simpa [updB] using q)⟩⟩
  · rintro l vals w ⟨hDt, hM⟩ hl hdn hdi
    have d5 := hdi 5 (by decide)
    have v5 := hDt 5 _ rfl d5
    refine ⟨(fun c h => by rw [e7] at h; cases h), fun _ => ?_, fun h => absurd h (by simp [wantV, g7, isB, v5])⟩
    simp [upV, go_sem, e7, evV, S6, lookV, h0]
    exact ⟨hDt.step (fun v' h => by simpa [V6F] using h), ⟨fun q => ⟨(hM.1 (by simpa [updB] using q)).1, fun q2 => by obtain ⟨g, k1, k2⟩ := (hM.1 (by simpa [updB] using q)).2 (by simpa [updB] using q2); exact ⟨g, by simpa [updV] using k1, k2⟩⟩, fun q q2 => by have := hM.2.1 (by simpa [updB] using q) (by simpa [updB] using q2); simpa [updV] using this, fun q => hM.2.2 (by simpa [updB] using q)⟩⟩
  · rintro l vals w ⟨hDt, hM⟩ hl hdn hdi
    have d5 := hdi 5 (by decide)
    have v5 := hDt 5 _ rfl d5
    refine ⟨(fun c h => by rw [e8] at h; cases h), fun _ => ?_, fun h => absurd h (by simp [wantV, g8, isB, v5])⟩
    simp [upV, go_sem, e8, evV, S6, lookV, h10]
    exact ⟨hDt.step (fun v' h => by simpa [V6F] using h), ⟨fun q => ⟨(hM.1 (by simpa [updB] using q)).1, fun q2 => by obtain ⟨g, k1, k2⟩ := (hM.1 (by simpa [updB] using q)).2 (by simpa [updB] using q2); exact ⟨g, by simpa [updV] using k1, k2⟩⟩, fun q q2 => by have := hM.2.1 (by simpa [updB] using q) (by simpa [updB] using q2); simpa [updV] using this, fun q => hM.2.2 (by simpa [updB] using q)⟩⟩
  · rintro l vals w ⟨hDt, hM⟩ hl hdn hdi
    have d5 := hdi 5 (by decide)
    have v5 := hDt 5 _ rfl d5
    refine ⟨(fun c h => by rw [e9] at h; cases h), fun _ => ?_, fun h => absurd h (by simp [wantV, g9, isB, v5])⟩
    have d8 := hdi 8 (by decide)
    have v8 := hDt 8 _ rfl d8
    have l10 : l 10 = false := by
      cases q0 : l 10 with
      | false => rfl
      | true =>
        have q1 := hdn 10 q0 9 (by decide)
        exact absurd (hl.symm.trans q1) (by simp)
    have l15 : l 15 = false := by
      cases q0 : l 15 with
      | false => rfl
      | true =>
        have q1 := hdn 15 q0 10 (by decide)
        have q2 := hdn 10 q1 9 (by decide)
        exact absurd (hl.symm.trans q2) (by simp)
    have hb := (hM.1 l10).1
    simp [upV, go_sem, e9, evV, S6, lookV, d8, v8]
    refine ⟨hDt.step (fun v' h => by simp [V6F] at h), fun _ => ⟨hb.alloc hb.size _, fun _ => ⟨w.heap.size, by simp [updV], by simp⟩⟩, fun q => absurd q (by simp [updB, l10]), fun q => absurd q (by simp [updB, l15])⟩
  · rintro l vals w ⟨hDt, hM⟩ hl hdn hdi
    have d5 := hdi 5 (by decide)
    have v5 := hDt 5 _ rfl d5
    refine ⟨(fun c h => by rw [e10] at h; cases h), fun _ => ?_, fun h => absurd h (by simp [wantV, g10, isB, v5])⟩
    have d7 := hdi 7 (by decide)
    have v7 := hDt 7 _ rfl d7
    have d9 := hdi 9 (by decide)
    obtain ⟨hb, hc⟩ := hM.1 hl
    obtain ⟨g, v9, c9⟩ := hc d9
    have l15 : l 15 = false := by
      cases q0 : l 15 with
      | false => rfl
      | true =>
        have q1 := hdn 15 q0 10 (by decide)
        exact absurd (hl.symm.trans q1) (by simp)
    have hoX : w.ownsRow 0 3 1 (.slice a d cp) d (intVals c) := owns_keep ho (fun b hb2 => hb.block b (ho.lt b hb2).2)
    obtain ⟨v2, w2, hr, h2, h3, h4⟩ := run_append_int1 w o10.type 0 (.slice a d cp) d c hoX g 1 (k : Int) c9 (by omega) (Nat.zero_le _)
    unfold execOp
    simp only [e10, resolve, invoke, builtin, Sem.run_bind, Sem.run_pure, Result.andThen_ok, List.map_toArray, List.map_cons, List.map_nil]
    rw [show evV S6 l vals t0 (.tmp 49) = .slice a d cp by simp [evV, S6, lookV, d7, v7], show evV S6 l vals t0 (.tmp 51) = .slice (some ⟨g, 0, none⟩) 1 1 by simp [evV, S6, lookV, d9, v9], hr]
    obtain ⟨k1, k2⟩ := hRec w v2 w2 hb hoX h2 h3 h4
    exact ⟨hDt.step (fun v' h => by simp [V6F] at h), fun q => absurd q (by simp [updB]), fun _ _ => ⟨k1, by simpa [updV] using k2⟩, fun q => absurd q (by simp [updB, l15])⟩
  · rintro l vals w ⟨hDt, hM⟩ hl hdn hdi
    have d5 := hdi 5 (by decide)
    have v5 := hDt 5 _ rfl d5
    refine ⟨(fun c h => by rw [e11] at h; cases h), fun _ => ?_, fun h => absurd h (by simp [wantV, g11, isB, v5])⟩
    simp [upV, go_sem, e11, evV, S6, lookV, h1]
    exact ⟨hDt.step (fun v' h => by simpa [V6F] using h), ⟨fun q => ⟨(hM.1 (by simpa [updB] using q)).1, fun q2 => by obtain ⟨g, k1, k2⟩ := (hM.1 (by simpa [updB] using q)).2 (by simpa [updB] using q2); exact ⟨g, by simpa [updV] using k1, k2⟩⟩, fun q q2 => by have := hM.2.1 (by simpa [updB] using q) (by simpa [updB] using q2); simpa [updV] using this, fun q => hM.2.2 (by simpa [updB] using q)⟩⟩
  · rintro l vals w ⟨hDt, hM⟩ hl hdn hdi
    have d5 := hdi 5 (by decide)
    have v5 := hDt 5 _ rfl d5
    refine ⟨(fun c h => by rw [e12] at h; cases h), fun _ => ?_, fun h => absurd h (by simp [wantV, g12, isB, v5])⟩
    simp [upV, go_sem, e12, evV, S6, lookV, h10]
    exact ⟨hDt.step (fun v' h => by simpa [V6F] using h), ⟨fun q => ⟨(hM.1 (by simpa [updB] using q)).1, fun q2 => by obtain ⟨g, k1, k2⟩ := (hM.1 (by simpa [updB] using q)).2 (by simpa [updB] using q2); exact ⟨g, by simpa [updV] using k1, k2⟩⟩, fun q q2 => by have := hM.2.1 (by simpa [updB] using q) (by simpa [updB] using q2); simpa [updV] using this, fun q => hM.2.2 (by simpa [updB] using q)⟩⟩
  · rintro l vals w ⟨hDt, hM⟩ hl hdn hdi
    have d5 := hdi 5 (by decide)
    have v5 := hDt 5 _ rfl d5
    refine ⟨(fun c h => by rw [e13] at h; cases h), fun _ => ?_, fun h => absurd h (by simp [wantV, g13, isB, v5])⟩
    have d12 := hdi 12 (by decide)
    have v12 := hDt 12 _ rfl d12
    simp [upV, go_sem, e13, evV, S6, lookV, d12, v12]
    exact ⟨hDt.step (fun v' h => by simpa [V6F] using h), ⟨fun q => ⟨(hM.1 (by simpa [updB] using q)).1, fun q2 => by obtain ⟨g, k1, k2⟩ := (hM.1 (by simpa [updB] using q)).2 (by simpa [updB] using q2); exact ⟨g, by simpa [updV] using k1, k2⟩⟩, fun q q2 => by have := hM.2.1 (by simpa [updB] using q) (by simpa [updB] using q2); simpa [updV] using this, fun q => hM.2.2 (by simpa [updB] using q)⟩⟩
  · rintro l vals w ⟨hDt, hM⟩ hl hdn hdi
    have d5 := hdi 5 (by decide)
    have v5 := hDt 5 _ rfl d5
    refine ⟨(fun c h => by rw [e14] at h; cases h), fun _ => ?_, fun h => absurd h (by simp [wantV, g14, isB, v5])⟩
    have d11 := hdi 11 (by decide)
    have v11 := hDt 11 _ rfl d11
    have d13 := hdi 13 (by decide)
    have v13 := hDt 13 _ rfl d13
    simp [upV, go_sem, e14, evV, S6, lookV, d11, v11, d13, v13, hor]
    exact ⟨hDt.step (fun v' h => by simpa [V6F] using h), ⟨fun q => ⟨(hM.1 (by simpa [updB] using q)).1, fun q2 => by obtain ⟨g, k1, k2⟩ := (hM.1 (by simpa [updB] using q)).2 (by simpa [updB] using q2); exact ⟨g, by simpa [updV] using k1, k2⟩⟩, fun q q2 => by have := hM.2.1 (by simpa [updB] using q) (by simpa [updB] using q2); simpa [updV] using this, fun q => hM.2.2 (by simpa [updB] using q)⟩⟩
  · rintro l vals w ⟨hDt, hM⟩ hl hdn hdi
    have d5 := hdi 5 (by decide)
    have v5 := hDt 5 _ rfl d5
    refine ⟨(fun c h => by rw [e15] at h; cases h), fun _ => ?_, fun h => absurd h (by simp [wantV, g15, isB, v5])⟩
    have d6 := hdi 6 (by decide)
    have v6 := hDt 6 _ rfl d6
    have d10 := hdi 10 (by decide)
    have d14 := hdi 14 (by decide)
    have v14 := hDt 14 _ rfl d14
    obtain ⟨k1, k2⟩ := hM.2.1 d10 hl
    simp [upV, go_sem, e15, evV, S6, lookV, d6, v6, d10, d14, v14, growV]
    refine (callsIn_wide.2 k2).mono ?_
    rintro e w' ⟨rfl, hr⟩
    exact ⟨_, rfl, hDt.step (fun v' h => by simpa [V6F] using h), fun q => absurd q (by simp [updB, d10]), fun _ q => absurd q (by simp [updB]), fun _ => hr⟩
  · rintro l vals w ⟨hDt, hM⟩ hl hdn hdi
    have d5 := hdi 5 (by decide)
    have v5 := hDt 5 _ rfl d5
    refine ⟨(fun c h => by rw [e16] at h; cases h), fun _ => ?_, fun h => absurd h (by simp [wantV, g16, isB, v5])⟩
    have d15 := hdi 15 (by decide)
    have v15 := hDt 15 _ rfl d15
    simp [upV, go_sem, e16, evV, S6, lookV, d15, v15]
    exact ⟨hDt.step (fun v' h => by simpa [V6F] using h), ⟨fun q => ⟨(hM.1 (by simpa [updB] using q)).1, fun q2 => by obtain ⟨g, k1, k2⟩ := (hM.1 (by simpa [updB] using q)).2 (by simpa [updB] using q2); exact ⟨g, by simpa [updV] using k1, k2⟩⟩, fun q q2 => by have := hM.2.1 (by simpa [updB] using q) (by simpa [updB] using q2); simpa [updV] using this, fun q => hM.2.2 (by simpa [updB] using q)⟩⟩
  · rintro l vals w ⟨hDt, hM⟩ hl hdn hdi
    refine ⟨(fun c h => by rw [e17] at h; cases h), fun _ => ?_, fun h => absurd h (by simp [wantV, g17])⟩
    have d5 := hdi 5 (by decide)
    have v5 := hDt 5 _ rfl d5
    have d16 := hdi 16 (by decide)
    have v16 := hDt 16 _ rfl d16
    simp [upV, go_sem, e17, evV, S6, lookV, d5, v5, d16, v16]
    exact ⟨hDt.step (fun v' h => by simpa [V6F] using h), ⟨fun q => ⟨(hM.1 (by simpa [updB] using q)).1, fun q2 => by obtain ⟨g, k1, k2⟩ := (hM.1 (by simpa [updB] using q)).2 (by simpa [updB] using q2); exact ⟨g, by simpa [updV] using k1, k2⟩⟩, fun q q2 => by have := hM.2.1 (by simpa [updB] using q) (by simpa [updB] using q2); simpa [updV] using this, fun q => hM.2.2 (by simpa [updB] using q)⟩⟩
end Go.Proofs.YtffnhflbhckhbaaDoor
