import Derived.Test.YtffnhflbhckhbaaDoorQG
namespace Go.Proofs.YtffnhflbhckhbaaDoor
open Go.RowKit Go.Shelf
attribute [local go_sem] Oper.semAt_some
def D1 : List (List Nat) := [[], [0], [1], [2], [3], [3], [3], [4, 5, 6, 3, 3], [3, 7], [8, 7], [9], [9], [11, 9, 9], [10, 12, 12, 9], [13, 9], [9, 14]]
def S1 : List (Option Tmp) := [some 11, some 12, some 13, some 14, some 15, some 16, some 17, some 18, some 19, some 20, some 21, some 22, some 23, some 24, some 25, some 26]
def V1A (a : Option Addr) (d cp : Nat) : List (Option Value) := [some (.slice a d cp), some (.int .i64 (d : Int)), some (.bool false), some (.bool false), some undef, some undef, some undef, some undef, some (.bool false), some (.bool false), some undef, some undef, some undef, some undef, some undef, some (.bool false)]
set_option maxRecDepth 100000 in
set_option maxHeartbeats 4000000 in
theorem steps1A {m : Nat} {W : World} {a : Option Addr} {d cp : Nat} {t0 : Array Value} (h0 : t0[0]? = some (.slice a d cp)) (hd : decide ((1 : Int) < (d : Int)) = false)
    {o0 o1 o2 o3 o4 o5 o6 o7 o8 o9 o10 o11 o12 o13 o14 o15 : Oper}
    (e0 : o0.op = .move (.tmp 0)) (e1 : o1.op = .call { callee := .builtin .len, args := #[.tmp 11], argTypes := #[34] }) (e2 : o2.op = .binOp .gtr 3 (.tmp 12) (.const (.int .i64 1)) 3) (e3 : o3.op = .move (.tmp 13)) (e4 : o4.op = .load 44 (.tmp 2)) (e5 : o5.op = .load 24 (.tmp 3)) (e6 : o6.op = .move (.tmp 0)) (e7 : o7.op = .call { callee := .value (.tmp 15), args := #[.tmp 16, .tmp 17], argTypes := #[24, 34] }) (e8 : o8.op = .pick (.tmp 14) (.tmp 18) (.const (.bool false))) (e9 : o9.op = .move (.tmp 19)) (e10 : o10.op = .load 62 (.tmp 4)) (e11 : o11.op = .move (.tmp 0)) (e12 : o12.op = .call { callee := .value (.func 33), args := #[.tmp 22], argTypes := #[34] }) (e13 : o13.op = .call { callee := .value (.tmp 21), args := #[.tmp 23], argTypes := #[34] }) (e14 : o14.op = .unOp .not 4 (.tmp 24)) (e15 : o15.op = .pick (.tmp 20) (.tmp 25) (.const (.bool false)))
    (g0 : o0.guard = none) (g1 : o1.guard = none) (g2 : o2.guard = none) (g3 : o3.guard = none) (g4 : o4.guard = some (3, true)) (g5 : o5.guard = some (3, true)) (g6 : o6.guard = some (3, true)) (g7 : o7.guard = some (3, true)) (g8 : o8.guard = none) (g9 : o9.guard = none) (g10 : o10.guard = some (9, true)) (g11 : o11.guard = some (9, true)) (g12 : o12.guard = some (9, true)) (g13 : o13.guard = some (9, true)) (g14 : o14.guard = some (9, true)) (g15 : o15.guard = none) :
    StepsV Fence.wide m Tryd.prog (fun l vals w => Det (V1A a d cp) l vals ∧ (Below W.heap.size W w)) D1 S1 t0 0 [o0, o1, o2, o3, o4, o5, o6, o7, o8, o9, o10, o11, o12, o13, o14, o15] := by
  refine ⟨?_, ?_, ?_, ?_, ?_, ?_, ?_, ?_, ?_, ?_, ?_, ?_, ?_, ?_, ?_, ?_, trivial⟩
  · rintro l vals w ⟨hDt, hM⟩ hl hdn hdi
    refine ⟨(fun c h => by rw [e0] at h; cases h), fun _ => ?_, fun h => absurd h (by simp [wantV, g0])⟩
    simp [upV, go_sem, e0, evV, S1, lookV, h0]
    exact ⟨hDt.step (fun v' h => by simpa [V1A] using h), hM⟩
  · rintro l vals w ⟨hDt, hM⟩ hl hdn hdi
    refine ⟨(fun c h => by rw [e1] at h; cases h), fun _ => ?_, fun h => absurd h (by simp [wantV, g1])⟩
    have d0 := hdi 0 (by decide)
    have v0 := hDt 0 _ rfl d0
    simp [upV, go_sem, e1, evV, S1, lookV, d0, v0]
    exact ⟨hDt.step (fun v' h => by simpa [V1A] using h), hM⟩
  · rintro l vals w ⟨hDt, hM⟩ hl hdn hdi
    refine ⟨(fun c h => by rw [e2] at h; cases h), fun _ => ?_, fun h => absurd h (by simp [wantV, g2])⟩
    have d1 := hdi 1 (by decide)
    have v1 := hDt 1 _ rfl d1
    simp [upV, go_sem, e2, evV, S1, lookV, d1, v1, hd]
    exact ⟨hDt.step (fun v' h => by simpa [V1A] using h), hM⟩
  · rintro l vals w ⟨hDt, hM⟩ hl hdn hdi
    refine ⟨(fun c h => by rw [e3] at h; cases h), fun _ => ?_, fun h => absurd h (by simp [wantV, g3])⟩
    have d2 := hdi 2 (by decide)
    have v2 := hDt 2 _ rfl d2
    simp [upV, go_sem, e3, evV, S1, lookV, d2, v2]
    exact ⟨hDt.step (fun v' h => by simpa [V1A] using h), hM⟩
  · rintro l vals w ⟨hDt, hM⟩ hl hdn hdi
    have d3 := hdi 3 (by decide)
    have v3 := hDt 3 _ rfl d3
    refine ⟨(fun c h => by rw [e4] at h; cases h), fun h => absurd h (by simp [wantV, g4, isB, v3]), fun _ => ⟨hDt.step (fun v' h => by simpa [V1A] using h), hM⟩⟩
  · rintro l vals w ⟨hDt, hM⟩ hl hdn hdi
    have d3 := hdi 3 (by decide)
    have v3 := hDt 3 _ rfl d3
    refine ⟨(fun c h => by rw [e5] at h; cases h), fun h => absurd h (by simp [wantV, g5, isB, v3]), fun _ => ⟨hDt.step (fun v' h => by simpa [V1A] using h), hM⟩⟩
  · rintro l vals w ⟨hDt, hM⟩ hl hdn hdi
    have d3 := hdi 3 (by decide)
    have v3 := hDt 3 _ rfl d3
    refine ⟨(fun c h => by rw [e6] at h; cases h), fun h => absurd h (by simp [wantV, g6, isB, v3]), fun _ => ⟨hDt.step (fun v' h => by simpa [V1A] using h), hM⟩⟩
  · rintro l vals w ⟨hDt, hM⟩ hl hdn hdi
    have d3 := hdi 3 (by decide)
    have v3 := hDt 3 _ rfl d3
    refine ⟨(fun c h => by rw [e7] at h; cases h), fun h => absurd h (by simp [wantV, g7, isB, v3]), fun _ => ⟨hDt.step (fun v' h => by simpa [V1A] using h), hM⟩⟩
  · rintro l vals w ⟨hDt, hM⟩ hl hdn hdi
    refine ⟨(fun c h => by rw [e8] at h; cases h), fun _ => ?_, fun h => absurd h (by simp [wantV, g8])⟩
    have d3 := hdi 3 (by decide)
    have v3 := hDt 3 _ rfl d3
    have d7 := hdi 7 (by decide)
    have v7 := hDt 7 _ rfl d7
    simp [upV, go_sem, e8, evV, S1, lookV, d3, v3, d7, v7]
    exact ⟨hDt.step (fun v' h => by simpa [V1A] using h), hM⟩
  · rintro l vals w ⟨hDt, hM⟩ hl hdn hdi
    refine ⟨(fun c h => by rw [e9] at h; cases h), fun _ => ?_, fun h => absurd h (by simp [wantV, g9])⟩
    have d8 := hdi 8 (by decide)
    have v8 := hDt 8 _ rfl d8
    simp [upV, go_sem, e9, evV, S1, lookV, d8, v8]
    exact ⟨hDt.step (fun v' h => by simpa [V1A] using h), hM⟩
  · rintro l vals w ⟨hDt, hM⟩ hl hdn hdi
    have d9 := hdi 9 (by decide)
    have v9 := hDt 9 _ rfl d9
    refine ⟨(fun c h => by rw [e10] at h; cases h), fun h => absurd h (by simp [wantV, g10, isB, v9]), fun _ => ⟨hDt.step (fun v' h => by simpa [V1A] using h), hM⟩⟩
  · rintro l vals w ⟨hDt, hM⟩ hl hdn hdi
    have d9 := hdi 9 (by decide)
    have v9 := hDt 9 _ rfl d9
    refine ⟨(fun c h => by rw [e11] at h; cases h), fun h => absurd h (by simp [wantV, g11, isB, v9]), fun _ => ⟨hDt.step (fun v' h => by simpa [V1A] using h), hM⟩⟩
  · rintro l vals w ⟨hDt, hM⟩ hl hdn hdi
    have d9 := hdi 9 (by decide)
    have v9 := hDt 9 _ rfl d9
    refine ⟨(fun c h => by rw [e12] at h; cases h), fun h => absurd h (by simp [wantV, g12, isB, v9]), fun _ => ⟨hDt.step (fun v' h => by simpa [V1A] using h), hM⟩⟩
  · rintro l vals w ⟨hDt, hM⟩ hl hdn hdi
    have d9 := hdi 9 (by decide)
    have v9 := hDt 9 _ rfl d9
    refine ⟨(fun c h => by rw [e13] at h; cases h), fun h => absurd h (by simp [wantV, g13, isB, v9]), fun _ => ⟨hDt.step (fun v' h => by simpa [V1A] using h), hM⟩⟩
  · rintro l vals w ⟨hDt, hM⟩ hl hdn hdi
    have d9 := hdi 9 (by decide)
    have v9 := hDt 9 _ rfl d9
    refine ⟨(fun c h => by rw [e14] at h; cases h), fun h => absurd h (by simp [wantV, g14, isB, v9]), fun _ => ⟨hDt.step (fun v' h => by simpa [V1A] using h), hM⟩⟩
  · rintro l vals w ⟨hDt, hM⟩ hl hdn hdi
    refine ⟨(fun c h => by rw [e15] at h; cases h), fun _ => ?_, fun h => absurd h (by simp [wantV, g15])⟩
    have d9 := hdi 9 (by decide)
    have v9 := hDt 9 _ rfl d9
    have d14 := hdi 14 (by decide)
    have v14 := hDt 14 _ rfl d14
    simp [upV, go_sem, e15, evV, S1, lookV, d9, v9, d14, v14]
    exact ⟨hDt.step (fun v' h => by simpa [V1A] using h), hM⟩
def V1B (a : Option Addr) (d cp fm : Nat) (gv rd rw : Int) (fa : Option Addr) (fn fc : Nat) : List (Option Value) := [some (.slice a d cp), some (.int .i64 (d : Int)), some (.bool true), some (.bool true), some (.func (.func fm) #[] #[]), some (swV gv rd rw fa fn fc), some (.slice a d cp), some (.bool false), some (.bool false), some (.bool false), some undef, some undef, some undef, some undef, some undef, some (.bool false)]
set_option maxRecDepth 100000 in
set_option maxHeartbeats 4000000 in
theorem steps1B {m : Nat} {W : World} {a : Option Addr} {d cp fm ly : Nat} {gv rd rw : Int} {fa : Option Addr} {fn fc : Nat} {Bm Bs By Bg : Nat} {t0 : Array Value} (h0 : t0[0]? = some (.slice a d cp)) (h2 : t0[2]? = some (.pointer (some ⟨Bm, 0, none⟩))) (h3 : t0[3]? = some (.pointer (some ⟨Bs, 0, none⟩))) (hB : Bx W Bm Bs By Bg fm ly gv rd rw fa fn fc) (hd : decide ((1 : Int) < (d : Int)) = true) (hfm : ∀ args X, (callFunc fm args).run Tryd.prog X = .ok (.enter fm args) X) (hMay : ∀ X, Below W.heap.size W X → Calls Tryd.prog fm #[swV gv rd rw fa fn fc, .slice a d cp] X fun e X' => e = .returned (.bool false) ∧ Below X.heap.size X X')
    {o0 o1 o2 o3 o4 o5 o6 o7 o8 o9 o10 o11 o12 o13 o14 o15 : Oper}
    (e0 : o0.op = .move (.tmp 0)) (e1 : o1.op = .call { callee := .builtin .len, args := #[.tmp 11], argTypes := #[34] }) (e2 : o2.op = .binOp .gtr 3 (.tmp 12) (.const (.int .i64 1)) 3) (e3 : o3.op = .move (.tmp 13)) (e4 : o4.op = .load 44 (.tmp 2)) (e5 : o5.op = .load 24 (.tmp 3)) (e6 : o6.op = .move (.tmp 0)) (e7 : o7.op = .call { callee := .value (.tmp 15), args := #[.tmp 16, .tmp 17], argTypes := #[24, 34] }) (e8 : o8.op = .pick (.tmp 14) (.tmp 18) (.const (.bool false))) (e9 : o9.op = .move (.tmp 19)) (e10 : o10.op = .load 62 (.tmp 4)) (e11 : o11.op = .move (.tmp 0)) (e12 : o12.op = .call { callee := .value (.func 33), args := #[.tmp 22], argTypes := #[34] }) (e13 : o13.op = .call { callee := .value (.tmp 21), args := #[.tmp 23], argTypes := #[34] }) (e14 : o14.op = .unOp .not 4 (.tmp 24)) (e15 : o15.op = .pick (.tmp 20) (.tmp 25) (.const (.bool false)))
    (g0 : o0.guard = none) (g1 : o1.guard = none) (g2 : o2.guard = none) (g3 : o3.guard = none) (g4 : o4.guard = some (3, true)) (g5 : o5.guard = some (3, true)) (g6 : o6.guard = some (3, true)) (g7 : o7.guard = some (3, true)) (g8 : o8.guard = none) (g9 : o9.guard = none) (g10 : o10.guard = some (9, true)) (g11 : o11.guard = some (9, true)) (g12 : o12.guard = some (9, true)) (g13 : o13.guard = some (9, true)) (g14 : o14.guard = some (9, true)) (g15 : o15.guard = none) :
    StepsV Fence.wide m Tryd.prog (fun l vals w => Det (V1B a d cp fm gv rd rw fa fn fc) l vals ∧ (Below W.heap.size W w)) D1 S1 t0 0 [o0, o1, o2, o3, o4, o5, o6, o7, o8, o9, o10, o11, o12, o13, o14, o15] := by
  refine ⟨?_, ?_, ?_, ?_, ?_, ?_, ?_, ?_, ?_, ?_, ?_, ?_, ?_, ?_, ?_, ?_, trivial⟩
  · rintro l vals w ⟨hDt, hM⟩ hl hdn hdi
    refine ⟨(fun c h => by rw [e0] at h; cases h), fun _ => ?_, fun h => absurd h (by simp [wantV, g0])⟩
    simp [upV, go_sem, e0, evV, S1, lookV, h0]
    exact ⟨hDt.step (fun v' h => by simpa [V1B] using h), hM⟩
  · rintro l vals w ⟨hDt, hM⟩ hl hdn hdi
    refine ⟨(fun c h => by rw [e1] at h; cases h), fun _ => ?_, fun h => absurd h (by simp [wantV, g1])⟩
    have d0 := hdi 0 (by decide)
    have v0 := hDt 0 _ rfl d0
    simp [upV, go_sem, e1, evV, S1, lookV, d0, v0]
    exact ⟨hDt.step (fun v' h => by simpa [V1B] using h), hM⟩
  · rintro l vals w ⟨hDt, hM⟩ hl hdn hdi
    refine ⟨(fun c h => by rw [e2] at h; cases h), fun _ => ?_, fun h => absurd h (by simp [wantV, g2])⟩
    have d1 := hdi 1 (by decide)
    have v1 := hDt 1 _ rfl d1
    simp [upV, go_sem, e2, evV, S1, lookV, d1, v1, hd]
    exact ⟨hDt.step (fun v' h => by simpa [V1B] using h), hM⟩
  · rintro l vals w ⟨hDt, hM⟩ hl hdn hdi
    refine ⟨(fun c h => by rw [e3] at h; cases h), fun _ => ?_, fun h => absurd h (by simp [wantV, g3])⟩
    have d2 := hdi 2 (by decide)
    have v2 := hDt 2 _ rfl d2
    simp [upV, go_sem, e3, evV, S1, lookV, d2, v2]
    exact ⟨hDt.step (fun v' h => by simpa [V1B] using h), hM⟩
  · rintro l vals w ⟨hDt, hM⟩ hl hdn hdi
    have d3 := hdi 3 (by decide)
    have v3 := hDt 3 _ rfl d3
    refine ⟨(fun c h => by rw [e4] at h; cases h), fun _ => ?_, fun h => absurd h (by simp [wantV, g4, isB, v3])⟩
    have hb := hB.below hM
    have c2 := hb.cm
    simp [upV, go_sem, e4, evV, S1, lookV, h2, c2]
    exact ⟨hDt.step (fun v' h => by simpa [V1B, swV] using h), hM⟩
  · rintro l vals w ⟨hDt, hM⟩ hl hdn hdi
    have d3 := hdi 3 (by decide)
    have v3 := hDt 3 _ rfl d3
    refine ⟨(fun c h => by rw [e5] at h; cases h), fun _ => ?_, fun h => absurd h (by simp [wantV, g5, isB, v3])⟩
    have hb := hB.below hM
    have s0 := hb.bs.c0
    have s1 := hb.bs.c1
    have s2 := hb.bs.c2
    have s3 := hb.bs.c3
    simp [upV, go_sem, e5, evV, S1, lookV, h3, s0, s1, s2, s3]
    exact ⟨hDt.step (fun v' h => by simpa [V1B, swV] using h), hM⟩
  · rintro l vals w ⟨hDt, hM⟩ hl hdn hdi
    have d3 := hdi 3 (by decide)
    have v3 := hDt 3 _ rfl d3
    refine ⟨(fun c h => by rw [e6] at h; cases h), fun _ => ?_, fun h => absurd h (by simp [wantV, g6, isB, v3])⟩
    simp [upV, go_sem, e6, evV, S1, lookV, h0]
    exact ⟨hDt.step (fun v' h => by simpa [V1B] using h), hM⟩
  · rintro l vals w ⟨hDt, hM⟩ hl hdn hdi
    have d3 := hdi 3 (by decide)
    have v3 := hDt 3 _ rfl d3
    refine ⟨(fun c h => by rw [e7] at h; cases h), fun _ => ?_, fun h => absurd h (by simp [wantV, g7, isB, v3])⟩
    have d4 := hdi 4 (by decide)
    have v4 := hDt 4 _ rfl d4
    have d5 := hdi 5 (by decide)
    have v5 := hDt 5 _ rfl d5
    have d6 := hdi 6 (by decide)
    have v6 := hDt 6 _ rfl d6
    simp [upV, go_sem, e7, evV, S1, lookV, d4, v4, d5, v5, d6, v6, hfm]
    refine (callsIn_wide.2 (hMay w hM)).mono ?_
    rintro e w' ⟨rfl, hb⟩
    exact ⟨_, rfl, hDt.step (fun v' h => by simpa [V1B] using h), hM.trans (hb.mono hM.size)⟩
  · rintro l vals w ⟨hDt, hM⟩ hl hdn hdi
    refine ⟨(fun c h => by rw [e8] at h; cases h), fun _ => ?_, fun h => absurd h (by simp [wantV, g8])⟩
    have d3 := hdi 3 (by decide)
    have v3 := hDt 3 _ rfl d3
    have d7 := hdi 7 (by decide)
    have v7 := hDt 7 _ rfl d7
    simp [upV, go_sem, e8, evV, S1, lookV, d3, v3, d7, v7]
    exact ⟨hDt.step (fun v' h => by simpa [V1B] using h), hM⟩
  · rintro l vals w ⟨hDt, hM⟩ hl hdn hdi
    refine ⟨(fun c h => by rw [e9] at h; cases h), fun _ => ?_, fun h => absurd h (by simp [wantV, g9])⟩
    have d8 := hdi 8 (by decide)
    have v8 := hDt 8 _ rfl d8
    simp [upV, go_sem, e9, evV, S1, lookV, d8, v8]
    exact ⟨hDt.step (fun v' h => by simpa [V1B] using h), hM⟩
  · rintro l vals w ⟨hDt, hM⟩ hl hdn hdi
    have d9 := hdi 9 (by decide)
    have v9 := hDt 9 _ rfl d9
    refine ⟨(fun c h => by rw [e10] at h; cases h), fun h => absurd h (by simp [wantV, g10, isB, v9]), fun _ => ⟨hDt.step (fun v' h => by simpa [V1B] using h), hM⟩⟩
  · rintro l vals w ⟨hDt, hM⟩ hl hdn hdi
    have d9 := hdi 9 (by decide)
    have v9 := hDt 9 _ rfl d9
    refine ⟨(fun c h => by rw [e11] at h; cases h), fun h => absurd h (by simp [wantV, g11, isB, v9]), fun _ => ⟨hDt.step (fun v' h => by simpa [V1B] using h), hM⟩⟩
  · rintro l vals w ⟨hDt, hM⟩ hl hdn hdi
    have d9 := hdi 9 (by decide)
    have v9 := hDt 9 _ rfl d9
    refine ⟨(fun c h => by rw [e12] at h; cases h), fun h => absurd h (by simp [wantV, g12, isB, v9]), fun _ => ⟨hDt.step (fun v' h => by simpa [V1B] using h), hM⟩⟩
  · rintro l vals w ⟨hDt, hM⟩ hl hdn hdi
    have d9 := hdi 9 (by decide)
    have v9 := hDt 9 _ rfl d9
    refine ⟨(fun c h => by rw [e13] at h; cases h), fun h => absurd h (by simp [wantV, g13, isB, v9]), fun _ => ⟨hDt.step (fun v' h => by simpa [V1B] using h), hM⟩⟩
  · rintro l vals w ⟨hDt, hM⟩ hl hdn hdi
    have d9 := hdi 9 (by decide)
    have v9 := hDt 9 _ rfl d9
    refine ⟨(fun c h => by rw [e14] at h; cases h), fun h => absurd h (by simp [wantV, g14, isB, v9]), fun _ => ⟨hDt.step (fun v' h => by simpa [V1B] using h), hM⟩⟩
  · rintro l vals w ⟨hDt, hM⟩ hl hdn hdi
    refine ⟨(fun c h => by rw [e15] at h; cases h), fun _ => ?_, fun h => absurd h (by simp [wantV, g15])⟩
    have d9 := hdi 9 (by decide)
    have v9 := hDt 9 _ rfl d9
    have d14 := hdi 14 (by decide)
    have v14 := hDt 14 _ rfl d14
    simp [upV, go_sem, e15, evV, S1, lookV, d9, v9, d14, v14]
    exact ⟨hDt.step (fun v' h => by simpa [V1B] using h), hM⟩
def V1C (a : Option Addr) (d cp fm ly : Nat) (gv rd rw : Int) (fa : Option Addr) (fn fc : Nat) : List (Option Value) := [some (.slice a d cp), some (.int .i64 (d : Int)), some (.bool true), some (.bool true), some (.func (.func fm) #[] #[]), some (swV gv rd rw fa fn fc), some (.slice a d cp), some (.bool true), some (.bool true), some (.bool true), some (.func (.yield ly) #[] #[]), some (.slice a d cp), none, some (.bool true), some (.bool false), some (.bool false)]
set_option maxRecDepth 100000 in
set_option maxHeartbeats 4000000 in
theorem steps1C {m : Nat} {W : World} {a : Option Addr} {d cp fm ly : Nat} {gv rd rw : Int} {fa : Option Addr} {fn fc : Nat} {c : List Int} {R : World → Prop} {Bm Bs By Bg : Nat} {t0 : Array Value} (h0 : t0[0]? = some (.slice a d cp)) (h2 : t0[2]? = some (.pointer (some ⟨Bm, 0, none⟩))) (h3 : t0[3]? = some (.pointer (some ⟨Bs, 0, none⟩))) (h4 : t0[4]? = some (.pointer (some ⟨By, 0, none⟩))) (hB : Bx W Bm Bs By Bg fm ly gv rd rw fa fn fc) (hd : decide ((1 : Int) < (d : Int)) = true) (hI : Ints W a d cp c) (hd9 : d ≤ 1000) (hfm : ∀ args X, (callFunc fm args).run Tryd.prog X = .ok (.enter fm args) X) (hMay : ∀ X, Below W.heap.size W X → Calls Tryd.prog fm #[swV gv rd rw fa fn fc, .slice a d cp] X fun e X' => e = .returned (.bool true) ∧ Below X.heap.size X X') (hYd : ∀ X a2 c2, Below W.heap.size W X → X.ownsRow W.heap.size 3 1 (.slice a2 d c2) d (intVals c) → YieldAt Fence.wide (m - 1) Tryd.prog ly #[.slice a2 d c2] X fun e X' => e = .returned (.bool true) ∧ R X')
    {o0 o1 o2 o3 o4 o5 o6 o7 o8 o9 o10 o11 o12 o13 o14 o15 : Oper}
    (e0 : o0.op = .move (.tmp 0)) (e1 : o1.op = .call { callee := .builtin .len, args := #[.tmp 11], argTypes := #[34] }) (e2 : o2.op = .binOp .gtr 3 (.tmp 12) (.const (.int .i64 1)) 3) (e3 : o3.op = .move (.tmp 13)) (e4 : o4.op = .load 44 (.tmp 2)) (e5 : o5.op = .load 24 (.tmp 3)) (e6 : o6.op = .move (.tmp 0)) (e7 : o7.op = .call { callee := .value (.tmp 15), args := #[.tmp 16, .tmp 17], argTypes := #[24, 34] }) (e8 : o8.op = .pick (.tmp 14) (.tmp 18) (.const (.bool false))) (e9 : o9.op = .move (.tmp 19)) (e10 : o10.op = .load 62 (.tmp 4)) (e11 : o11.op = .move (.tmp 0)) (e12 : o12.op = .call { callee := .value (.func 33), args := #[.tmp 22], argTypes := #[34] }) (e13 : o13.op = .call { callee := .value (.tmp 21), args := #[.tmp 23], argTypes := #[34] }) (e14 : o14.op = .unOp .not 4 (.tmp 24)) (e15 : o15.op = .pick (.tmp 20) (.tmp 25) (.const (.bool false)))
    (g0 : o0.guard = none) (g1 : o1.guard = none) (g2 : o2.guard = none) (g3 : o3.guard = none) (g4 : o4.guard = some (3, true)) (g5 : o5.guard = some (3, true)) (g6 : o6.guard = some (3, true)) (g7 : o7.guard = some (3, true)) (g8 : o8.guard = none) (g9 : o9.guard = none) (g10 : o10.guard = some (9, true)) (g11 : o11.guard = some (9, true)) (g12 : o12.guard = some (9, true)) (g13 : o13.guard = some (9, true)) (g14 : o14.guard = some (9, true)) (g15 : o15.guard = none) :
    StepsV Fence.wide m Tryd.prog (fun l vals w => Det (V1C a d cp fm ly gv rd rw fa fn fc) l vals ∧ ((l 13 = false → Below W.heap.size W w ∧ (l 12 = true → ∃ a2 c2, vals 12 = .slice a2 d c2 ∧ w.ownsRow W.heap.size 3 1 (.slice a2 d c2) d (intVals c))) ∧ (l 13 = true → R w))) D1 S1 t0 0 [o0, o1, o2, o3, o4, o5, o6, o7, o8, o9, o10, o11, o12, o13, o14, o15] := by
  refine ⟨?_, ?_, ?_, ?_, ?_, ?_, ?_, ?_, ?_, ?_, ?_, ?_, ?_, ?_, ?_, ?_, trivial⟩
  · rintro l vals w ⟨hDt, hM⟩ hl hdn hdi
    refine ⟨(fun c h => by rw [e0] at h; cases h), fun _ => ?_, fun h => absurd h (by simp [wantV, g0])⟩
    have l13 : l 13 = false := by
      cases q0 : l 13 with
      | false => rfl
      | true =>
        have q1 := hdn 13 q0 9 (by decide)
        have q2 := hdn 9 q1 8 (by decide)
        have q3 := hdn 8 q2 3 (by decide)
        have q4 := hdn 3 q3 2 (by decide)
        have q5 := hdn 2 q4 1 (by decide)
        have q6 := hdn 1 q5 0 (by decide)
        exact absurd (hl.symm.trans q6) (by simp)
    simp [upV, go_sem, e0, evV, S1, lookV, h0]
    exact ⟨hDt.step (fun v' h => by simpa [V1C] using h), ⟨fun q => ⟨(hM.1 (by simpa [updB] using q)).1, fun q2 => by obtain ⟨a2, c2, k1, k2⟩ := (hM.1 (by simpa [updB] using q)).2 (by simpa [updB] using q2); exact ⟨a2, c2, by simpa [updV] using k1, k2⟩⟩, fun q => hM.2 (by simpa [updB] using q)⟩⟩
  · rintro l vals w ⟨hDt, hM⟩ hl hdn hdi
    refine ⟨(fun c h => by rw [e1] at h; cases h), fun _ => ?_, fun h => absurd h (by simp [wantV, g1])⟩
    have d0 := hdi 0 (by decide)
    have v0 := hDt 0 _ rfl d0
    have l13 : l 13 = false := by
      cases q0 : l 13 with
      | false => rfl
      | true =>
        have q1 := hdn 13 q0 9 (by decide)
        have q2 := hdn 9 q1 8 (by decide)
        have q3 := hdn 8 q2 3 (by decide)
        have q4 := hdn 3 q3 2 (by decide)
        have q5 := hdn 2 q4 1 (by decide)
        exact absurd (hl.symm.trans q5) (by simp)
    simp [upV, go_sem, e1, evV, S1, lookV, d0, v0]
    exact ⟨hDt.step (fun v' h => by simpa [V1C] using h), ⟨fun q => ⟨(hM.1 (by simpa [updB] using q)).1, fun q2 => by obtain ⟨a2, c2, k1, k2⟩ := (hM.1 (by simpa [updB] using q)).2 (by simpa [updB] using q2); exact ⟨a2, c2, by simpa [updV] using k1, k2⟩⟩, fun q => hM.2 (by simpa [updB] using q)⟩⟩
  · rintro l vals w ⟨hDt, hM⟩ hl hdn hdi
    refine ⟨(fun c h => by rw [e2] at h; cases h), fun _ => ?_, fun h => absurd h (by simp [wantV, g2])⟩
    have d1 := hdi 1 (by decide)
    have v1 := hDt 1 _ rfl d1
    have l13 : l 13 = false := by
      cases q0 : l 13 with
      | false => rfl
      | true =>
        have q1 := hdn 13 q0 9 (by decide)
        have q2 := hdn 9 q1 8 (by decide)
        have q3 := hdn 8 q2 3 (by decide)
        have q4 := hdn 3 q3 2 (by decide)
        exact absurd (hl.symm.trans q4) (by simp)
    simp [upV, go_sem, e2, evV, S1, lookV, d1, v1, hd]
    exact ⟨hDt.step (fun v' h => by simpa [V1C] using h), ⟨fun q => ⟨(hM.1 (by simpa [updB] using q)).1, fun q2 => by obtain ⟨a2, c2, k1, k2⟩ := (hM.1 (by simpa [updB] using q)).2 (by simpa [updB] using q2); exact ⟨a2, c2, by simpa [updV] using k1, k2⟩⟩, fun q => hM.2 (by simpa [updB] using q)⟩⟩
  · rintro l vals w ⟨hDt, hM⟩ hl hdn hdi
    refine ⟨(fun c h => by rw [e3] at h; cases h), fun _ => ?_, fun h => absurd h (by simp [wantV, g3])⟩
    have d2 := hdi 2 (by decide)
    have v2 := hDt 2 _ rfl d2
    have l13 : l 13 = false := by
      cases q0 : l 13 with
      | false => rfl
      | true =>
        have q1 := hdn 13 q0 9 (by decide)
        have q2 := hdn 9 q1 8 (by decide)
        have q3 := hdn 8 q2 3 (by decide)
        exact absurd (hl.symm.trans q3) (by simp)
    simp [upV, go_sem, e3, evV, S1, lookV, d2, v2]
    exact ⟨hDt.step (fun v' h => by simpa [V1C] using h), ⟨fun q => ⟨(hM.1 (by simpa [updB] using q)).1, fun q2 => by obtain ⟨a2, c2, k1, k2⟩ := (hM.1 (by simpa [updB] using q)).2 (by simpa [updB] using q2); exact ⟨a2, c2, by simpa [updV] using k1, k2⟩⟩, fun q => hM.2 (by simpa [updB] using q)⟩⟩
  · rintro l vals w ⟨hDt, hM⟩ hl hdn hdi
    have d3 := hdi 3 (by decide)
    have v3 := hDt 3 _ rfl d3
    refine ⟨(fun c h => by rw [e4] at h; cases h), fun _ => ?_, fun h => absurd h (by simp [wantV, g4, isB, v3])⟩
    have l13 : l 13 = false := by
      cases q0 : l 13 with
      | false => rfl
      | true =>
        have q1 := hdn 13 q0 9 (by decide)
        have q2 := hdn 9 q1 7 (by decide)
        have q3 := hdn 7 q2 4 (by decide)
        exact absurd (hl.symm.trans q3) (by simp)
    have hb := hB.below (hM.1 (l13)).1
    have c2 := hb.cm
    simp [upV, go_sem, e4, evV, S1, lookV, h2, c2]
    exact ⟨hDt.step (fun v' h => by simpa [V1C, swV] using h), ⟨fun q => ⟨(hM.1 (by simpa [updB] using q)).1, fun q2 => by obtain ⟨a2, c2, k1, k2⟩ := (hM.1 (by simpa [updB] using q)).2 (by simpa [updB] using q2); exact ⟨a2, c2, by simpa [updV] using k1, k2⟩⟩, fun q => hM.2 (by simpa [updB] using q)⟩⟩
  · rintro l vals w ⟨hDt, hM⟩ hl hdn hdi
    have d3 := hdi 3 (by decide)
    have v3 := hDt 3 _ rfl d3
    refine ⟨(fun c h => by rw [e5] at h; cases h), fun _ => ?_, fun h => absurd h (by simp [wantV, g5, isB, v3])⟩
    have l13 : l 13 = false := by
      cases q0 : l 13 with
      | false => rfl
      | true =>
        have q1 := hdn 13 q0 9 (by decide)
        have q2 := hdn 9 q1 7 (by decide)
        have q3 := hdn 7 q2 5 (by decide)
        exact absurd (hl.symm.trans q3) (by simp)
    have hb := hB.below (hM.1 (l13)).1
    have s0 := hb.bs.c0
    have s1 := hb.bs.c1
    have s2 := hb.bs.c2
    have s3 := hb.bs.c3
    simp [upV, go_sem, e5, evV, S1, lookV, h3, s0, s1, s2, s3]
    exact ⟨hDt.step (fun v' h => by simpa [V1C, swV] using h), ⟨fun q => ⟨(hM.1 (by simpa [updB] using q)).1, fun q2 => by obtain ⟨a2, c2, k1, k2⟩ := (hM.1 (by simpa [updB] using q)).2 (by simpa [updB] using q2); exact ⟨a2, c2, by simpa [updV] using k1, k2⟩⟩, fun q => hM.2 (by simpa [updB] using q)⟩⟩
  · rintro l vals w ⟨hDt, hM⟩ hl hdn hdi
    have d3 := hdi 3 (by decide)
    have v3 := hDt 3 _ rfl d3
    refine ⟨(fun c h => by rw [e6] at h; cases h), fun _ => ?_, fun h => absurd h (by simp [wantV, g6, isB, v3])⟩
    have l13 : l 13 = false := by
      cases q0 : l 13 with
      | false => rfl
      | true =>
        have q1 := hdn 13 q0 9 (by decide)
        have q2 := hdn 9 q1 7 (by decide)
        have q3 := hdn 7 q2 6 (by decide)
        exact absurd (hl.symm.trans q3) (by simp)
    simp [upV, go_sem, e6, evV, S1, lookV, h0]
    exact ⟨hDt.step (fun v' h => by simpa [V1C] using h), ⟨fun q => ⟨(hM.1 (by simpa [updB] using q)).1, fun q2 => by obtain ⟨a2, c2, k1, k2⟩ := (hM.1 (by simpa [updB] using q)).2 (by simpa [updB] using q2); exact ⟨a2, c2, by simpa [updV] using k1, k2⟩⟩, fun q => hM.2 (by simpa [updB] using q)⟩⟩
  · rintro l vals w ⟨hDt, hM⟩ hl hdn hdi
    have d3 := hdi 3 (by decide)
    have v3 := hDt 3 _ rfl d3
    refine ⟨(fun c h => by rw [e7] at h; cases h), fun _ => ?_, fun h => absurd h (by simp [wantV, g7, isB, v3])⟩
    have d4 := hdi 4 (by decide)
    have v4 := hDt 4 _ rfl d4
    have d5 := hdi 5 (by decide)
    have v5 := hDt 5 _ rfl d5
    have d6 := hdi 6 (by decide)
    have v6 := hDt 6 _ rfl d6
    have l13 : l 13 = false := by
      cases q0 : l 13 with
      | false => rfl
      | true =>
        have q1 := hdn 13 q0 9 (by decide)
        have q2 := hdn 9 q1 7 (by decide)
        exact absurd (hl.symm.trans q2) (by simp)
    simp [upV, go_sem, e7, evV, S1, lookV, d4, v4, d5, v5, d6, v6, hfm]
    refine (callsIn_wide.2 (hMay w (hM.1 (l13)).1)).mono ?_
    rintro e w' ⟨rfl, hb⟩
    have l12 : l 12 = false := by
      cases q0 : l 12 with
      | false => rfl
      | true =>
        have q1 := hdn 12 q0 9 (by decide)
        have q2 := hdn 9 q1 7 (by decide)
        exact absurd (hl.symm.trans q2) (by simp)
    exact ⟨_, rfl, hDt.step (fun v' h => by simpa [V1C] using h), ⟨fun _ => ⟨(hM.1 (l13)).1.trans (hb.mono (hM.1 (l13)).1.size), fun q2 => absurd q2 (by simp [updB, l12])⟩, fun q => absurd q (by simp [updB, l13])⟩⟩
  · rintro l vals w ⟨hDt, hM⟩ hl hdn hdi
    refine ⟨(fun c h => by rw [e8] at h; cases h), fun _ => ?_, fun h => absurd h (by simp [wantV, g8])⟩
    have d3 := hdi 3 (by decide)
    have v3 := hDt 3 _ rfl d3
    have d7 := hdi 7 (by decide)
    have v7 := hDt 7 _ rfl d7
    have l13 : l 13 = false := by
      cases q0 : l 13 with
      | false => rfl
      | true =>
        have q1 := hdn 13 q0 9 (by decide)
        have q2 := hdn 9 q1 8 (by decide)
        exact absurd (hl.symm.trans q2) (by simp)
    simp [upV, go_sem, e8, evV, S1, lookV, d3, v3, d7, v7]
    exact ⟨hDt.step (fun v' h => by simpa [V1C] using h), ⟨fun q => ⟨(hM.1 (by simpa [updB] using q)).1, fun q2 => by obtain ⟨a2, c2, k1, k2⟩ := (hM.1 (by simpa [updB] using q)).2 (by simpa [updB] using q2); exact ⟨a2, c2, by simpa [updV] using k1, k2⟩⟩, fun q => hM.2 (by simpa [updB] using q)⟩⟩
  · rintro l vals w ⟨hDt, hM⟩ hl hdn hdi
    refine ⟨(fun c h => by rw [e9] at h; cases h), fun _ => ?_, fun h => absurd h (by simp [wantV, g9])⟩
    have d8 := hdi 8 (by decide)
    have v8 := hDt 8 _ rfl d8
    have l13 : l 13 = false := by
      cases q0 : l 13 with
      | false => rfl
      | true =>
        have q1 := hdn 13 q0 9 (by decide)
        exact absurd (hl.symm.trans q1) (by simp)
    simp [upV, go_sem, e9, evV, S1, lookV, d8, v8]
    exact ⟨hDt.step (fun v' h => by simpa [V1C] using h), ⟨fun q => ⟨(hM.1 (by simpa [updB] using q)).1, fun q2 => by obtain ⟨a2, c2, k1, k2⟩ := (hM.1 (by simpa [updB] using q)).2 (by simpa [updB] using q2); exact ⟨a2, c2, by simpa [updV] using k1, k2⟩⟩, fun q => hM.2 (by simpa [updB] using q)⟩⟩
  · rintro l vals w ⟨hDt, hM⟩ hl hdn hdi
    have d9 := hdi 9 (by decide)
    have v9 := hDt 9 _ rfl d9
    refine ⟨(fun c h => by rw [e10] at h; cases h), fun _ => ?_, fun h => absurd h (by simp [wantV, g10, isB, v9])⟩
    have l13 : l 13 = false := by
      cases q0 : l 13 with
      | false => rfl
      | true =>
        have q1 := hdn 13 q0 10 (by decide)
        exact absurd (hl.symm.trans q1) (by simp)
    have hb := hB.below (hM.1 (l13)).1
    have c2 := hb.cy
    simp [upV, go_sem, e10, evV, S1, lookV, h4, c2]
    exact ⟨hDt.step (fun v' h => by simpa [V1C, swV] using h), ⟨fun q => ⟨(hM.1 (by simpa [updB] using q)).1, fun q2 => by obtain ⟨a2, c2, k1, k2⟩ := (hM.1 (by simpa [updB] using q)).2 (by simpa [updB] using q2); exact ⟨a2, c2, by simpa [updV] using k1, k2⟩⟩, fun q => hM.2 (by simpa [updB] using q)⟩⟩
  · rintro l vals w ⟨hDt, hM⟩ hl hdn hdi
    have d9 := hdi 9 (by decide)
    have v9 := hDt 9 _ rfl d9
    refine ⟨(fun c h => by rw [e11] at h; cases h), fun _ => ?_, fun h => absurd h (by simp [wantV, g11, isB, v9])⟩
    have l13 : l 13 = false := by
      cases q0 : l 13 with
      | false => rfl
      | true =>
        have q1 := hdn 13 q0 12 (by decide)
        have q2 := hdn 12 q1 11 (by decide)
        exact absurd (hl.symm.trans q2) (by simp)
    simp [upV, go_sem, e11, evV, S1, lookV, h0]
    exact ⟨hDt.step (fun v' h => by simpa [V1C] using h), ⟨fun q => ⟨(hM.1 (by simpa [updB] using q)).1, fun q2 => by obtain ⟨a2, c2, k1, k2⟩ := (hM.1 (by simpa [updB] using q)).2 (by simpa [updB] using q2); exact ⟨a2, c2, by simpa [updV] using k1, k2⟩⟩, fun q => hM.2 (by simpa [updB] using q)⟩⟩
  · rintro l vals w ⟨hDt, hM⟩ hl hdn hdi
    have d9 := hdi 9 (by decide)
    have v9 := hDt 9 _ rfl d9
    refine ⟨(fun c h => by rw [e12] at h; cases h), fun _ => ?_, fun h => absurd h (by simp [wantV, g12, isB, v9])⟩
    have d11 := hdi 11 (by decide)
    have v11 := hDt 11 _ rfl d11
    have l13 : l 13 = false := by
      cases q0 : l 13 with
      | false => rfl
      | true =>
        have q1 := hdn 13 q0 12 (by decide)
        exact absurd (hl.symm.trans q1) (by simp)
    have hb := (hM.1 l13).1
    simp [upV, go_sem, e12, evV, S1, lookV, d11, v11]
    refine (callsIn_wide.2 (clone_any a d cp c w (hI.later hb) hd9)).mono ?_
    rintro e w' ⟨v, rfl, ho, hb'⟩
    obtain ⟨a2, c2, hv, -, -⟩ := Ints.of_owns ho hd9
    subst hv
    refine ⟨_, rfl, hDt.step (fun v' h => by simp [V1C] at h), fun _ => ⟨hb.trans (hb'.mono hb.size), fun _ => ⟨a2, c2, by simp [updV], ?_⟩⟩, fun q => absurd q (by simp [updB, l13])⟩
    exact owns_mono ho hb.size
  · rintro l vals w ⟨hDt, hM⟩ hl hdn hdi
    have d9 := hdi 9 (by decide)
    have v9 := hDt 9 _ rfl d9
    refine ⟨(fun c h => by rw [e13] at h; cases h), fun _ => ?_, fun h => absurd h (by simp [wantV, g13, isB, v9])⟩
    have d10 := hdi 10 (by decide)
    have v10 := hDt 10 _ rfl d10
    have d12 := hdi 12 (by decide)
    obtain ⟨hb, hc⟩ := hM.1 hl
    obtain ⟨a2, c2, v12, ho⟩ := hc d12
    obtain ⟨fn', tmps, assign, body, hy, hR⟩ := hYd w a2 c2 hb ho
    simp [upV, go_sem, e13, evV, S1, lookV, d10, v10, d12, v12, hy]
    refine hR.mono ?_
    rintro e w' ⟨rfl, hr⟩
    exact ⟨_, rfl, hDt.step (fun v' h => by simpa [V1C] using h), fun q => absurd q (by simp [updB]), fun _ => hr⟩
  · rintro l vals w ⟨hDt, hM⟩ hl hdn hdi
    have d9 := hdi 9 (by decide)
    have v9 := hDt 9 _ rfl d9
    refine ⟨(fun c h => by rw [e14] at h; cases h), fun _ => ?_, fun h => absurd h (by simp [wantV, g14, isB, v9])⟩
    have d13 := hdi 13 (by decide)
    have v13 := hDt 13 _ rfl d13
    simp [upV, go_sem, e14, evV, S1, lookV, d13, v13]
    exact ⟨hDt.step (fun v' h => by simpa [V1C] using h), ⟨fun q => ⟨(hM.1 (by simpa [updB] using q)).1, fun q2 => by obtain ⟨a2, c2, k1, k2⟩ := (hM.1 (by simpa [updB] using q)).2 (by simpa [updB] using q2); exact ⟨a2, c2, by simpa [updV] using k1, k2⟩⟩, fun q => hM.2 (by simpa [updB] using q)⟩⟩
  · rintro l vals w ⟨hDt, hM⟩ hl hdn hdi
    refine ⟨(fun c h => by rw [e15] at h; cases h), fun _ => ?_, fun h => absurd h (by simp [wantV, g15])⟩
    have d9 := hdi 9 (by decide)
    have v9 := hDt 9 _ rfl d9
    have d14 := hdi 14 (by decide)
    have v14 := hDt 14 _ rfl d14
    simp [upV, go_sem, e15, evV, S1, lookV, d9, v9, d14, v14]
    exact ⟨hDt.step (fun v' h => by simpa [V1C] using h), ⟨fun q => ⟨(hM.1 (by simpa [updB] using q)).1, fun q2 => by obtain ⟨a2, c2, k1, k2⟩ := (hM.1 (by simpa [updB] using q)).2 (by simpa [updB] using q2); exact ⟨a2, c2, by simpa [updV] using k1, k2⟩⟩, fun q => hM.2 (by simpa [updB] using q)⟩⟩
end Go.Proofs.YtffnhflbhckhbaaDoor
