import Derived.Test.YtajdijjecojdhaaDoorWNE
namespace Go.Proofs.YtajdijjecojdhaaDoor
open Go.RowKit
def DS5 : List (List Nat) := [[], [], [1], [2], [0], [4], [5, 3], [6], [], [7, 8], [9, 9, 0, 1, 2, 3, 4, 5, 6, 7, 8, 9]]
def SS5 : List (Option Tmp) := [some 25, some 26, some 27, some 28, some 29, some 30, some 31, some 32, some 33, some 34, some 7]
def VS5 (R X s s' : Nat) (aO : Option Addr) (nO cO : Nat) (lO : List Ag) (x : ByteArray) : List (Option Value) := [some (.pointer (some ⟨R, 0, none⟩)), some (.pointer (some ⟨X, 0, none⟩)), some ((.int .i64 (s : Int))), some ((.int .i64 (s' : Int))), some (.pointer (some ⟨R, 0, none⟩)), some (.pointer (some ⟨R, 0, none⟩)), some (.pointer (some ⟨R, s', none⟩)), some (.slice aO nO cO), some (.string x), some (.int .i64 (aidxFrom lO x 0)), some (.int .i64 (aidxFrom lO x 0))]
def JS5 (W : World) (R X s s' : Nat) (aO : Option Addr) (nO cO : Nat) (lO : List Ag) (x : ByteArray) (l : Nat → Bool) (vals : Nat → Value) (w : World) : Prop := Det (VS5 R X s s' aO nO cO lO x) l vals ∧ Below W.heap.size W w
attribute [local go_sem] Oper.semAt_some
set_option maxRecDepth 100000 in
set_option maxHeartbeats 4000000 in
theorem stepsS5 {W : World} {R X s s' : Nat} {aO : Option Addr} {nO cO : Nat} {lO : List Ag} {x : ByteArray} {t0 : Array Value} (h0 : t0[0]? = some (.pointer (some ⟨R, 0, none⟩))) (h3 : t0[3]? = some (.pointer (some ⟨X, 0, none⟩))) (h6 : t0[6]? = some (.string x)) (hss : s + s' = 1) (hX : W.cell? ⟨X, 0, none⟩ = some (.int .i64 (s : Int))) (hO : W.cell? ⟨R, s', none⟩ = some (.slice aO nO cO)) (hA : Ags W aO nO cO lO)
    {o0 o1 o2 o3 o4 o5 o6 o7 o8 o9 o10 : Oper}
    (e0 : o0.op = .move (.tmp 0)) (e1 : o1.op = .fieldAddr 64 (.tmp 3) 0) (e2 : o2.op = .load 3 (.tmp 26)) (e3 : o3.op = .binOp .sub 3 (.const (.int .i64 1)) (.tmp 27) 3) (e4 : o4.op = .nilCheck (.tmp 25)) (e5 : o5.op = .fieldAddr 58 (.tmp 29) 0) (e6 : o6.op = .indexAddr 55 (.tmp 30) (.tmp 28)) (e7 : o7.op = .load 22 (.tmp 31)) (e8 : o8.op = .move (.tmp 6)) (e9 : o9.op = .call { callee := .value (.func 42), args := #[.tmp 32, .tmp 33], argTypes := #[22, 9] }) (e10 : o10.op = .assign (.tmp 34)) :
    StepsV Tryd.prog (JS5 W R X s s' aO nO cO lO x) DS5 SS5 t0 0 [o0, o1, o2, o3, o4, o5, o6, o7, o8, o9, o10] := by
  refine ⟨?_, ?_, ?_, ?_, ?_, ?_, ?_, ?_, ?_, ?_, ?_, trivial⟩
  · rintro l vals w ⟨hDt, hM⟩ hl hdn hdi
    simp [upV, go_sem, e0, evV, SS5, lookV, h0]
    exact ⟨hDt.step (fun v' h => by simpa [VS5] using h), hM⟩
  · rintro l vals w ⟨hDt, hM⟩ hl hdn hdi
    simp [upV, go_sem, e1, evV, SS5, lookV, h3]
    exact ⟨hDt.step (fun v' h => by simpa [VS5] using h), hM⟩
  · rintro l vals w ⟨hDt, hM⟩ hl hdn hdi
    have d1 := hdi 1 (by decide)
    have v1 := hDt 1 _ rfl d1
    have c2 := (hM.cell (p := ⟨X, 0, none⟩) (World.block_lt_of_cell? W _ hX)).trans hX
    simp [upV, go_sem, e2, evV, SS5, lookV, d1, v1, c2]
    exact ⟨hDt.step (fun v' h => by simpa [VS5] using h), hM⟩
  · rintro l vals w ⟨hDt, hM⟩ hl hdn hdi
    have d2 := hdi 2 (by decide)
    have v2 := hDt 2 _ rfl d2
    have hw1 : IntKind.i64.wrap (1 - (s : Int)) = (s' : Int) := by
      rcases (show s = 0 ∨ s = 1 by omega) with q | q
      · obtain rfl : s' = 1 := by omega
        subst q; rfl
      · obtain rfl : s' = 0 := by omega
        subst q; rfl
    simp [upV, go_sem, e3, evV, SS5, lookV, d2, v2, hw1]
    exact ⟨hDt.step (fun v' h => by simpa [VS5] using h), hM⟩
  · rintro l vals w ⟨hDt, hM⟩ hl hdn hdi
    have d0 := hdi 0 (by decide)
    have v0 := hDt 0 _ rfl d0
    simp [upV, go_sem, e4, evV, SS5, lookV, d0, v0]
    exact ⟨hDt.step (fun v' h => by simpa [VS5] using h), hM⟩
  · rintro l vals w ⟨hDt, hM⟩ hl hdn hdi
    have d4 := hdi 4 (by decide)
    have v4 := hDt 4 _ rfl d4
    simp [upV, go_sem, e5, evV, SS5, lookV, d4, v4]
    exact ⟨hDt.step (fun v' h => by simpa [VS5] using h), hM⟩
  · rintro l vals w ⟨hDt, hM⟩ hl hdn hdi
    have d5 := hdi 5 (by decide)
    have v5 := hDt 5 _ rfl d5
    have d3 := hdi 3 (by decide)
    have v3 := hDt 3 _ rfl d3
    have hi1 : (s' : Int) < 2 := by omega
    simp [upV, go_sem, e6, evV, SS5, lookV, d5, v5, d3, v3, hi1]
    exact ⟨hDt.step (fun v' h => by simpa [VS5] using h), hM⟩
  · rintro l vals w ⟨hDt, hM⟩ hl hdn hdi
    have d6 := hdi 6 (by decide)
    have v6 := hDt 6 _ rfl d6
    have c2 := (hM.cell (p := ⟨R, s', none⟩) (World.block_lt_of_cell? W _ hO)).trans hO
    simp [upV, go_sem, e7, evV, SS5, lookV, d6, v6, c2]
    exact ⟨hDt.step (fun v' h => by simpa [VS5] using h), hM⟩
  · rintro l vals w ⟨hDt, hM⟩ hl hdn hdi
    simp [upV, go_sem, e8, evV, SS5, lookV, h6]
    exact ⟨hDt.step (fun v' h => by simpa [VS5] using h), hM⟩
  · rintro l vals w ⟨hDt, hM⟩ hl hdn hdi
    have d7 := hdi 7 (by decide)
    have v7 := hDt 7 _ rfl d7
    have d8 := hdi 8 (by decide)
    have v8 := hDt 8 _ rfl d8
    simp [upV, go_sem, e9, evV, SS5, lookV, d7, v7, d8, v8]
    refine (placeN_any aO nO cO lO x w (hA.later hM)).mono ?_
    rintro e w' ⟨rfl, hb⟩
    exact ⟨_, rfl, hDt.step (fun v' h => by simpa [VS5] using h), hM.trans (hb.mono hM.size)⟩
  · rintro l vals w ⟨hDt, hM⟩ hl hdn hdi
    have d9 := hdi 9 (by decide)
    have v9 := hDt 9 _ rfl d9
    simp [upV, go_sem, e10, evV, SS5, lookV, d9, v9]
    exact ⟨hDt.step (fun v' h => by simpa [VS5] using h), hM⟩
end Go.Proofs.YtajdijjecojdhaaDoor
