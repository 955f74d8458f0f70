import Derived.Test.YtbcchbhchfdbiaaWGB
import Derived.Test.YtbcchbhchfdbiaaWX
namespace Go.Proofs.Ytbcchbhchfdbiaa
open Go.RowKit Go.Shelf
def M5 (W : World) (n : Nat) (l : Nat → Bool) (vals : Nat → Value) (w : World) : Prop := Below W.heap.size W w ∧ (l 3 = true → ∃ qa qc q, vals 3 = .slice qa n qc ∧ Ints w qa n qc q)
def D5 : List (List Nat) := [[], [], [], [1, 2], [], [], [5], [6], [4, 7, 3], [], [], [9, 10, 8], [0, 3, 8, 11, 11], [12, 12, 0, 1, 2, 3, 4, 5, 6, 7, 8, 9, 10, 11, 12]]
def S5 : List (Option Tmp) := [some 28, some 29, some 30, some 31, some 32, some 33, some 34, some 35, some 36, some 37, some 38, some 39, some 40, some 12]
def V5 (b : Nat) (x : Int) (a : Option Addr) (n c : Nat) (A3 : Value) (x4 x5 y4 y5 : Int) : List (Option Value) := [some (.agg #[.int .i64 x, .slice a n c]), some (.agg #[.int .i64 x, .slice a n c]), some A3, none, some (.int .i64 x4), some (.pointer (some ⟨b, 1, none⟩)), some (.slice a n c), some (.int .i64 (n : Int)), some (.int .i64 y4), some (.int .i64 x5), some (.int .i64 x), some (.int .i64 y5), some (.bool true), some (.bool true)]
def J5 (W : World) (b : Nat) (x : Int) (a : Option Addr) (n c : Nat) (A3 : Value) (x4 x5 y4 y5 : Int) (l : Nat → Bool) (vals : Nat → Value) (w : World) : Prop := Det (V5 b x a n c A3 x4 x5 y4 y5) l vals ∧ M5 W n l vals w
attribute [local go_sem] Oper.semAt_some
set_option maxRecDepth 100000 in
set_option maxHeartbeats 4000000 in
theorem steps5 {W : World} {b n c : Nat} {x x4 x5 y4 y5 : Int} {a : Option Addr} {A3 : Value} {t0 : Array Value} (h13 : t0[13]? = some (.pointer (some ⟨b, 0, none⟩))) (h3 : t0[3]? = some A3) (h4 : t0[4]? = some (.int .i64 x4)) (h5 : t0[5]? = some (.int .i64 x5)) (h1 : t0[1]? = some (.int .i64 x)) (hx : ∀ wr, Below W.heap.size W wr → wr.cell? ⟨b, 0, none⟩ = some (.int .i64 x) ∧ wr.cell? ⟨b, 1, none⟩ = some (.slice a n c))
    (C23 : ∀ X, Below W.heap.size W X → Calls Try.prog 23 #[.agg #[.int .i64 x, .slice a n c], A3] X fun e w' => ∃ qa qc q, e = .returned (.slice qa n qc) ∧ Ints w' qa n qc q ∧ Below X.heap.size X w')
    (C4 : ∀ X, Calls Try.prog 21 #[.int .i64 x4, .int .i64 (n : Int)] X fun e w' => e = .returned (.int .i64 y4) ∧ w' = X)
    (C5 : ∀ X, Calls Try.prog 21 #[.int .i64 x5, .int .i64 x] X fun e w' => e = .returned (.int .i64 y5) ∧ w' = X)
    (C3 : ∀ X, Below W.heap.size W X → ∀ qa qc q, Ints X qa n qc q → Calls Try.prog 3 #[.agg #[.int .i64 x, .slice a n c], .slice qa n qc, .int .i64 y4, .int .i64 y5] X fun e w' => e = .returned (.bool true) ∧ Below X.heap.size X w')
    {o0 o1 o2 o3 o4 o5 o6 o7 o8 o9 o10 o11 o12 o13 : Oper}
    (e0 : o0.op = .load 24 (.tmp 13)) (e1 : o1.op = .load 24 (.tmp 13)) (e2 : o2.op = .move (.tmp 3)) (e3 : o3.op = .call { callee := .value (.func 23), args := #[.tmp 29, .tmp 30], argTypes := #[24, 25] }) (e4 : o4.op = .move (.tmp 4)) (e5 : o5.op = .fieldAddr 24 (.tmp 13) 1) (e6 : o6.op = .load 22 (.tmp 33)) (e7 : o7.op = .call { callee := .builtin .len, args := #[.tmp 34], argTypes := #[22] })
    (e8 : o8.op = .call { callee := .value (.func 21), args := #[.tmp 32, .tmp 35], argTypes := #[3, 3] }) (e9 : o9.op = .move (.tmp 5)) (e10 : o10.op = .move (.tmp 1)) (e11 : o11.op = .call { callee := .value (.func 21), args := #[.tmp 37, .tmp 38], argTypes := #[3, 3] }) (e12 : o12.op = .call { callee := .value (.func 3), args := #[.tmp 28, .tmp 31, .tmp 36, .tmp 39], argTypes := #[24, 25, 3, 3] }) (e13 : o13.op = .assign (.tmp 40)) :
    StepsV Try.prog (J5 W b x a n c A3 x4 x5 y4 y5) D5 S5 t0 0 [o0, o1, o2, o3, o4, o5, o6, o7, o8, o9, o10, o11, o12, o13] := by
  refine ⟨?_, ?_, ?_, ?_, ?_, ?_, ?_, ?_, ?_, ?_, ?_, ?_, ?_, ?_, trivial⟩
  · rintro l vals w ⟨hDt, hM⟩ hl hdn hdi
    obtain ⟨c0, c1⟩ := hx w hM.1
    simp [upV, go_sem, e0, evV, S5, lookV, h13, c0, c1]
    exact ⟨hDt.step (fun v' h => by simpa [V5] using h), hM⟩
  · rintro l vals w ⟨hDt, hM⟩ hl hdn hdi
    obtain ⟨c0, c1⟩ := hx w hM.1
    simp [upV, go_sem, e1, evV, S5, lookV, h13, c0, c1]
    exact ⟨hDt.step (fun v' h => by simpa [V5] using h), hM⟩
  · rintro l vals w ⟨hDt, hM⟩ hl hdn hdi
    simp [upV, go_sem, e2, evV, S5, lookV, h3]
    exact ⟨hDt.step (fun v' h => by simpa [V5] using h), hM⟩
  · rintro l vals w ⟨hDt, hM⟩ hl hdn hdi
    have d1 := hdi 1 (by decide)
    have v1 := hDt 1 _ rfl d1
    have d2 := hdi 2 (by decide)
    have v2 := hDt 2 _ rfl d2
    simp [upV, go_sem, e3, evV, S5, lookV, d1, v1, d2, v2]
    refine (C23 w hM.1).mono ?_
    rintro e w' ⟨qa, qc, q, rfl, hI, hb⟩
    exact ⟨_, rfl, hDt.step (fun v' h => by simp [V5] at h), hM.1.trans (hb.mono hM.1.size), fun _ => ⟨qa, qc, q, rfl, hI⟩⟩
  · rintro l vals w ⟨hDt, hM⟩ hl hdn hdi
    simp [upV, go_sem, e4, evV, S5, lookV, h4]
    exact ⟨hDt.step (fun v' h => by simpa [V5] using h), hM⟩
  · rintro l vals w ⟨hDt, hM⟩ hl hdn hdi
    simp [upV, go_sem, e5, evV, S5, lookV, h13]
    exact ⟨hDt.step (fun v' h => by simpa [V5] using h), hM⟩
  · rintro l vals w ⟨hDt, hM⟩ hl hdn hdi
    have d1 := hdi 5 (by decide)
    have v1 := hDt 5 _ rfl d1
    obtain ⟨c0, c1⟩ := hx w hM.1
    simp [upV, go_sem, e6, evV, S5, lookV, d1, v1, c1]
    exact ⟨hDt.step (fun v' h => by simpa [V5] using h), hM⟩
  · rintro l vals w ⟨hDt, hM⟩ hl hdn hdi
    have d1 := hdi 6 (by decide)
    have v1 := hDt 6 _ rfl d1
    simp [upV, go_sem, e7, evV, S5, lookV, d1, v1]
    exact ⟨hDt.step (fun v' h => by simpa [V5] using h), hM⟩
  · rintro l vals w ⟨hDt, hM⟩ hl hdn hdi
    have d1 := hdi 4 (by decide)
    have v1 := hDt 4 _ rfl d1
    have d2 := hdi 7 (by decide)
    have v2 := hDt 7 _ rfl d2
    simp [upV, go_sem, e8, evV, S5, lookV, d1, v1, d2, v2]
    refine (C4 w).mono ?_
    rintro e w' ⟨rfl, rfl⟩
    exact ⟨_, rfl, hDt.step (fun v' h => by simpa [V5] using h), hM⟩
  · rintro l vals w ⟨hDt, hM⟩ hl hdn hdi
    simp [upV, go_sem, e9, evV, S5, lookV, h5]
    exact ⟨hDt.step (fun v' h => by simpa [V5] using h), hM⟩
  · rintro l vals w ⟨hDt, hM⟩ hl hdn hdi
    simp [upV, go_sem, e10, evV, S5, lookV, h1]
    exact ⟨hDt.step (fun v' h => by simpa [V5] using h), hM⟩
  · rintro l vals w ⟨hDt, hM⟩ hl hdn hdi
    have d1 := hdi 9 (by decide)
    have v1 := hDt 9 _ rfl d1
    have d2 := hdi 10 (by decide)
    have v2 := hDt 10 _ rfl d2
    simp [upV, go_sem, e11, evV, S5, lookV, d1, v1, d2, v2]
    refine (C5 w).mono ?_
    rintro e w' ⟨rfl, rfl⟩
    exact ⟨_, rfl, hDt.step (fun v' h => by simpa [V5] using h), hM⟩
  · rintro l vals w ⟨hDt, hM⟩ hl hdn hdi
    have d0 := hdi 0 (by decide)
    have v0 := hDt 0 _ rfl d0
    have d3 := hdi 3 (by decide)
    have d8 := hdi 8 (by decide)
    have v8 := hDt 8 _ rfl d8
    have d11 := hdi 11 (by decide)
    have v11 := hDt 11 _ rfl d11
    obtain ⟨qa, qc, q, hv, hI⟩ := hM.2 d3
    simp [upV, go_sem, e12, evV, S5, lookV, d0, v0, d3, hv, d8, v8, d11, v11]
    refine (C3 w hM.1 qa qc q hI).mono ?_
    rintro e w' ⟨rfl, hb⟩
    exact ⟨_, rfl, hDt.step (fun v' h => by simpa [V5] using h), hM.1.trans (hb.mono hM.1.size), fun _ => ⟨qa, qc, q, hv, hI.later hb⟩⟩
  · rintro l vals w ⟨hDt, hM⟩ hl hdn hdi
    have d1 := hdi 12 (by decide)
    have v1 := hDt 12 _ rfl d1
    simp [upV, go_sem, e13, evV, S5, lookV, d1, v1]
    exact ⟨hDt.step (fun v' h => by simpa [V5] using h), hM⟩
end Go.Proofs.Ytbcchbhchfdbiaa
