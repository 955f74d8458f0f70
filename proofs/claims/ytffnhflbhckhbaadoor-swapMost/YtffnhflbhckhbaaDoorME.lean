import Derived.Test.YtffnhflbhckhbaaDoorMC
namespace Go.Proofs.YtffnhflbhckhbaaDoor
open Go.RowKit Go.Shelf
attribute [local go_sem] Oper.semAt_some
def Dd : List (List Nat) := [[], [], [1], [2], [0, 3], [4, 4]]
def Sd : List (Option Tmp) := [some 39, some 40, some 41, some 42, some 43, some 38]
def Vd (gv rd rw x : Int) (fa : Option Addr) (fn fc b off n c : Nat) : List (Option Value) := [some (swV gv rd rw fa fn fc), some (.slice (some ⟨b, off, none⟩) n c), some (.pointer (some ⟨b, off, none⟩)), some (.int .i64 x), some (.bool (decide (x < gv))), some (.bool (decide (x < gv)))]
set_option maxRecDepth 100000 in
set_option maxHeartbeats 4000000 in
theorem stepsd {mm : Nat} {W : World} {gv rd rw x : Int} {fa : Option Addr} {fn fc b off n c Bs : Nat} {t0 : Array Value} (h1 : t0[1]? = some (.pointer (some ⟨Bs, 0, none⟩))) (h8 : t0[8]? = some (.slice (some ⟨b, off, none⟩) n c)) (hn : 0 < n) (lb : b < W.heap.size) (cb : W.cell? ⟨b, off, none⟩ = some (.int .i64 x)) (hS : SBox W Bs gv rd rw fa fn fc)
    {o0 o1 o2 o3 o4 o5 : Oper}
    (e0 : o0.op = .load 24 (.tmp 1)) (e1 : o1.op = .move (.tmp 8)) (e2 : o2.op = .indexAddr 34 (.tmp 40) (.const (.int .i64 0))) (e3 : o3.op = .load 3 (.tmp 41)) (e4 : o4.op = .call { callee := .value (.func 15), args := #[.tmp 39, .tmp 42], argTypes := #[24, 3] }) (e5 : o5.op = .assign (.tmp 43))
    (g0 : o0.guard = none) (g1 : o1.guard = none) (g2 : o2.guard = none) (g3 : o3.guard = none) (g4 : o4.guard = none) (g5 : o5.guard = none) :
    StepsV Fence.wide mm Tryd.prog (fun l vals w => Det (Vd gv rd rw x fa fn fc b off n c) l vals ∧ (Below W.heap.size W w)) Dd Sd t0 0 [o0, o1, o2, o3, o4, o5] := by
  refine ⟨?_, ?_, ?_, ?_, ?_, ?_, trivial⟩
  · rintro l vals w ⟨hDt, hM⟩ hl hdn hdi
    refine ⟨(fun c h => by rw [e0] at h; cases h), fun _ => ?_, fun h => absurd h (by simp [wantV, g0])⟩
    have hb := hS.later hM
    have s0 := hb.c0
    have s1 := hb.c1
    have s2 := hb.c2
    have s3 := hb.c3
    simp [upV, go_sem, e0, evV, Sd, lookV, h1, s0, s1, s2, s3]
    exact ⟨hDt.step (fun v' h => by simpa [Vd, swV] using h), hM⟩
  · rintro l vals w ⟨hDt, hM⟩ hl hdn hdi
    refine ⟨(fun c h => by rw [e1] at h; cases h), fun _ => ?_, fun h => absurd h (by simp [wantV, g1])⟩
    simp [upV, go_sem, e1, evV, Sd, lookV, h8]
    exact ⟨hDt.step (fun v' h => by simpa [Vd] using h), hM⟩
  · rintro l vals w ⟨hDt, hM⟩ hl hdn hdi
    refine ⟨(fun c h => by rw [e2] at h; cases h), fun _ => ?_, fun h => absurd h (by simp [wantV, g2])⟩
    have d1 := hdi 1 (by decide)
    have v1 := hDt 1 _ rfl d1
    simp [upV, go_sem, e2, evV, Sd, lookV, d1, v1, hn]
    exact ⟨hDt.step (fun v' h => by simpa [Vd] using h), hM⟩
  · rintro l vals w ⟨hDt, hM⟩ hl hdn hdi
    refine ⟨(fun c h => by rw [e3] at h; cases h), fun _ => ?_, fun h => absurd h (by simp [wantV, g3])⟩
    have d2 := hdi 2 (by decide)
    have v2 := hDt 2 _ rfl d2
    have c2 := (hM.cell (p := ⟨b, off, none⟩) lb).trans cb
    simp [upV, go_sem, e3, evV, Sd, lookV, d2, v2, c2]
    exact ⟨hDt.step (fun v' h => by simpa [Vd] using h), hM⟩
  · rintro l vals w ⟨hDt, hM⟩ hl hdn hdi
    refine ⟨(fun c h => by rw [e4] at h; cases h), fun _ => ?_, fun h => absurd h (by simp [wantV, g4])⟩
    have d0 := hdi 0 (by decide)
    have v0 := hDt 0 _ rfl d0
    have d3 := hdi 3 (by decide)
    have v3 := hDt 3 _ rfl d3
    simp [upV, go_sem, e4, evV, Sd, lookV, d0, v0, d3, v3]
    refine (callsIn_wide.2 (gives_any gv rd rw fa fn fc x w)).mono ?_
    rintro e w' ⟨rfl, hb⟩
    exact ⟨_, rfl, hDt.step (fun v' h => by simpa [Vd] using h), hM.trans (hb.mono hM.size)⟩
  · rintro l vals w ⟨hDt, hM⟩ hl hdn hdi
    refine ⟨(fun c h => by rw [e5] at h; cases h), fun _ => ?_, fun h => absurd h (by simp [wantV, g5])⟩
    have d4 := hdi 4 (by decide)
    have v4 := hDt 4 _ rfl d4
    simp [upV, go_sem, e5, evV, Sd, lookV, d4, v4]
    exact ⟨hDt.step (fun v' h => by simpa [Vd] using h), hM⟩
def Df : List (List Nat) := [[], [], [], [1, 2], [], [4], [3, 5, 3], [], [0, 6, 7, 6], [8, 8, 0, 1, 2, 3, 4, 5, 6, 7, 8]]
def Sf : List (Option Tmp) := [some 113, some 114, some 115, some 116, some 117, some 118, some 119, some 120, some 121, some 16]
def Vf (gv rd rw x : Int) (fa : Option Addr) (fn fc : Nat) (la : Option Addr) (ln lc : Nat) (ua : Option Addr) (un uc : Nat) : List (Option Value) := [some (swV gv rd rw fa fn fc), none, some (.slice la ln lc), none, some (.int .i64 x), none, none, some (.slice ua un uc), none, none]
set_option maxRecDepth 100000 in
set_option maxHeartbeats 4000000 in
theorem stepsf {mm : Nat} {W : World} {gv rd rw x : Int} {fa : Option Addr} {fn fc Bs : Nat} {la : Option Addr} {ln lc : Nat} {ua : Option Addr} {un uc : Nat} {li : List Int} {R : Value → World → Prop} {t0 : Array Value} (h3 : t0[3]? = some (.pointer (some ⟨Bs, 0, none⟩))) (h1 : t0[1]? = some (.slice la ln lc)) (h2 : t0[2]? = some (.slice ua un uc)) (h13 : t0[13]? = some (.int .i64 x)) (hS : SBox W Bs gv rd rw fa fn fc) (hI : Ints W la ln lc li) (hl9 : ln ≤ 900) (hRec : ∀ (X : World) (v2 : Value), Below W.heap.size W X → X.ownsRow W.heap.size 3 1 v2 (ln + 1) (intVals (li ++ [x])) → Calls Tryd.prog 27 #[swV gv rd rw fa fn fc, v2, .slice ua un uc] X fun e X' => ∃ v, e = .returned v ∧ R v X')
    {o0 o1 o2 o3 o4 o5 o6 o7 o8 o9 : Oper}
    (e0 : o0.op = .load 24 (.tmp 3)) (e1 : o1.op = .buildSlice 34 0 #[]) (e2 : o2.op = .move (.tmp 1)) (e3 : o3.op = .call { callee := .builtin .append, args := #[.tmp 114, .tmp 115], argTypes := #[34, 34] }) (e4 : o4.op = .move (.tmp 13)) (e5 : o5.op = .buildSlice 34 1 #[(0, .tmp 117)]) (e6 : o6.op = .call { callee := .builtin .append, args := #[.tmp 116, .tmp 118], argTypes := #[34, 34] }) (e7 : o7.op = .move (.tmp 2)) (e8 : o8.op = .call { callee := .value (.func 27), args := #[.tmp 113, .tmp 119, .tmp 120], argTypes := #[24, 34, 34] }) (e9 : o9.op = .assign (.tmp 121))
    (g0 : o0.guard = none) (g1 : o1.guard = none) (g2 : o2.guard = none) (g3 : o3.guard = none) (g4 : o4.guard = none) (g5 : o5.guard = none) (g6 : o6.guard = none) (g7 : o7.guard = none) (g8 : o8.guard = none) (g9 : o9.guard = none) :
    StepsV Fence.wide mm Tryd.prog (fun l vals w => Det (Vf gv rd rw x fa fn fc la ln lc ua un uc) l vals ∧ ((l 8 = false → Below W.heap.size W w ∧ (l 1 = true → l 3 = false → w.ownsRow W.heap.size 3 1 (vals 1) 0 (intVals [])) ∧ (l 3 = true → l 6 = false → w.ownsRow W.heap.size 3 1 (vals 3) ln (intVals li)) ∧ (l 5 = true → l 6 = false → ∃ g, vals 5 = .slice (some ⟨g, 0, none⟩) 1 1 ∧ w.cell? ⟨g, 0, none⟩ = some (.int .i64 x) ∧ (l 1 = true → l 3 = false → (vals 1).ownBlock ≠ some g)) ∧ (l 6 = true → w.ownsRow W.heap.size 3 1 (vals 6) (ln + 1) (intVals (li ++ [x])))) ∧ (l 8 = true → R (vals 8) w ∧ (l 9 = true → vals 9 = vals 8)))) Df Sf t0 0 [o0, o1, o2, o3, o4, o5, o6, o7, o8, o9] := by
  refine ⟨?_, ?_, ?_, ?_, ?_, ?_, ?_, ?_, ?_, ?_, trivial⟩
  · rintro l vals w ⟨hDt, hM⟩ hl hdn hdi
    refine ⟨(fun c h => by rw [e0] at h; cases h), fun _ => ?_, fun h => absurd h (by simp [wantV, g0])⟩
    have l8 : l 8 = false := by
      cases q0 : l 8 with
      | false => rfl
      | true =>
        have q1 := hdn 8 q0 0 (by decide)
        exact absurd (hl.symm.trans q1) (by simp)
    obtain ⟨a1, a2, a3, a4, a5⟩ := hM.1 l8
    have hb := hS.later a1
    have s0 := hb.c0
    have s1 := hb.c1
    have s2 := hb.c2
    have s3 := hb.c3
    simp [upV, go_sem, e0, evV, Sf, lookV, h3, s0, s1, s2, s3]
    exact ⟨hDt.step (fun v' h => by simpa [Vf, swV] using h), fun _ => ⟨a1, by simpa [updB, updV] using a2, by simpa [updB, updV] using a3, by simpa [updB, updV] using a4, by simpa [updB, updV] using a5⟩, fun q => absurd q (by simp [updB, l8])⟩
  · rintro l vals w ⟨hDt, hM⟩ hl hdn hdi
    refine ⟨(fun c h => by rw [e1] at h; cases h), fun _ => ?_, fun h => absurd h (by simp [wantV, g1])⟩
    have l3 : l 3 = false := by
      cases q0 : l 3 with
      | false => rfl
      | true =>
        have q1 := hdn 3 q0 1 (by decide)
        exact absurd (hl.symm.trans q1) (by simp)
    have l6 : l 6 = false := by
      cases q0 : l 6 with
      | false => rfl
      | true =>
        have q1 := hdn 6 q0 3 (by decide)
        have q2 := hdn 3 q1 1 (by decide)
        exact absurd (hl.symm.trans q2) (by simp)
    have l8 : l 8 = false := by
      cases q0 : l 8 with
      | false => rfl
      | true =>
        have q1 := hdn 8 q0 6 (by decide)
        have q2 := hdn 6 q1 3 (by decide)
        have q3 := hdn 3 q2 1 (by decide)
        exact absurd (hl.symm.trans q3) (by simp)
    obtain ⟨a1, a2, a3, a4, a5⟩ := hM.1 l8
    simp [upV, go_sem, e1, evV, Sf, lookV]
    refine ⟨hDt.step (fun v' h => by simp [Vf] at h), fun _ => ⟨a1.alloc a1.size _, fun _ _ => by simpa [updV] using own_empty w W.heap.size a1.size, fun q => absurd q (by simp [updB, l3]), fun q q2 => ?_, fun q => absurd q (by simp [updB, l6])⟩, fun q => absurd q (by simp [updB, l8])⟩
    obtain ⟨g, b1, b2, b3⟩ := a4 (by simpa [updB] using q) l6
    have hlt := World.block_lt_of_cell? w _ b2
    refine ⟨g, by simpa [updV] using b1, cell_alloc b2, fun _ _ h => ?_⟩
    simp [updV, Value.ownBlock] at h
    have hlt : g < w.heap.size := hlt
    omega
  · rintro l vals w ⟨hDt, hM⟩ hl hdn hdi
    refine ⟨(fun c h => by rw [e2] at h; cases h), fun _ => ?_, fun h => absurd h (by simp [wantV, g2])⟩
    simp [upV, go_sem, e2, evV, Sf, lookV, h1]
    exact ⟨hDt.step (fun v' h => by simpa [Vf] using h), ⟨fun q => by obtain ⟨a1, a2, a3, a4, a5⟩ := hM.1 (by simpa [updB] using q); exact ⟨a1, by simpa [updB, updV] using a2, by simpa [updB, updV] using a3, by simpa [updB, updV] using a4, by simpa [updB, updV] using a5⟩, fun q => by simpa [updB, updV] using hM.2 (by simpa [updB] using q)⟩⟩
  · rintro l vals w ⟨hDt, hM⟩ hl hdn hdi
    refine ⟨(fun c h => by rw [e3] at h; cases h), fun _ => ?_, fun h => absurd h (by simp [wantV, g3])⟩
    have d1 := hdi 1 (by decide)
    have d2 := hdi 2 (by decide)
    have v2 := hDt 2 _ rfl d2
    have l6 : l 6 = false := by
      cases q0 : l 6 with
      | false => rfl
      | true =>
        have q1 := hdn 6 q0 3 (by decide)
        exact absurd (hl.symm.trans q1) (by simp)
    have l8 : l 8 = false := by
      cases q0 : l 8 with
      | false => rfl
      | true =>
        have q1 := hdn 8 q0 6 (by decide)
        have q2 := hdn 6 q1 3 (by decide)
        exact absurd (hl.symm.trans q2) (by simp)
    obtain ⟨a1, a2, a3, a4, a5⟩ := hM.1 l8
    have ho := a2 d1 hl
    obtain ⟨vv, w2, hr, h2, hg⟩ := run_append_ints w o3.type W.heap.size (vals 1) 0 [] ho la ln lc li (hI.later a1) (by omega) a1.size
    unfold execOp
    simp only [e3, resolve, invoke, builtin, Sem.run_bind, Sem.run_pure, Result.andThen_ok, List.map_toArray, List.map_cons, List.map_nil]
    rw [show evV Sf l vals t0 (.tmp 114) = vals 1 by simp [evV, Sf, lookV, d1], show evV Sf l vals t0 (.tmp 115) = .slice la ln lc by simp [evV, Sf, lookV, d2, v2], hr]
    refine ⟨hDt.step (fun v' h => by simp [Vf] at h), fun _ => ⟨a1.grown hg a1.size (fun q hq => (ho.lt q hq).1), fun _ q => absurd q (by simp [updB]), fun _ _ => by simpa [updV] using h2, fun q q2 => ?_, fun q => absurd q (by simp [updB, l6])⟩, fun q => absurd q (by simp [updB, l8])⟩
    obtain ⟨g, b1, b2, b3⟩ := a4 (by simpa [updB] using q) l6
    have hlt : g < w.heap.size := World.block_lt_of_cell? w _ b2
    exact ⟨g, by simpa [updV] using b1, (hg.cell_far (a := ⟨g, 0, none⟩) hlt (fun e => b3 d1 hl e.symm)).trans b2, fun _ q => absurd q (by simp [updB])⟩
  · rintro l vals w ⟨hDt, hM⟩ hl hdn hdi
    refine ⟨(fun c h => by rw [e4] at h; cases h), fun _ => ?_, fun h => absurd h (by simp [wantV, g4])⟩
    simp [upV, go_sem, e4, evV, Sf, lookV, h13]
    exact ⟨hDt.step (fun v' h => by simpa [Vf] using h), ⟨fun q => by obtain ⟨a1, a2, a3, a4, a5⟩ := hM.1 (by simpa [updB] using q); exact ⟨a1, by simpa [updB, updV] using a2, by simpa [updB, updV] using a3, by simpa [updB, updV] using a4, by simpa [updB, updV] using a5⟩, fun q => by simpa [updB, updV] using hM.2 (by simpa [updB] using q)⟩⟩
  · rintro l vals w ⟨hDt, hM⟩ hl hdn hdi
    refine ⟨(fun c h => by rw [e5] at h; cases h), fun _ => ?_, fun h => absurd h (by simp [wantV, g5])⟩
    have d4 := hdi 4 (by decide)
    have v4 := hDt 4 _ rfl d4
    have l6 : l 6 = false := by
      cases q0 : l 6 with
      | false => rfl
      | true =>
        have q1 := hdn 6 q0 5 (by decide)
        exact absurd (hl.symm.trans q1) (by simp)
    have l8 : l 8 = false := by
      cases q0 : l 8 with
      | false => rfl
      | true =>
        have q1 := hdn 8 q0 6 (by decide)
        have q2 := hdn 6 q1 5 (by decide)
        exact absurd (hl.symm.trans q2) (by simp)
    obtain ⟨a1, a2, a3, a4, a5⟩ := hM.1 l8
    simp [upV, go_sem, e5, evV, Sf, lookV, d4, v4]
    refine ⟨hDt.step (fun v' h => by simp [Vf] at h), fun _ => ⟨a1.alloc a1.size _, fun q q2 => by simpa [updV] using (a2 (by simpa [updB] using q) (by simpa [updB] using q2)).alloc _, fun q q2 => by simpa [updV] using (a3 (by simpa [updB] using q) (by simpa [updB] using q2)).alloc _, fun _ _ => ⟨w.heap.size, by simp [updV], by simp, fun q q2 h => ?_⟩, fun q => absurd q (by simp [updB, l6])⟩, fun q => absurd q (by simp [updB, l8])⟩
    have := ((a2 (by simpa [updB] using q) (by simpa [updB] using q2)).lt _ (by simpa [updV] using h)).2
    omega
  · rintro l vals w ⟨hDt, hM⟩ hl hdn hdi
    refine ⟨(fun c h => by rw [e6] at h; cases h), fun _ => ?_, fun h => absurd h (by simp [wantV, g6])⟩
    have d3 := hdi 3 (by decide)
    have d5 := hdi 5 (by decide)
    have l8 : l 8 = false := by
      cases q0 : l 8 with
      | false => rfl
      | true =>
        have q1 := hdn 8 q0 6 (by decide)
        exact absurd (hl.symm.trans q1) (by simp)
    have d1 := hdn 3 d3 1 (by decide)
    obtain ⟨a1, a2, a3, a4, a5⟩ := hM.1 l8
    have ho := a3 d3 hl
    obtain ⟨g, b1, b2, b3⟩ := a4 d5 hl
    obtain ⟨v2, w2, hr, h2, hg, -⟩ := run_append_int1 w o6.type W.heap.size (vals 3) ln li ho g 1 x b2 (by omega) a1.size
    unfold execOp
    simp only [e6, resolve, invoke, builtin, Sem.run_bind, Sem.run_pure, Result.andThen_ok, List.map_toArray, List.map_cons, List.map_nil]
    rw [show evV Sf l vals t0 (.tmp 116) = vals 3 by simp [evV, Sf, lookV, d3], show evV Sf l vals t0 (.tmp 118) = .slice (some ⟨g, 0, none⟩) 1 1 by simp [evV, Sf, lookV, d5, b1], hr]
    exact ⟨hDt.step (fun v' h => by simp [Vf] at h), fun _ => ⟨a1.grown hg a1.size (fun q hq => (ho.lt q hq).1), fun _ q => absurd q (by simp [updB, d3]), fun _ q => absurd q (by simp [updB]), fun _ q => absurd q (by simp [updB]), fun _ => by simpa [updV] using h2⟩, fun q => absurd q (by simp [updB, l8])⟩
  · rintro l vals w ⟨hDt, hM⟩ hl hdn hdi
    refine ⟨(fun c h => by rw [e7] at h; cases h), fun _ => ?_, fun h => absurd h (by simp [wantV, g7])⟩
    simp [upV, go_sem, e7, evV, Sf, lookV, h2]
    exact ⟨hDt.step (fun v' h => by simpa [Vf] using h), ⟨fun q => by obtain ⟨a1, a2, a3, a4, a5⟩ := hM.1 (by simpa [updB] using q); exact ⟨a1, by simpa [updB, updV] using a2, by simpa [updB, updV] using a3, by simpa [updB, updV] using a4, by simpa [updB, updV] using a5⟩, fun q => by simpa [updB, updV] using hM.2 (by simpa [updB] using q)⟩⟩
  · rintro l vals w ⟨hDt, hM⟩ hl hdn hdi
    refine ⟨(fun c h => by rw [e8] at h; cases h), fun _ => ?_, fun h => absurd h (by simp [wantV, g8])⟩
    have d0 := hdi 0 (by decide)
    have v0 := hDt 0 _ rfl d0
    have d6 := hdi 6 (by decide)
    have d7 := hdi 7 (by decide)
    have v7 := hDt 7 _ rfl d7
    have l9 : l 9 = false := by
      cases q0 : l 9 with
      | false => rfl
      | true =>
        have q1 := hdn 9 q0 8 (by decide)
        exact absurd (hl.symm.trans q1) (by simp)
    obtain ⟨a1, a2, a3, a4, a5⟩ := hM.1 hl
    simp [upV, go_sem, e8, evV, Sf, lookV, d0, v0, d6, d7, v7]
    refine (callsIn_wide.2 (hRec w (vals 6) a1 (a5 d6))).mono ?_
    rintro e w' ⟨v, rfl, hr⟩
    exact ⟨v, rfl, hDt.step (fun v' h => by simp [Vf] at h), fun q => absurd q (by simp [updB]), fun _ => ⟨by simpa [updV] using hr, fun q => absurd q (by simp [updB, l9])⟩⟩
  · rintro l vals w ⟨hDt, hM⟩ hl hdn hdi
    refine ⟨(fun c h => by rw [e9] at h; cases h), fun _ => ?_, fun h => absurd h (by simp [wantV, g9])⟩
    have d8 := hdi 8 (by decide)
    obtain ⟨k1, k2⟩ := hM.2 d8
    simp [upV, go_sem, e9, evV, Sf, lookV, d8]
    exact ⟨hDt.step (fun v' h => by simp [Vf] at h), fun q => absurd q (by simp [updB, d8]), fun _ => ⟨by simpa [updV] using k1, fun _ => by simp [updV]⟩⟩
def Dg : List (List Nat) := [[], [], [], [2], [], [], [4, 5], [], [], [7, 8], [9], [6, 10, 6], [1, 3, 11, 11], [0, 12], [13, 12, 0, 1, 2, 3, 4, 5, 6, 7, 8, 9, 10, 11, 12, 13]]
def Sg : List (Option Tmp) := [some 49, some 50, some 51, some 52, some 53, some 54, some 55, some 56, some 57, some 58, some 59, some 60, some 61, some 62, some 11]
def Vg (gv rd rw n1 : Int) (fa : Option Addr) (fn fc at0 : Nat) (la : Option Addr) (ln lc : Nat) (ua : Option Addr) (un uc b off pn pc k : Nat) : List (Option Value) := [some (.int .i64 n1), some (swV gv rd rw fa fn fc), some (.int .i64 (at0 : Int)), some (.int .i64 ((at0 : Int) + 1)), none, some (.slice ua un uc), none, some (.slice (some ⟨b, off, none⟩) pn pc), some (.int .i64 (k : Int)), some (.pointer (some ⟨b, off + k, none⟩)), some (.slice la ln lc), none, none, none, none]
set_option maxRecDepth 100000 in
set_option maxHeartbeats 4000000 in
theorem stepsg {mm : Nat} {W : World} {gv rd rw n1 : Int} {fa : Option Addr} {fn fc at0 Bs : Nat} {la : Option Addr} {ln lc : Nat} {ua : Option Addr} {un uc b off pn pc k : Nat} {li ui : List Int} {R : Int → World → Prop} {t0 : Array Value} (h3 : t0[3]? = some (.pointer (some ⟨Bs, 0, none⟩))) (h1 : t0[1]? = some (.int .i64 (at0 : Int))) (h2 : t0[2]? = some (.slice ua un uc)) (h11 : t0[11]? = some (.int .i64 n1)) (h9 : t0[9]? = some (.slice (some ⟨b, off, none⟩) pn pc)) (h10 : t0[10]? = some (.int .i64 (k : Int))) (hk : k < pn) (ha8 : at0 ≤ 100) (hn1 : 0 ≤ n1 ∧ n1 ≤ 100) (lb : b < W.heap.size) (cb : W.cell? ⟨b, off + k, none⟩ = some (.slice la ln lc)) (hS : SBox W Bs gv rd rw fa fn fc) (hI : Ints W la ln lc li) (hU : Ints W ua un uc ui) (hl9 : un + ln ≤ 900) (hRec : ∀ (X : World) (v2 : Value), Below W.heap.size W X → X.ownsRow W.heap.size 3 1 v2 (un + ln) (intVals (ui ++ li)) → Calls Tryd.prog 17 #[swV gv rd rw fa fn fc, .int .i64 ((at0 : Int) + 1), v2] X fun e X' => ∃ v, e = .returned (.int .i64 v) ∧ (0 ≤ v ∧ v ≤ 8) ∧ R v X')
    {o0 o1 o2 o3 o4 o5 o6 o7 o8 o9 o10 o11 o12 o13 o14 : Oper}
    (e0 : o0.op = .move (.tmp 11)) (e1 : o1.op = .load 24 (.tmp 3)) (e2 : o2.op = .move (.tmp 1)) (e3 : o3.op = .binOp .add 3 (.tmp 51) (.const (.int .i64 1)) 3) (e4 : o4.op = .buildSlice 34 0 #[]) (e5 : o5.op = .move (.tmp 2)) (e6 : o6.op = .call { callee := .builtin .append, args := #[.tmp 53, .tmp 54], argTypes := #[34, 34] }) (e7 : o7.op = .move (.tmp 9)) (e8 : o8.op = .move (.tmp 10)) (e9 : o9.op = .indexAddr 22 (.tmp 56) (.tmp 57)) (e10 : o10.op = .load 34 (.tmp 58)) (e11 : o11.op = .call { callee := .builtin .append, args := #[.tmp 55, .tmp 59], argTypes := #[34, 34] }) (e12 : o12.op = .call { callee := .value (.func 17), args := #[.tmp 50, .tmp 52, .tmp 60], argTypes := #[24, 3, 34] }) (e13 : o13.op = .binOp .add 3 (.tmp 49) (.tmp 61) 3) (e14 : o14.op = .assign (.tmp 62))
    (g0 : o0.guard = none) (g1 : o1.guard = none) (g2 : o2.guard = none) (g3 : o3.guard = none) (g4 : o4.guard = none) (g5 : o5.guard = none) (g6 : o6.guard = none) (g7 : o7.guard = none) (g8 : o8.guard = none) (g9 : o9.guard = none) (g10 : o10.guard = none) (g11 : o11.guard = none) (g12 : o12.guard = none) (g13 : o13.guard = none) (g14 : o14.guard = none) :
    StepsV Fence.wide mm Tryd.prog (fun l vals w => Det (Vg gv rd rw n1 fa fn fc at0 la ln lc ua un uc b off pn pc k) l vals ∧ ((l 12 = false → Below W.heap.size W w ∧ (l 4 = true → l 6 = false → w.ownsRow W.heap.size 3 1 (vals 4) 0 (intVals [])) ∧ (l 6 = true → l 11 = false → w.ownsRow W.heap.size 3 1 (vals 6) un (intVals ui)) ∧ (l 11 = true → w.ownsRow W.heap.size 3 1 (vals 11) (un + ln) (intVals (ui ++ li)))) ∧ (l 12 = true → ∃ v, vals 12 = .int .i64 v ∧ (0 ≤ v ∧ v ≤ 8) ∧ R v w ∧ (l 13 = true → vals 13 = .int .i64 (n1 + v)) ∧ (l 14 = true → vals 14 = .int .i64 (n1 + v))))) Dg Sg t0 0 [o0, o1, o2, o3, o4, o5, o6, o7, o8, o9, o10, o11, o12, o13, o14] := by
  refine ⟨?_, ?_, ?_, ?_, ?_, ?_, ?_, ?_, ?_, ?_, ?_, ?_, ?_, ?_, ?_, trivial⟩
  · rintro l vals w ⟨hDt, hM⟩ hl hdn hdi
    refine ⟨(fun c h => by rw [e0] at h; cases h), fun _ => ?_, fun h => absurd h (by simp [wantV, g0])⟩
    have l14 : l 14 = false := by
      cases q0 : l 14 with
      | false => rfl
      | true =>
        have q1 := hdn 14 q0 0 (by decide)
        exact absurd (hl.symm.trans q1) (by simp)
    simp [upV, go_sem, e0, evV, Sg, lookV, h11, l14]
    exact ⟨hDt.step (fun v' h => by simpa [Vg] using h), ⟨fun q => by obtain ⟨a1, a2, a3, a5⟩ := hM.1 (by simpa [updB] using q); exact ⟨a1, by simpa [updB, updV] using a2, by simpa [updB, updV] using a3, by simpa [updB, updV] using a5⟩, fun q => by simpa [updB, updV] using hM.2 (by simpa [updB] using q)⟩⟩
  · rintro l vals w ⟨hDt, hM⟩ hl hdn hdi
    refine ⟨(fun c h => by rw [e1] at h; cases h), fun _ => ?_, fun h => absurd h (by simp [wantV, g1])⟩
    have l12 : l 12 = false := by
      cases q0 : l 12 with
      | false => rfl
      | true =>
        have q1 := hdn 12 q0 1 (by decide)
        exact absurd (hl.symm.trans q1) (by simp)
    obtain ⟨a1, a2, a3, a5⟩ := hM.1 l12
    have hb := hS.later a1
    have s0 := hb.c0
    have s1 := hb.c1
    have s2 := hb.c2
    have s3 := hb.c3
    simp [upV, go_sem, e1, evV, Sg, lookV, h3, s0, s1, s2, s3]
    exact ⟨hDt.step (fun v' h => by simpa [Vg, swV] using h), fun _ => ⟨a1, by simpa [updB, updV] using a2, by simpa [updB, updV] using a3, by simpa [updB, updV] using a5⟩, fun q => absurd q (by simp [updB, l12])⟩
  · rintro l vals w ⟨hDt, hM⟩ hl hdn hdi
    refine ⟨(fun c h => by rw [e2] at h; cases h), fun _ => ?_, fun h => absurd h (by simp [wantV, g2])⟩
    simp [upV, go_sem, e2, evV, Sg, lookV, h1]
    exact ⟨hDt.step (fun v' h => by simpa [Vg] using h), ⟨fun q => by obtain ⟨a1, a2, a3, a5⟩ := hM.1 (by simpa [updB] using q); exact ⟨a1, by simpa [updB, updV] using a2, by simpa [updB, updV] using a3, by simpa [updB, updV] using a5⟩, fun q => by simpa [updB, updV] using hM.2 (by simpa [updB] using q)⟩⟩
  · rintro l vals w ⟨hDt, hM⟩ hl hdn hdi
    refine ⟨(fun c h => by rw [e3] at h; cases h), fun _ => ?_, fun h => absurd h (by simp [wantV, g3])⟩
    have d2 := hdi 2 (by decide)
    have v2 := hDt 2 _ rfl d2
    have hwr : IntKind.i64.wrap ((at0 : Int) + 1) = (at0 : Int) + 1 := by rw [IntKind.wrap_i64]; omega
    simp [upV, go_sem, e3, evV, Sg, lookV, d2, v2, hwr]
    exact ⟨hDt.step (fun v' h => by simpa [Vg] using h), ⟨fun q => by obtain ⟨a1, a2, a3, a5⟩ := hM.1 (by simpa [updB] using q); exact ⟨a1, by simpa [updB, updV] using a2, by simpa [updB, updV] using a3, by simpa [updB, updV] using a5⟩, fun q => by simpa [updB, updV] using hM.2 (by simpa [updB] using q)⟩⟩
  · rintro l vals w ⟨hDt, hM⟩ hl hdn hdi
    refine ⟨(fun c h => by rw [e4] at h; cases h), fun _ => ?_, fun h => absurd h (by simp [wantV, g4])⟩
    have l6 : l 6 = false := by
      cases q0 : l 6 with
      | false => rfl
      | true =>
        have q1 := hdn 6 q0 4 (by decide)
        exact absurd (hl.symm.trans q1) (by simp)
    have l11 : l 11 = false := by
      cases q0 : l 11 with
      | false => rfl
      | true =>
        have q1 := hdn 11 q0 6 (by decide)
        have q2 := hdn 6 q1 4 (by decide)
        exact absurd (hl.symm.trans q2) (by simp)
    have l12 : l 12 = false := by
      cases q0 : l 12 with
      | false => rfl
      | true =>
        have q1 := hdn 12 q0 11 (by decide)
        have q2 := hdn 11 q1 6 (by decide)
        have q3 := hdn 6 q2 4 (by decide)
        exact absurd (hl.symm.trans q3) (by simp)
    obtain ⟨a1, a2, a3, a5⟩ := hM.1 l12
    simp [upV, go_sem, e4, evV, Sg, lookV]
    exact ⟨hDt.step (fun v' h => by simp [Vg] at h), fun _ => ⟨a1.alloc a1.size _, fun _ _ => by simpa [updV] using own_empty w W.heap.size a1.size, fun q => absurd q (by simp [updB, l6]), fun q => absurd q (by simp [updB, l11])⟩, fun q => absurd q (by simp [updB, l12])⟩
  · rintro l vals w ⟨hDt, hM⟩ hl hdn hdi
    refine ⟨(fun c h => by rw [e5] at h; cases h), fun _ => ?_, fun h => absurd h (by simp [wantV, g5])⟩
    simp [upV, go_sem, e5, evV, Sg, lookV, h2]
    exact ⟨hDt.step (fun v' h => by simpa [Vg] using h), ⟨fun q => by obtain ⟨a1, a2, a3, a5⟩ := hM.1 (by simpa [updB] using q); exact ⟨a1, by simpa [updB, updV] using a2, by simpa [updB, updV] using a3, by simpa [updB, updV] using a5⟩, fun q => by simpa [updB, updV] using hM.2 (by simpa [updB] using q)⟩⟩
  · rintro l vals w ⟨hDt, hM⟩ hl hdn hdi
    refine ⟨(fun c h => by rw [e6] at h; cases h), fun _ => ?_, fun h => absurd h (by simp [wantV, g6])⟩
    have d4 := hdi 4 (by decide)
    have d5 := hdi 5 (by decide)
    have v5 := hDt 5 _ rfl d5
    have l11 : l 11 = false := by
      cases q0 : l 11 with
      | false => rfl
      | true =>
        have q1 := hdn 11 q0 6 (by decide)
        exact absurd (hl.symm.trans q1) (by simp)
    have l12 : l 12 = false := by
      cases q0 : l 12 with
      | false => rfl
      | true =>
        have q1 := hdn 12 q0 11 (by decide)
        have q2 := hdn 11 q1 6 (by decide)
        exact absurd (hl.symm.trans q2) (by simp)
    obtain ⟨a1, a2, a3, a5⟩ := hM.1 l12
    have ho := a2 d4 hl
    obtain ⟨v2, w2, hr, h2, hg⟩ := run_append_ints w o6.type W.heap.size (vals 4) 0 [] ho ua un uc ui (hU.later a1) (by omega) a1.size
    unfold execOp
    simp only [e6, resolve, invoke, builtin, Sem.run_bind, Sem.run_pure, Result.andThen_ok, List.map_toArray, List.map_cons, List.map_nil]
    rw [show evV Sg l vals t0 (.tmp 53) = vals 4 by simp [evV, Sg, lookV, d4], show evV Sg l vals t0 (.tmp 54) = .slice ua un uc by simp [evV, Sg, lookV, d5, v5], hr]
    exact ⟨hDt.step (fun v' h => by simp [Vg] at h), fun _ => ⟨a1.grown hg a1.size (fun q hq => (ho.lt q hq).1), fun _ q => absurd q (by simp [updB]), fun _ _ => by simpa [updV] using h2, fun q => absurd q (by simp [updB, l11])⟩, fun q => absurd q (by simp [updB, l12])⟩
  · rintro l vals w ⟨hDt, hM⟩ hl hdn hdi
    refine ⟨(fun c h => by rw [e7] at h; cases h), fun _ => ?_, fun h => absurd h (by simp [wantV, g7])⟩
    simp [upV, go_sem, e7, evV, Sg, lookV, h9]
    exact ⟨hDt.step (fun v' h => by simpa [Vg] using h), ⟨fun q => by obtain ⟨a1, a2, a3, a5⟩ := hM.1 (by simpa [updB] using q); exact ⟨a1, by simpa [updB, updV] using a2, by simpa [updB, updV] using a3, by simpa [updB, updV] using a5⟩, fun q => by simpa [updB, updV] using hM.2 (by simpa [updB] using q)⟩⟩
  · rintro l vals w ⟨hDt, hM⟩ hl hdn hdi
    refine ⟨(fun c h => by rw [e8] at h; cases h), fun _ => ?_, fun h => absurd h (by simp [wantV, g8])⟩
    simp [upV, go_sem, e8, evV, Sg, lookV, h10]
    exact ⟨hDt.step (fun v' h => by simpa [Vg] using h), ⟨fun q => by obtain ⟨a1, a2, a3, a5⟩ := hM.1 (by simpa [updB] using q); exact ⟨a1, by simpa [updB, updV] using a2, by simpa [updB, updV] using a3, by simpa [updB, updV] using a5⟩, fun q => by simpa [updB, updV] using hM.2 (by simpa [updB] using q)⟩⟩
  · rintro l vals w ⟨hDt, hM⟩ hl hdn hdi
    refine ⟨(fun c h => by rw [e9] at h; cases h), fun _ => ?_, fun h => absurd h (by simp [wantV, g9])⟩
    have d7 := hdi 7 (by decide)
    have v7 := hDt 7 _ rfl d7
    have d8 := hdi 8 (by decide)
    have v8 := hDt 8 _ rfl d8
    have hlt : (k : Int) < (pn : Int) := by omega
    simp [upV, go_sem, e9, evV, Sg, lookV, d7, v7, d8, v8, hlt]
    exact ⟨hDt.step (fun v' h => by simpa [Vg] using h), ⟨fun q => by obtain ⟨a1, a2, a3, a5⟩ := hM.1 (by simpa [updB] using q); exact ⟨a1, by simpa [updB, updV] using a2, by simpa [updB, updV] using a3, by simpa [updB, updV] using a5⟩, fun q => by simpa [updB, updV] using hM.2 (by simpa [updB] using q)⟩⟩
  · rintro l vals w ⟨hDt, hM⟩ hl hdn hdi
    refine ⟨(fun c h => by rw [e10] at h; cases h), fun _ => ?_, fun h => absurd h (by simp [wantV, g10])⟩
    have d9 := hdi 9 (by decide)
    have v9 := hDt 9 _ rfl d9
    have l12 : l 12 = false := by
      cases q0 : l 12 with
      | false => rfl
      | true =>
        have q1 := hdn 12 q0 11 (by decide)
        have q2 := hdn 11 q1 10 (by decide)
        exact absurd (hl.symm.trans q2) (by simp)
    obtain ⟨a1, a2, a3, a5⟩ := hM.1 l12
    have c2 := (a1.cell (p := ⟨b, off + k, none⟩) lb).trans cb
    simp [upV, go_sem, e10, evV, Sg, lookV, d9, v9, c2]
    exact ⟨hDt.step (fun v' h => by simpa [Vg] using h), fun _ => ⟨a1, by simpa [updB, updV] using a2, by simpa [updB, updV] using a3, by simpa [updB, updV] using a5⟩, fun q => absurd q (by simp [updB, l12])⟩
  · rintro l vals w ⟨hDt, hM⟩ hl hdn hdi
    refine ⟨(fun c h => by rw [e11] at h; cases h), fun _ => ?_, fun h => absurd h (by simp [wantV, g11])⟩
    have d6 := hdi 6 (by decide)
    have d10 := hdi 10 (by decide)
    have v10 := hDt 10 _ rfl d10
    have l12 : l 12 = false := by
      cases q0 : l 12 with
      | false => rfl
      | true =>
        have q1 := hdn 12 q0 11 (by decide)
        exact absurd (hl.symm.trans q1) (by simp)
    have d4 := hdn 6 d6 4 (by decide)
    obtain ⟨a1, a2, a3, a5⟩ := hM.1 l12
    have ho := a3 d6 hl
    obtain ⟨v2, w2, hr, h2, hg⟩ := run_append_ints w o11.type W.heap.size (vals 6) un ui ho la ln lc li (hI.later a1) (by omega) a1.size
    unfold execOp
    simp only [e11, resolve, invoke, builtin, Sem.run_bind, Sem.run_pure, Result.andThen_ok, List.map_toArray, List.map_cons, List.map_nil]
    rw [show evV Sg l vals t0 (.tmp 55) = vals 6 by simp [evV, Sg, lookV, d6], show evV Sg l vals t0 (.tmp 59) = .slice la ln lc by simp [evV, Sg, lookV, d10, v10], hr]
    exact ⟨hDt.step (fun v' h => by simp [Vg] at h), fun _ => ⟨a1.grown hg a1.size (fun q hq => (ho.lt q hq).1), fun _ q => absurd q (by simp [updB, d6]), fun _ q => absurd q (by simp [updB]), fun _ => by simpa [updV] using h2⟩, fun q => absurd q (by simp [updB, l12])⟩
  · rintro l vals w ⟨hDt, hM⟩ hl hdn hdi
    refine ⟨(fun c h => by rw [e12] at h; cases h), fun _ => ?_, fun h => absurd h (by simp [wantV, g12])⟩
    have d1 := hdi 1 (by decide)
    have v1 := hDt 1 _ rfl d1
    have d3 := hdi 3 (by decide)
    have v3 := hDt 3 _ rfl d3
    have d11 := hdi 11 (by decide)
    have l13 : l 13 = false := by
      cases q0 : l 13 with
      | false => rfl
      | true =>
        have q1 := hdn 13 q0 12 (by decide)
        exact absurd (hl.symm.trans q1) (by simp)
    have l14 : l 14 = false := by
      cases q0 : l 14 with
      | false => rfl
      | true =>
        have q1 := hdn 14 q0 12 (by decide)
        exact absurd (hl.symm.trans q1) (by simp)
    obtain ⟨a1, a2, a3, a5⟩ := hM.1 hl
    simp [upV, go_sem, e12, evV, Sg, lookV, d1, v1, d3, v3, d11]
    refine (callsIn_wide.2 (hRec w (vals 11) a1 (a5 d11))).mono ?_
    rintro e w' ⟨v, rfl, hv, hr⟩
    exact ⟨_, rfl, hDt.step (fun v' h => by simp [Vg] at h), fun q => absurd q (by simp [updB]), fun _ => ⟨v, by simp [updV], hv, hr, fun q => absurd q (by simp [updB, l13]), fun q => absurd q (by simp [updB, l14])⟩⟩
  · rintro l vals w ⟨hDt, hM⟩ hl hdn hdi
    refine ⟨(fun c h => by rw [e13] at h; cases h), fun _ => ?_, fun h => absurd h (by simp [wantV, g13])⟩
    have d0 := hdi 0 (by decide)
    have v0 := hDt 0 _ rfl d0
    have d12 := hdi 12 (by decide)
    have l14 : l 14 = false := by
      cases q0 : l 14 with
      | false => rfl
      | true =>
        have q1 := hdn 14 q0 13 (by decide)
        exact absurd (hl.symm.trans q1) (by simp)
    obtain ⟨v, k1, k2, k3, k4, k5⟩ := hM.2 d12
    have hwr : IntKind.i64.wrap (n1 + v) = n1 + v := by rw [IntKind.wrap_i64]; omega
    simp [upV, go_sem, e13, evV, Sg, lookV, d0, v0, d12, k1, hwr]
    exact ⟨hDt.step (fun v' h => by simp [Vg] at h), fun q => absurd q (by simp [updB, d12]), fun _ => ⟨v, by simpa [updV] using k1, k2, k3, fun _ => by simp [updV], fun q => absurd q (by simp [updB, l14])⟩⟩
  · rintro l vals w ⟨hDt, hM⟩ hl hdn hdi
    refine ⟨(fun c h => by rw [e14] at h; cases h), fun _ => ?_, fun h => absurd h (by simp [wantV, g14])⟩
    have d13 := hdi 13 (by decide)
    have d12 := hdi 12 (by decide)
    obtain ⟨v, k1, k2, k3, k4, k5⟩ := hM.2 d12
    have k7 := k4 d13
    simp [upV, go_sem, e14, evV, Sg, lookV, d13, k7]
    exact ⟨hDt.step (fun v' h => by simp [Vg] at h), fun q => absurd q (by simp [updB, d12]), fun _ => ⟨v, by simpa [updV] using k1, k2, k3, fun _ => by simpa [updV] using k7, fun _ => by simp [updV]⟩⟩
end Go.Proofs.YtffnhflbhckhbaaDoor
