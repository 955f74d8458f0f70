import Derived.Test.YtffnhflbhckhbaaDoorQP
namespace Go.Proofs.YtffnhflbhckhbaaDoor
open Go.RowKit Go.Shelf
attribute [local go_sem] Oper.semAt_some
def Da : List (List Nat) := [[], [], [1], [0, 2]]
def Sa : List (Option Tmp) := [some 15, some 16, some 17, some 18]
def Va (gv rd rw : Int) (fa : Option Addr) (fn fc u : Nat) (eb : Bool) : List (Option Value) := [some (.int .i64 (u : Int)), some (swV gv rd rw fa fn fc), some (.int .i64 ((2 ^ fn - 1 : Nat) : Int)), some (.bool eb)]
set_option maxRecDepth 100000 in
set_option maxHeartbeats 4000000 in
theorem stepsa {mm : Nat} {W : World} {gv rd rw : Int} {fa : Option Addr} {fn fc u Bs Bu : Nat} {eb : Bool} {t0 : Array Value} (h4 : t0[4]? = some (.pointer (some ⟨Bu, 0, none⟩))) (h3 : t0[3]? = some (.pointer (some ⟨Bs, 0, none⟩))) (lu : Bu < W.heap.size) (cu : W.cell? ⟨Bu, 0, none⟩ = some (.int .i64 (u : Int))) (hS : SBox W Bs gv rd rw fa fn fc) (h8 : fn ≤ 8) (he : ((u : Int) == ((2 ^ fn - 1 : Nat) : Int)) = eb)
    {o0 o1 o2 o3 : Oper}
    (e0 : o0.op = .load 3 (.tmp 4)) (e1 : o1.op = .load 24 (.tmp 3)) (e2 : o2.op = .call { callee := .value (.func 14), args := #[.tmp 16], argTypes := #[24] }) (e3 : o3.op = .binOp .eql 3 (.tmp 15) (.tmp 17) 3)
    (g0 : o0.guard = none) (g1 : o1.guard = none) (g2 : o2.guard = none) (g3 : o3.guard = none) :
    StepsV Fence.wide mm Tryd.prog (fun l vals w => Det (Va gv rd rw fa fn fc u eb) l vals ∧ (Below W.heap.size W w)) Da Sa t0 0 [o0, o1, o2, o3] := by
  refine ⟨?_, ?_, ?_, ?_, trivial⟩
  · rintro l vals w ⟨hDt, hM⟩ hl hdn hdi
    refine ⟨(fun c h => by rw [e0] at h; cases h), fun _ => ?_, fun h => absurd h (by simp [wantV, g0])⟩
    have c2 := (hM.cell (p := ⟨Bu, 0, none⟩) lu).trans cu
    simp [upV, go_sem, e0, evV, Sa, lookV, h4, c2]
    exact ⟨hDt.step (fun v' h => by simpa [Va] using h), hM⟩
  · rintro l vals w ⟨hDt, hM⟩ hl hdn hdi
    refine ⟨(fun c h => by rw [e1] at h; cases h), fun _ => ?_, fun h => absurd h (by simp [wantV, g1])⟩
    have hb := hS.later hM
    have s0 := hb.c0
    have s1 := hb.c1
    have s2 := hb.c2
    have s3 := hb.c3
    simp [upV, go_sem, e1, evV, Sa, lookV, h3, s0, s1, s2, s3]
    exact ⟨hDt.step (fun v' h => by simpa [Va, swV] using h), hM⟩
  · rintro l vals w ⟨hDt, hM⟩ hl hdn hdi
    refine ⟨(fun c h => by rw [e2] at h; cases h), fun _ => ?_, fun h => absurd h (by simp [wantV, g2])⟩
    have d1 := hdi 1 (by decide)
    have v1 := hDt 1 _ rfl d1
    simp [upV, go_sem, e2, evV, Sa, lookV, d1, v1]
    refine (callsIn_wide.2 (everybody_any gv rd rw fa fn fc w h8)).mono ?_
    rintro e w' ⟨rfl, hb⟩
    exact ⟨_, rfl, hDt.step (fun v' h => by simpa [Va] using h), hM.trans (hb.mono hM.size)⟩
  · rintro l vals w ⟨hDt, hM⟩ hl hdn hdi
    refine ⟨(fun c h => by rw [e3] at h; cases h), fun _ => ?_, fun h => absurd h (by simp [wantV, g3])⟩
    have d0 := hdi 0 (by decide)
    have v0 := hDt 0 _ rfl d0
    have d2 := hdi 2 (by decide)
    have v2 := hDt 2 _ rfl d2
    simp [upV, go_sem, e3, evV, Sa, lookV, d0, v0, d2, v2, he]
    exact ⟨hDt.step (fun v' h => by simpa [Va] using h), hM⟩
def Db : List (List Nat) := [[], [], [1], [0, 2], [3, 2, 0, 1, 2, 3]]
def Sb : List (Option Tmp) := [some 47, some 48, some 49, some 50, some 13]
def Vb (u : Nat) (gb : Option Addr) (n cb : Nat) (o : List Int) : List (Option Value) := [some (.int .i64 (u : Int)), some (.slice gb n cb), some (.int .i64 ((setN o : Nat) : Int)), some (.int .i64 ((u ||| setN o : Nat) : Int)), some (.int .i64 ((u ||| setN o : Nat) : Int))]
set_option maxRecDepth 100000 in
set_option maxHeartbeats 4000000 in
theorem stepsb {mm lp : Nat} {W : World} {u Bu n cb : Nat} {gb : Option Addr} {o : List Int} {t0 : Array Value} (h4 : t0[4]? = some (.pointer (some ⟨Bu, 0, none⟩))) (h12 : t0[12]? = some (.slice gb n cb)) (lu : Bu < W.heap.size) (cu : W.cell? ⟨Bu, 0, none⟩ = some (.int .i64 (u : Int))) (hu : u < 256) (hI : Ints W gb n cb o) (h8 : Eight o)
    {o0 o1 o2 o3 o4 : Oper}
    (e0 : o0.op = .load 3 (.tmp 4)) (e1 : o1.op = .move (.tmp 12)) (e2 : o2.op = .call { callee := .value (.func 21), args := #[.tmp 48], argTypes := #[34] }) (e3 : o3.op = .binOp .or 3 (.tmp 47) (.tmp 49) 3) (e4 : o4.op = .assign (.tmp 50))
    (g0 : o0.guard = none) (g1 : o1.guard = none) (g2 : o2.guard = none) (g3 : o3.guard = none) (g4 : o4.guard = none) :
    StepsV (Fence.wide.inRound lp) mm Tryd.prog (fun l vals w => Det (Vb u gb n cb o) l vals ∧ (Below W.heap.size W w)) Db Sb t0 0 [o0, o1, o2, o3, o4] := by
  refine ⟨?_, ?_, ?_, ?_, ?_, trivial⟩
  · rintro l vals w ⟨hDt, hM⟩ hl hdn hdi
    refine ⟨(fun c h => by rw [e0] at h; cases h), fun _ => ?_, fun h => absurd h (by simp [wantV, g0])⟩
    have c2 := (hM.cell (p := ⟨Bu, 0, none⟩) lu).trans cu
    simp [upV, go_sem, e0, evV, Sb, lookV, h4, c2]
    exact ⟨hDt.step (fun v' h => by simpa [Vb] using h), hM⟩
  · rintro l vals w ⟨hDt, hM⟩ hl hdn hdi
    refine ⟨(fun c h => by rw [e1] at h; cases h), fun _ => ?_, fun h => absurd h (by simp [wantV, g1])⟩
    simp [upV, go_sem, e1, evV, Sb, lookV, h12]
    exact ⟨hDt.step (fun v' h => by simpa [Vb] using h), hM⟩
  · rintro l vals w ⟨hDt, hM⟩ hl hdn hdi
    refine ⟨(fun c h => by rw [e2] at h; cases h), fun _ => ?_, fun h => absurd h (by simp [wantV, g2])⟩
    have d1 := hdi 1 (by decide)
    have v1 := hDt 1 _ rfl d1
    simp [upV, go_sem, e2, evV, Sb, lookV, d1, v1]
    refine (CallsIn.inRound lp (callsIn_wide.2 (setOf_any gb n cb o w (hI.later hM) h8))).mono ?_
    rintro e w' ⟨rfl, rfl⟩
    exact ⟨_, rfl, hDt.step (fun v' h => by simpa [Vb] using h), hM⟩
  · rintro l vals w ⟨hDt, hM⟩ hl hdn hdi
    refine ⟨(fun c h => by rw [e3] at h; cases h), fun _ => ?_, fun h => absurd h (by simp [wantV, g3])⟩
    have d0 := hdi 0 (by decide)
    have v0 := hDt 0 _ rfl d0
    have d2 := hdi 2 (by decide)
    have v2 := hDt 2 _ rfl d2
    have hor := (or_or u hu (setN o) (setN_lt o h8)).1
    simp [upV, go_sem, e3, evV, Sb, lookV, d0, v0, d2, v2, hor]
    exact ⟨hDt.step (fun v' h => by simpa [Vb] using h), hM⟩
  · rintro l vals w ⟨hDt, hM⟩ hl hdn hdi
    refine ⟨(fun c h => by rw [e4] at h; cases h), fun _ => ?_, fun h => absurd h (by simp [wantV, g4])⟩
    have d3 := hdi 3 (by decide)
    have v3 := hDt 3 _ rfl d3
    simp [upV, go_sem, e4, evV, Sb, lookV, d3, v3]
    exact ⟨hDt.step (fun v' h => by simpa [Vb] using h), hM⟩
def Dc : List (List Nat) := [[], [], [0, 1], [], [], [], [3, 4, 5, 2], [2, 6], [7, 6, 0, 1, 2, 3, 4, 5, 6, 7]]
def Sc : List (Option Tmp) := [some 51, some 52, some 53, some 54, some 55, some 56, some 57, some 58, some 14]
def Vc (gv rd rw gf : Int) (fa : Option Addr) (fn fc u2 bM : Nat) (gb : Option Addr) (n cb : Nat) : List (Option Value) := [some (swV gv rd rw fa fn fc), some (.slice gb n cb), some (.int .i64 gf), some (swV gv rd rw fa fn fc), some (.int .i64 (u2 : Int)), some (.map (some bM)), none, none, none]
set_option maxRecDepth 100000 in
set_option maxHeartbeats 4000000 in
theorem stepsc {mm lp : Nat} {W : World} {gv rd rw gf : Int} {fa : Option Addr} {fn fc u2 bM Bs Bf n cb : Nat} {gb : Option Addr} {R : Int → World → Prop} {t0 : Array Value} (h3 : t0[3]? = some (.pointer (some ⟨Bs, 0, none⟩))) (h12 : t0[12]? = some (.slice gb n cb)) (h13 : t0[13]? = some (.int .i64 (u2 : Int))) (h5 : t0[5]? = some (.pointer (some ⟨Bf, 0, none⟩))) (lf : Bf < W.heap.size) (cf : W.cell? ⟨Bf, 0, none⟩ = some (.map (some bM))) (hS : SBox W Bs gv rd rw fa fn fc) (hgf : 0 ≤ gf ∧ gf ≤ 100) (hG : ∀ X, Below W.heap.size W X → Calls Tryd.prog 20 #[swV gv rd rw fa fn fc, .slice gb n cb] X fun e X' => e = .returned (.int .i64 gf) ∧ Below X.heap.size X X') (hSr : ∀ X, Below W.heap.size W X → Calls Tryd.prog 13 #[swV gv rd rw fa fn fc, .int .i64 (u2 : Int), .map (some bM)] X fun e X' => ∃ v, e = .returned (.int .i64 v) ∧ (0 ≤ v ∧ v ≤ 8) ∧ R v X')
    {o0 o1 o2 o3 o4 o5 o6 o7 o8 : Oper}
    (e0 : o0.op = .load 24 (.tmp 3)) (e1 : o1.op = .move (.tmp 12)) (e2 : o2.op = .call { callee := .value (.func 20), args := #[.tmp 51, .tmp 52], argTypes := #[24, 34] }) (e3 : o3.op = .load 24 (.tmp 3)) (e4 : o4.op = .move (.tmp 13)) (e5 : o5.op = .load 37 (.tmp 5)) (e6 : o6.op = .call { callee := .value (.func 13), args := #[.tmp 54, .tmp 55, .tmp 56], argTypes := #[24, 3, 37] }) (e7 : o7.op = .binOp .add 3 (.tmp 53) (.tmp 57) 3) (e8 : o8.op = .assign (.tmp 58))
    (g0 : o0.guard = none) (g1 : o1.guard = none) (g2 : o2.guard = none) (g3 : o3.guard = none) (g4 : o4.guard = none) (g5 : o5.guard = none) (g6 : o6.guard = none) (g7 : o7.guard = none) (g8 : o8.guard = none) :
    StepsV (Fence.wide.inRound lp) mm Tryd.prog (fun l vals w => Det (Vc gv rd rw gf fa fn fc u2 bM gb n cb) l vals ∧ ((l 6 = false → Below W.heap.size W w) ∧ (l 6 = true → ∃ v, vals 6 = .int .i64 v ∧ (0 ≤ v ∧ v ≤ 8) ∧ R v w ∧ (l 7 = true → vals 7 = .int .i64 (gf + v)) ∧ (l 8 = true → vals 8 = .int .i64 (gf + v))))) Dc Sc t0 0 [o0, o1, o2, o3, o4, o5, o6, o7, o8] := by
  refine ⟨?_, ?_, ?_, ?_, ?_, ?_, ?_, ?_, ?_, trivial⟩
  · rintro l vals w ⟨hDt, hM⟩ hl hdn hdi
    refine ⟨(fun c h => by rw [e0] at h; cases h), fun _ => ?_, fun h => absurd h (by simp [wantV, g0])⟩
    have l6 : l 6 = false := by
      cases q0 : l 6 with
      | false => rfl
      | true =>
        have q1 := hdn 6 q0 2 (by decide)
        have q2 := hdn 2 q1 0 (by decide)
        exact absurd (hl.symm.trans q2) (by simp)
    have hb := hM.1 l6
    have hs := hS.later hb
    have s0 := hs.c0
    have s1 := hs.c1
    have s2 := hs.c2
    have s3 := hs.c3
    simp [upV, go_sem, e0, evV, Sc, lookV, h3, s0, s1, s2, s3]
    exact ⟨hDt.step (fun v' h => by simpa [Vc, swV] using h), ⟨fun q => hM.1 (by simpa [updB] using q), fun q => by obtain ⟨v, k1, k2, k3, k4, k5⟩ := hM.2 (by simpa [updB] using q); exact ⟨v, by simpa [updV] using k1, k2, k3, fun q => by simpa [updV] using k4 (by simpa [updB] using q), fun q => by simpa [updV] using k5 (by simpa [updB] using q)⟩⟩⟩
  · rintro l vals w ⟨hDt, hM⟩ hl hdn hdi
    refine ⟨(fun c h => by rw [e1] at h; cases h), fun _ => ?_, fun h => absurd h (by simp [wantV, g1])⟩
    simp [upV, go_sem, e1, evV, Sc, lookV, h12]
    exact ⟨hDt.step (fun v' h => by simpa [Vc] using h), ⟨fun q => hM.1 (by simpa [updB] using q), fun q => by obtain ⟨v, k1, k2, k3, k4, k5⟩ := hM.2 (by simpa [updB] using q); exact ⟨v, by simpa [updV] using k1, k2, k3, fun q => by simpa [updV] using k4 (by simpa [updB] using q), fun q => by simpa [updV] using k5 (by simpa [updB] using q)⟩⟩⟩
  · rintro l vals w ⟨hDt, hM⟩ hl hdn hdi
    refine ⟨(fun c h => by rw [e2] at h; cases h), fun _ => ?_, fun h => absurd h (by simp [wantV, g2])⟩
    have d0 := hdi 0 (by decide)
    have v0 := hDt 0 _ rfl d0
    have d1 := hdi 1 (by decide)
    have v1 := hDt 1 _ rfl d1
    have l6 : l 6 = false := by
      cases q0 : l 6 with
      | false => rfl
      | true =>
        have q1 := hdn 6 q0 2 (by decide)
        exact absurd (hl.symm.trans q1) (by simp)
    have hb := hM.1 l6
    simp [upV, go_sem, e2, evV, Sc, lookV, d0, v0, d1, v1]
    refine (CallsIn.inRound lp (callsIn_wide.2 (hG w hb))).mono ?_
    rintro e w' ⟨rfl, hb'⟩
    exact ⟨_, rfl, hDt.step (fun v' h => by simpa [Vc] using h), fun _ => hb.trans (hb'.mono hb.size), fun q => absurd q (by simp [updB, l6])⟩
  · rintro l vals w ⟨hDt, hM⟩ hl hdn hdi
    refine ⟨(fun c h => by rw [e3] at h; cases h), fun _ => ?_, fun h => absurd h (by simp [wantV, g3])⟩
    have l6 : l 6 = false := by
      cases q0 : l 6 with
      | false => rfl
      | true =>
        have q1 := hdn 6 q0 3 (by decide)
        exact absurd (hl.symm.trans q1) (by simp)
    have hb := hM.1 l6
    have hs := hS.later hb
    have s0 := hs.c0
    have s1 := hs.c1
    have s2 := hs.c2
    have s3 := hs.c3
    simp [upV, go_sem, e3, evV, Sc, lookV, h3, s0, s1, s2, s3]
    exact ⟨hDt.step (fun v' h => by simpa [Vc, swV] using h), ⟨fun q => hM.1 (by simpa [updB] using q), fun q => by obtain ⟨v, k1, k2, k3, k4, k5⟩ := hM.2 (by simpa [updB] using q); exact ⟨v, by simpa [updV] using k1, k2, k3, fun q => by simpa [updV] using k4 (by simpa [updB] using q), fun q => by simpa [updV] using k5 (by simpa [updB] using q)⟩⟩⟩
  · rintro l vals w ⟨hDt, hM⟩ hl hdn hdi
    refine ⟨(fun c h => by rw [e4] at h; cases h), fun _ => ?_, fun h => absurd h (by simp [wantV, g4])⟩
    simp [upV, go_sem, e4, evV, Sc, lookV, h13]
    exact ⟨hDt.step (fun v' h => by simpa [Vc] using h), ⟨fun q => hM.1 (by simpa [updB] using q), fun q => by obtain ⟨v, k1, k2, k3, k4, k5⟩ := hM.2 (by simpa [updB] using q); exact ⟨v, by simpa [updV] using k1, k2, k3, fun q => by simpa [updV] using k4 (by simpa [updB] using q), fun q => by simpa [updV] using k5 (by simpa [updB] using q)⟩⟩⟩
  · rintro l vals w ⟨hDt, hM⟩ hl hdn hdi
    refine ⟨(fun c h => by rw [e5] at h; cases h), fun _ => ?_, fun h => absurd h (by simp [wantV, g5])⟩
    have l6 : l 6 = false := by
      cases q0 : l 6 with
      | false => rfl
      | true =>
        have q1 := hdn 6 q0 5 (by decide)
        exact absurd (hl.symm.trans q1) (by simp)
    have hb := hM.1 l6
    have c2 := (hb.cell (p := ⟨Bf, 0, none⟩) lf).trans cf
    simp [upV, go_sem, e5, evV, Sc, lookV, h5, c2]
    exact ⟨hDt.step (fun v' h => by simpa [Vc] using h), ⟨fun q => hM.1 (by simpa [updB] using q), fun q => by obtain ⟨v, k1, k2, k3, k4, k5⟩ := hM.2 (by simpa [updB] using q); exact ⟨v, by simpa [updV] using k1, k2, k3, fun q => by simpa [updV] using k4 (by simpa [updB] using q), fun q => by simpa [updV] using k5 (by simpa [updB] using q)⟩⟩⟩
  · rintro l vals w ⟨hDt, hM⟩ hl hdn hdi
    refine ⟨(fun c h => by rw [e6] at h; cases h), fun _ => ?_, fun h => absurd h (by simp [wantV, g6])⟩
    have d3 := hdi 3 (by decide)
    have v3 := hDt 3 _ rfl d3
    have d4 := hdi 4 (by decide)
    have v4 := hDt 4 _ rfl d4
    have d5 := hdi 5 (by decide)
    have v5 := hDt 5 _ rfl d5
    have l7 : l 7 = false := by
      cases q0 : l 7 with
      | false => rfl
      | true =>
        have q1 := hdn 7 q0 6 (by decide)
        exact absurd (hl.symm.trans q1) (by simp)
    have l8 : l 8 = false := by
      cases q0 : l 8 with
      | false => rfl
      | true =>
        have q1 := hdn 8 q0 6 (by decide)
        exact absurd (hl.symm.trans q1) (by simp)
    have hb := hM.1 hl
    simp [upV, go_sem, e6, evV, Sc, lookV, d3, v3, d4, v4, d5, v5]
    refine (CallsIn.inRound lp (callsIn_wide.2 (hSr w hb))).mono ?_
    rintro e w' ⟨v, rfl, hv, hr⟩
    exact ⟨_, rfl, hDt.step (fun v' h => by simp [Vc] at h), fun q => absurd q (by simp [updB]), fun _ => ⟨v, by simp [updV], hv, hr, fun q => absurd q (by simp [updB, l7]), fun q => absurd q (by simp [updB, l8])⟩⟩
  · rintro l vals w ⟨hDt, hM⟩ hl hdn hdi
    refine ⟨(fun c h => by rw [e7] at h; cases h), fun _ => ?_, fun h => absurd h (by simp [wantV, g7])⟩
    have d2 := hdi 2 (by decide)
    have v2 := hDt 2 _ rfl d2
    have d6 := hdi 6 (by decide)
    have l8 : l 8 = false := by
      cases q0 : l 8 with
      | false => rfl
      | true =>
        have q1 := hdn 8 q0 7 (by decide)
        exact absurd (hl.symm.trans q1) (by simp)
    obtain ⟨v, k1, k2, k3, k4, k5⟩ := hM.2 d6
    have hwr : IntKind.i64.wrap (gf + v) = gf + v := by rw [IntKind.wrap_i64]; omega
    simp [upV, go_sem, e7, evV, Sc, lookV, d2, v2, d6, k1, hwr]
    exact ⟨hDt.step (fun v' h => by simp [Vc] at h), fun q => absurd q (by simp [updB, d6]), fun _ => ⟨v, by simpa [updV] using k1, k2, k3, fun _ => by simp [updV], fun q => absurd q (by simp [updB, l8])⟩⟩
  · rintro l vals w ⟨hDt, hM⟩ hl hdn hdi
    refine ⟨(fun c h => by rw [e8] at h; cases h), fun _ => ?_, fun h => absurd h (by simp [wantV, g8])⟩
    have d7 := hdi 7 (by decide)
    have d6 := hdi 6 (by decide)
    obtain ⟨v, k1, k2, k3, k4, k5⟩ := hM.2 d6
    have k7 := k4 d7
    simp [upV, go_sem, e8, evV, Sc, lookV, d7, k7]
    exact ⟨hDt.step (fun v' h => by simp [Vc] at h), fun q => absurd q (by simp [updB, d6]), fun _ => ⟨v, by simpa [updV] using k1, k2, k3, fun _ => by simpa [updV] using k7, fun _ => by simp [updV]⟩⟩
end Go.Proofs.YtffnhflbhckhbaaDoor
