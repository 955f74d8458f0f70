import Derived.Test.YtffnhflbhckhbaaDoorQM
namespace Go.Proofs.YtffnhflbhckhbaaDoor
open Go.RowKit Go.Shelf
attribute [local go_sem] Oper.semAt_some
theorem owns_lit {w : World} {B : Nat} {x : Int} (hB : B ≤ w.heap.size) : (w.alloc (.cells #[.int .i64 x] 3)).ownsRow B 3 1 (.slice (some ⟨w.heap.size, 0, none⟩) 1 1) 1 (intVals [x]) :=
  ⟨rfl, .inr ⟨w.heap.size, 1, #[.int .i64 x], rfl, hB, heap_alloc_new _ _, Nat.le_refl _, by unfold maxLen; omega, rfl, rfl⟩⟩
def D8 : List (List Nat) := [[], [], [1], [], [], [4], [3, 5], [0, 2, 6]]
def S8 : List (Option Tmp) := [some 8, some 9, some 10, some 11, some 12, some 13, some 14, some 15]
def V8 (Bm Bs By Bg a0 u : Nat) : List (Option Value) := [some (growV Bm Bs By Bg), some (.int .i64 (a0 : Int)), none, some (.int .i64 (u : Int)), some (.int .i64 (a0 : Int)), some (.int .i64 (IntKind.i64.wrap (2 ^ a0))), some (.int .i64 ((u ||| 2 ^ a0 : Nat) : Int)), none]
set_option maxRecDepth 100000 in
set_option maxHeartbeats 4000000 in
theorem steps8 {m : Nat} {W : World} {Bm Bs By Bg Bf Bu a0 u : Nat} {R : World → Prop} {t0 : Array Value} (h6 : t0[6]? = some (.pointer (some ⟨Bg, 0, none⟩))) (h3 : t0[3]? = some (.pointer (some ⟨Bf, 0, none⟩))) (h4 : t0[4]? = some (.pointer (some ⟨Bu, 0, none⟩))) (hu : u < 256) (ha : a0 < 8) (lg : Bg < W.heap.size) (lf : Bf < W.heap.size) (lu : Bu < W.heap.size) (cg : W.cell? ⟨Bg, 0, none⟩ = some (growV Bm Bs By Bg)) (cf : W.cell? ⟨Bf, 0, none⟩ = some (.int .i64 (a0 : Int))) (cu : W.cell? ⟨Bu, 0, none⟩ = some (.int .i64 (u : Int)))
    (hG : ∀ (X : World) (g : Nat), Below W.heap.size W X → X.ownsRow W.heap.size 3 1 (.slice (some ⟨g, 0, none⟩) 1 1) 1 (intVals [(a0 : Int)]) → Calls Tryd.prog 32 #[.slice (some ⟨g, 0, none⟩) 1 1, .int .i64 ((u ||| 2 ^ a0 : Nat) : Int), .pointer (some ⟨Bm, 0, none⟩), .pointer (some ⟨Bs, 0, none⟩), .pointer (some ⟨By, 0, none⟩), .pointer (some ⟨Bg, 0, none⟩)] X fun e X' => (∃ v, e = .returned v) ∧ R X')
    {o0 o1 o2 o3 o4 o5 o6 o7 : Oper}
    (e0 : o0.op = .load 63 (.tmp 6)) (e1 : o1.op = .load 3 (.tmp 3)) (e2 : o2.op = .buildSlice 34 1 #[(0, .tmp 9)]) (e3 : o3.op = .load 3 (.tmp 4)) (e4 : o4.op = .load 3 (.tmp 3)) (e5 : o5.op = .binOp .shl 3 (.const (.int .i64 1)) (.tmp 12) 3) (e6 : o6.op = .binOp .or 3 (.tmp 11) (.tmp 13) 3) (e7 : o7.op = .call { callee := .value (.tmp 8), args := #[.tmp 10, .tmp 14], argTypes := #[34, 3] })
    (g0 : o0.guard = none) (g1 : o1.guard = none) (g2 : o2.guard = none) (g3 : o3.guard = none) (g4 : o4.guard = none) (g5 : o5.guard = none) (g6 : o6.guard = none) (g7 : o7.guard = none) :
    StepsV Fence.wide m Tryd.prog (fun l vals w => Det (V8 Bm Bs By Bg a0 u) l vals ∧ (l 7 = false → Below W.heap.size W w ∧ (l 2 = true → ∃ g, vals 2 = .slice (some ⟨g, 0, none⟩) 1 1 ∧ w.ownsRow W.heap.size 3 1 (.slice (some ⟨g, 0, none⟩) 1 1) 1 (intVals [(a0 : Int)]))) ∧ (l 7 = true → R w)) D8 S8 t0 0 [o0, o1, o2, o3, o4, o5, o6, o7] := by
  have hor : bits .or .i64 (u : Int) (IntKind.i64.wrap (2 ^ a0)) = ((u ||| 2 ^ a0 : Nat) : Int) := or_bitW u hu a0 ha
  refine ⟨?_, ?_, ?_, ?_, ?_, ?_, ?_, ?_, trivial⟩
  · rintro l vals w ⟨hDt, hM⟩ hl hdn hdi
    refine ⟨(fun c h => by rw [e0] at h; cases h), fun _ => ?_, fun h => absurd h (by simp [wantV, g0])⟩
    have l7 : l 7 = false := by
      cases q0 : l 7 with
      | false => rfl
      | true =>
        have q1 := hdn 7 q0 0 (by decide)
        exact absurd (hl.symm.trans q1) (by simp)
    have hb := (hM.1 l7).1
    have c2 := (hb.cell (p := ⟨Bg, 0, none⟩) lg).trans cg
    simp [upV, go_sem, e0, evV, S8, lookV, h6, c2]
    exact ⟨hDt.step (fun v' h => by simpa [V8] using h), ⟨fun q => ⟨(hM.1 (by simpa [updB] using q)).1, fun q2 => by obtain ⟨g, k1, k2⟩ := (hM.1 (by simpa [updB] using q)).2 (by simpa [updB] using q2); exact ⟨g, by simpa [updV] using k1, k2⟩⟩, fun q => hM.2 (by simpa [updB] using q)⟩⟩
  · rintro l vals w ⟨hDt, hM⟩ hl hdn hdi
    refine ⟨(fun c h => by rw [e1] at h; cases h), fun _ => ?_, fun h => absurd h (by simp [wantV, g1])⟩
    have l7 : l 7 = false := by
      cases q0 : l 7 with
      | false => rfl
      | true =>
        have q1 := hdn 7 q0 2 (by decide)
        have q2 := hdn 2 q1 1 (by decide)
        exact absurd (hl.symm.trans q2) (by simp)
    have hb := (hM.1 l7).1
    have c2 := (hb.cell (p := ⟨Bf, 0, none⟩) lf).trans cf
    simp [upV, go_sem, e1, evV, S8, lookV, h3, c2]
    exact ⟨hDt.step (fun v' h => by simpa [V8] using h), ⟨fun q => ⟨(hM.1 (by simpa [updB] using q)).1, fun q2 => by obtain ⟨g, k1, k2⟩ := (hM.1 (by simpa [updB] using q)).2 (by simpa [updB] using q2); exact ⟨g, by simpa [updV] using k1, k2⟩⟩, fun q => hM.2 (by simpa [updB] using q)⟩⟩
  · rintro l vals w ⟨hDt, hM⟩ hl hdn hdi
    refine ⟨(fun c h => by rw [e2] at h; cases h), fun _ => ?_, fun h => absurd h (by simp [wantV, g2])⟩
    have d1 := hdi 1 (by decide)
    have v1 := hDt 1 _ rfl d1
    have l7 : l 7 = false := by
      cases q0 : l 7 with
      | false => rfl
      | true =>
        have q1 := hdn 7 q0 2 (by decide)
        exact absurd (hl.symm.trans q1) (by simp)
    have hb := (hM.1 l7).1
    simp [upV, go_sem, e2, evV, S8, lookV, d1, v1]
    exact ⟨hDt.step (fun v' h => by simp [V8] at h), fun _ => ⟨hb.alloc hb.size _, fun _ => ⟨w.heap.size, by simp [updV], owns_lit hb.size⟩⟩, fun q => absurd q (by simp [updB, l7])⟩
  · rintro l vals w ⟨hDt, hM⟩ hl hdn hdi
    refine ⟨(fun c h => by rw [e3] at h; cases h), fun _ => ?_, fun h => absurd h (by simp [wantV, g3])⟩
    have l7 : l 7 = false := by
      cases q0 : l 7 with
      | false => rfl
      | true =>
        have q1 := hdn 7 q0 6 (by decide)
        have q2 := hdn 6 q1 3 (by decide)
        exact absurd (hl.symm.trans q2) (by simp)
    have hb := (hM.1 l7).1
    have c2 := (hb.cell (p := ⟨Bu, 0, none⟩) lu).trans cu
    simp [upV, go_sem, e3, evV, S8, lookV, h4, c2]
    exact ⟨hDt.step (fun v' h => by simpa [V8] using h), ⟨fun q => ⟨(hM.1 (by simpa [updB] using q)).1, fun q2 => by obtain ⟨g, k1, k2⟩ := (hM.1 (by simpa [updB] using q)).2 (by simpa [updB] using q2); exact ⟨g, by simpa [updV] using k1, k2⟩⟩, fun q => hM.2 (by simpa [updB] using q)⟩⟩
  · rintro l vals w ⟨hDt, hM⟩ hl hdn hdi
    refine ⟨(fun c h => by rw [e4] at h; cases h), fun _ => ?_, fun h => absurd h (by simp [wantV, g4])⟩
    have l7 : l 7 = false := by
      cases q0 : l 7 with
      | false => rfl
      | true =>
        have q1 := hdn 7 q0 6 (by decide)
        have q2 := hdn 6 q1 5 (by decide)
        have q3 := hdn 5 q2 4 (by decide)
        exact absurd (hl.symm.trans q3) (by simp)
    have hb := (hM.1 l7).1
    have c2 := (hb.cell (p := ⟨Bf, 0, none⟩) lf).trans cf
    simp [upV, go_sem, e4, evV, S8, lookV, h3, c2]
    exact ⟨hDt.step (fun v' h => by simpa [V8] using h), ⟨fun q => ⟨(hM.1 (by simpa [updB] using q)).1, fun q2 => by obtain ⟨g, k1, k2⟩ := (hM.1 (by simpa [updB] using q)).2 (by simpa [updB] using q2); exact ⟨g, by simpa [updV] using k1, k2⟩⟩, fun q => hM.2 (by simpa [updB] using q)⟩⟩
  · rintro l vals w ⟨hDt, hM⟩ hl hdn hdi
    refine ⟨(fun c h => by rw [e5] at h; cases h), fun _ => ?_, fun h => absurd h (by simp [wantV, g5])⟩
    have d4 := hdi 4 (by decide)
    have v4 := hDt 4 _ rfl d4
    have l7 : l 7 = false := by
      cases q0 : l 7 with
      | false => rfl
      | true =>
        have q1 := hdn 7 q0 6 (by decide)
        have q2 := hdn 6 q1 5 (by decide)
        exact absurd (hl.symm.trans q2) (by simp)
    have hb := (hM.1 l7).1
    simp [upV, go_sem, e5, evV, S8, lookV, d4, v4]
    exact ⟨hDt.step (fun v' h => by simpa [V8] using h), ⟨fun q => ⟨(hM.1 (by simpa [updB] using q)).1, fun q2 => by obtain ⟨g, k1, k2⟩ := (hM.1 (by simpa [updB] using q)).2 (by simpa [updB] using q2); exact ⟨g, by simpa [updV] using k1, k2⟩⟩, fun q => hM.2 (by simpa [updB] using q)⟩⟩
  · rintro l vals w ⟨hDt, hM⟩ hl hdn hdi
    refine ⟨(fun c h => by rw [e6] at h; cases h), fun _ => ?_, fun h => absurd h (by simp [wantV, g6])⟩
    have d3 := hdi 3 (by decide)
    have v3 := hDt 3 _ rfl d3
    have d5 := hdi 5 (by decide)
    have v5 := hDt 5 _ rfl d5
    have l7 : l 7 = false := by
      cases q0 : l 7 with
      | false => rfl
      | true =>
        have q1 := hdn 7 q0 6 (by decide)
        exact absurd (hl.symm.trans q1) (by simp)
    have hb := (hM.1 l7).1
    simp [upV, go_sem, e6, evV, S8, lookV, d3, v3, d5, v5, hor]
    exact ⟨hDt.step (fun v' h => by simpa [V8] using h), ⟨fun q => ⟨(hM.1 (by simpa [updB] using q)).1, fun q2 => by obtain ⟨g, k1, k2⟩ := (hM.1 (by simpa [updB] using q)).2 (by simpa [updB] using q2); exact ⟨g, by simpa [updV] using k1, k2⟩⟩, fun q => hM.2 (by simpa [updB] using q)⟩⟩
  · rintro l vals w ⟨hDt, hM⟩ hl hdn hdi
    refine ⟨(fun c h => by rw [e7] at h; cases h), fun _ => ?_, fun h => absurd h (by simp [wantV, g7])⟩
    have d0 := hdi 0 (by decide)
    have v0 := hDt 0 _ rfl d0
    have d2 := hdi 2 (by decide)
    have d6 := hdi 6 (by decide)
    have v6 := hDt 6 _ rfl d6
    obtain ⟨hb, hc⟩ := hM.1 hl
    obtain ⟨g, v2, ho⟩ := hc d2
    simp [upV, go_sem, e7, evV, S8, lookV, d0, v0, d2, v2, d6, v6, growV]
    refine (callsIn_wide.2 (hG w g hb ho)).mono ?_
    rintro e w' ⟨⟨v, rfl⟩, hr⟩
    exact ⟨_, rfl, hDt.step (fun v' h => by simp [V8] at h), fun q => absurd q (by simp [updB]), fun _ => hr⟩
/-- The chains that begin at a0. -/
def chF (s : Sw) (a0 u : Nat) : List (List Int) := chL s 9 [(a0 : Int)] (u ||| 2 ^ a0)
theorem beg_one {s : Sw} {a0 u : Nat} (ha : a0 < s.n) : Beg s [(a0 : Int)] (u ||| 2 ^ a0) :=
  ⟨by simp, fun i hi => by simp at hi, by simp, fun x hx => by rw [List.mem_singleton] at hx; subst hx; omega, fun x hx => by rw [List.mem_singleton] at hx; subst hx; rw [bit_or]; simp⟩
theorem free_le (n u : Nat) : freeN n u ≤ n := by
  unfold freeN cntF
  exact Nat.le_trans (List.length_filter_le _ _) (by simp)
set_option maxRecDepth 100000 in
set_option maxHeartbeats 2000000 in
theorem chains1_any {J : List (List Int) → (Nat → Prop) → World → Prop} {ly : Nat} (JI : Inv J) {gv rd rw : Int} {fa : Option Addr} {fn fc : Nat} {F : List Sl} (hs : (sOf gv rd rw F).Ok) (h8 : F.length ≤ 8) (hJF : ∀ pre S W, J pre S W → Lsts W fa fn fc F) (hfl : ∀ x ∈ F, x.ln ≤ 1024) {a0 u : Nat} (ha : a0 < F.length) (hu : u < 256) (hau : u.testBit a0 = false) (hY : Rounds Tryd.prog ly (Wy (sOf gv rd rw F) u (a0 : Int)) J)
    {Bm Bs Bf Bu : Nat} (S : Nat → Prop) (W : World) (hJ : J [] S W) (hIt : It W Bm Bs Bf Bu gv rd rw (a0 : Int) fa fn fc u) (sm : ¬ S Bm) (ss : ¬ S Bs) :
    Calls Tryd.prog 31 #[.func (.yield ly) #[] #[], .pointer (some ⟨Bm, 0, none⟩), .pointer (some ⟨Bs, 0, none⟩), .pointer (some ⟨Bf, 0, none⟩), .pointer (some ⟨Bu, 0, none⟩)] W fun e W' => (∃ v, e = .returned v) ∧ ∃ S', J (chF (sOf gv rd rw F) a0 u) S' W' := by
  obtain ⟨X, hX⟩ : ∃ y, y = (W.alloc (.cells #[.func (.yield ly) #[] #[]] 62)).alloc (.cells #[growV Bm Bs W.heap.size (W.heap.size + 1)] 63) := ⟨_, rfl⟩
  have hbX : Below W.heap.size W X := by rw [hX]; exact ((Below.refl _ W).alloc (Nat.le_refl _) _).alloc (by simp) _
  have hsX : X.heap.size = W.heap.size + 1 + 1 := by rw [hX]; simp
  have hlt := JI.lt hJ
  have c5 : X.cell? ⟨W.heap.size, 0, none⟩ = some (.func (.yield ly) #[] #[]) := by rw [hX]; exact cell_alloc (cell_new rfl rfl)
  have c6 : X.cell? ⟨W.heap.size + 1, 0, none⟩ = some (growV Bm Bs W.heap.size (W.heap.size + 1)) := by rw [hX]; exact cell_new (by simp) rfl
  have hItX := hIt.later hbX
  have hBX : Bx X Bm Bs W.heap.size (W.heap.size + 1) (fmOf gv (a0 : Int)) ly gv rd rw fa fn fc := ⟨hItX.lm, hItX.ls, by omega, by omega, hItX.cm, hItX.bs, c5, c6⟩
  have HG : Hid (∀ (Y : World) (g : Nat), Below X.heap.size X Y → Y.ownsRow X.heap.size 3 1 (.slice (some ⟨g, 0, none⟩) 1 1) 1 (intVals [(a0 : Int)]) → Calls Tryd.prog 32 #[.slice (some ⟨g, 0, none⟩) 1 1, .int .i64 ((u ||| 2 ^ a0 : Nat) : Int), .pointer (some ⟨Bm, 0, none⟩), .pointer (some ⟨Bs, 0, none⟩), .pointer (some ⟨W.heap.size, 0, none⟩), .pointer (some ⟨W.heap.size + 1, 0, none⟩)] Y fun e Y' => (∃ v, e = .returned v) ∧ ∃ S', J (chF (sOf gv rd rw F) a0 u) S' Y') := fun Y g hbY hoY => by
    have hbWY : Below W.heap.size W Y := hbX.trans (hbY.mono hbX.size)
    have hsz := hbY.size
    refine (grow_in JI hs h8 hJF hfl hY (fm_run gv (a0 : Int)) may_call 9 [(a0 : Int)] (u ||| 2 ^ a0) (by have := free_le F.length (u ||| 2 ^ a0); omega) (beg_one ha) (or_lt u hu a0 (by omega)) (by simp) rfl (fun x hx => by rw [List.mem_singleton] at hx; subst hx; exact hau) (fun j hj => by rw [bit_or, hj]; rfl) (.slice (some ⟨g, 0, none⟩) 1 1) [] S Y (JI.frame hJ (Keep.of_below hbWY hlt)) (hBX.below hbY) sm ss (fun h => by have := hlt _ h; omega) (fun h => by have := hlt _ h; omega) (owns_mono hoY (Nat.zero_le _)) (fun b hb => ?_)).mono ?_
    · have h1 := hoY.lt b hb
      have l1 := hIt.lm
      have l2 := hIt.ls
      exact ⟨fun h => by have := hlt _ h; omega, by omega, by omega, by omega, by omega⟩
    · rintro e Y' ⟨rfl, S', k1, -⟩
      exact ⟨⟨_, rfl⟩, S', by simpa [chF] using k1⟩
  have HX := hide hX
  have lf := hItX.lf
  have lu := hItX.lu
  have cf := hItX.cf
  have cu := hItX.cu
  have hmf : ∀ (fn : Fn) (first cap : Array Value) (w : World), (Instr.makeFunc fn first cap).run Tryd.prog w = .ok (.func fn first cap) w := fun _ _ _ _ => rfl
  clear hX hIt
  go_enter Tryd.func31, Tryd.ntmps31
  go_wp2_with fail
  rw [show Value.func (Fn.func 32) #[] #[.pointer (some ⟨Bm, 0, none⟩), .pointer (some ⟨Bs, 0, none⟩), .pointer (some ⟨W.heap.size, 0, none⟩), .pointer (some ⟨W.heap.size + 1, 0, none⟩)] = growV Bm Bs W.heap.size (W.heap.size + 1) from rfl, ← unhide HX]
  refine (wpIn_wide (n := 5)).1 ?_
  refine wp_region_vals (fun _ => trivial) rfl D8 S8 _ (by kernel_rfl) (by kernel_rfl) (by kernel_rfl) (by kernel_rfl) (by kernel_rfl) (by kernel_rfl) (by kernel_rfl) ⟨Det.nil _, fun _ => ⟨(Below.refl _ _).drew, fun q => (by cases q)⟩, fun q => (by cases q)⟩ (steps8 (W := X) rfl rfl rfl hu (by omega) (by omega) lf lu c6 cf cu (unhide HG) rfl rfl rfl rfl rfl rfl rfl rfl rfl rfl rfl rfl rfl rfl rfl rfl) ?_
  rintro l vals w5 ⟨-, -, hR⟩ hall
  have HR := hide (hR (hall 7 (by decide)))
  clear hR hall
  simp only [finA, S8, Act.put, List.setIfInBounds_toArray, List.set_cons_succ, List.set_cons_zero]
  go_wp2_with fail
  go_end0
  exact ⟨⟨_, rfl⟩, unhide HR⟩
end Go.Proofs.YtffnhflbhckhbaaDoor
