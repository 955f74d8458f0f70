import Derived.Test.YtbcchbhchfdbiaaWG3
import Derived.Test.YtbcchbhchfdbiaaWG9
namespace Go.Proofs.Ytbcchbhchfdbiaa
open Go.RowKit Go.Shelf
/-- The values that are what they must be, whatever the order. -/
def Det (DL : List (Option Value)) (l : Nat → Bool) (vals : Nat → Value) : Prop := ∀ i v, DL[i]? = some (some v) → l i = true → vals i = v
theorem Det.step {DL : List (Option Value)} {l : Nat → Bool} {vals : Nat → Value} {i : Nat} {v : Value} (h : Det DL l vals) (hv : ∀ v', DL[i]? = some (some v') → v = v') : Det DL (updB l i) (updV vals i v) := by
  intro k u hk hl
  by_cases e : k = i
  · subst e
    simp only [updV, if_true]
    exact hv u hk
  · simp only [updB, updV, if_neg e] at hl ⊢
    exact h k u hk hl
theorem Det.nil (DL : List (Option Value)) : Det DL (fun _ => false) (fun _ => undef) := fun _ _ _ h => by cases h
theorem upV_append_int1 {K : Value → World → Prop} (w : World) {o : Oper} {ev : Operand → Value} (s x : Operand)
    (ho : o.op = .call { callee := .builtin .append, args := #[s, x], argTypes := #[25, 25] })
    (base : Nat) (v : Value) (n : Nat) (xs : List Int) (hs : ev s = v) (hown : w.ownsRow base 3 1 v n (intVals xs))
    (g c : Nat) (y : Int) (hx : ev x = .slice (some ⟨g, 0, none⟩) 1 c) (hc : w.cell? ⟨g, 0, none⟩ = some (.int .i64 y))
    (hsm : n ≤ 1000) (hbase : base ≤ w.heap.size)
    (hK : ∀ v' w', w'.ownsRow base 3 1 v' (n + 1) (intVals (xs ++ [y])) → w.grownBy w' v.ownBlock → (v'.ownBlock = v.ownBlock ∨ v'.ownBlock = some w.heap.size) → K v' w') : upV Try.prog K ((execOp ev o).run Try.prog w) := by
  obtain ⟨v', w', hr, h2, h3, h4⟩ := run_append_int1 w o.type base v n xs hown g c y hc (by omega) hbase
  unfold execOp
  simp only [ho, resolve, invoke, builtin, Sem.run_bind, Sem.run_pure, Result.andThen_ok, List.map_toArray, List.map_cons, List.map_nil, hs, hx, hr]
  refine hK v' w' h2 h3 ?_
  rcases h4 with ⟨g, cap, e1, e2⟩ | ⟨e, -⟩
  · left; rw [e1, e2]; rfl
  · exact .inr e
theorem upV_append_one {K : Value → World → Prop} (w : World) {o : Oper} {ev : Operand → Value} (sx x : Operand)
    (ho : o.op = .call { callee := .builtin .append, args := #[sx, x], argTypes := #[53, 53] })
    (base : Nat) (v : Value) (n : Nat) (xs : List Sl) (hs : ev sx = v) (hown : w.ownsRow base 25 1 v n (slVals xs))
    (g c : Nat) (s : Sl) (hx : ev x = .slice (some ⟨g, 0, none⟩) 1 c) (hc : w.cell? ⟨g, 0, none⟩ = some (.slice s.la s.ln s.lc))
    (hsm : n ≤ 1000) (hbase : base ≤ w.heap.size)
    (hK : ∀ v' w', w'.ownsRow base 25 1 v' (n + 1) (slVals (xs ++ [s])) → w.grownBy w' v.ownBlock → (v'.ownBlock = v.ownBlock ∨ v'.ownBlock = some w.heap.size) → K v' w') : upV Try.prog K ((execOp ev o).run Try.prog w) := by
  obtain ⟨v', w', hr, h2, h3, h4⟩ := run_append_one w o.type base v n xs hown g c s hc (by omega) hbase
  unfold execOp
  simp only [ho, resolve, invoke, builtin, Sem.run_bind, Sem.run_pure, Result.andThen_ok, List.map_toArray, List.map_cons, List.map_nil, hs, hx, hr]
  exact hK v' w' h2 h3 h4
theorem cell_alloc {w : World} {o : Obj} {p : Addr} {u : Value} (h : w.cell? p = some u) : (w.alloc o).cell? p = some u := (World.grownBy_alloc w o none).cell h (by simp)
/-- Two rows of ints, apart. -/
def Two (lo : Nat) (w : World) (va : Value) (i : Nat) (A : List Int) (vb : Value) (k : Nat) (B : List Int) : Prop := w.ownsRow lo 3 1 va i (intVals A) ∧ w.ownsRow lo 3 1 vb k (intVals B) ∧ Ap va vb
theorem Two.alloc {lo : Nat} {w : World} {va vb : Value} {i k : Nat} {A B : List Int} (h : Two lo w va i A vb k B) (o : Obj) : Two lo (w.alloc o) va i A vb k B := ⟨h.1.alloc o, h.2.1.alloc o, h.2.2⟩
theorem Two.sym {lo : Nat} {w : World} {va vb : Value} {i k : Nat} {A B : List Int} (h : Two lo w va i A vb k B) : Two lo w vb k B va i A := ⟨h.2.1, h.1, h.2.2.sym⟩
theorem Two.next {lo : Nat} {w w' : World} {va va' vb : Value} {i k : Nat} {A B A' : List Int} (h : Two lo w va i A vb k B) (ho : w'.ownsRow lo 3 1 va' (i + 1) (intVals A')) (hg : w.grownBy w' va.ownBlock) (h' : va'.ownBlock = va.ownBlock ∨ va'.ownBlock = some w.heap.size) : Two lo w' va' (i + 1) A' vb k B :=
  ⟨ho, h.2.1.kept hg h.2.2, h.2.2.next h.2.1 h'⟩
def M19 (lo : Nat) (W0 : World) (p15 : Addr) (pb po lc : Nat) (va vb : Value) (j : Nat) (A B : List Int) (x0 x1 : Int) (l : Nat → Bool) (vals : Nat → Value) (w : World) : Prop :=
  Below lo W0 w ∧ (w.cell? p15 = some (.slice (some ⟨pb, po, none⟩) 2 lc) ∧ w.cell? ⟨pb, po, none⟩ = some (.int .i64 x0) ∧ w.cell? ⟨pb, po + 1, none⟩ = some (.int .i64 x1)) ∧
  (l 5 = true → l 6 = false → ∃ g, vals 5 = .slice (some ⟨g, 0, none⟩) 1 1 ∧ w.cell? ⟨g, 0, none⟩ = some (.int .i64 x0)) ∧
  (l 12 = true → l 13 = false → ∃ g, vals 12 = .slice (some ⟨g, 0, none⟩) 1 1 ∧ w.cell? ⟨g, 0, none⟩ = some (.int .i64 x1) ∧ some g ≠ va.ownBlock) ∧
  (l 6 = false → Two lo w va j A vb j B) ∧ (l 6 = true → l 13 = false → Two lo w (vals 6) (j + 1) (A ++ [x0]) vb j B) ∧ (l 13 = true → Two lo w (vals 6) (j + 1) (A ++ [x0]) (vals 13) (j + 1) (B ++ [x1])) ∧
  (l 14 = true → vals 14 = vals 6) ∧ (l 15 = true → vals 15 = vals 13)
def D19 : List (List Nat) := [[], [], [1], [2], [3], [4], [0, 5], [], [], [8], [9], [10], [11], [7, 12, 6], [6, 13, 0, 1, 2, 3, 4, 5, 6], [13, 14, 0, 1, 2, 3, 4, 5, 6, 7, 8, 9, 10, 11, 12, 13, 14]]
def S19 : List (Option Tmp) := [some 57, some 58, some 59, some 60, some 61, some 62, some 63, some 64, some 65, some 66, some 67, some 68, some 69, some 70, some 10, some 11]
def V19 (p15 : Addr) (pb po lc : Nat) (va vb : Value) (x0 x1 : Int) : List (Option Value) := [some va, some (.pointer (some p15)), some (.slice (some ⟨pb, po, none⟩) 2 lc), some (.pointer (some ⟨pb, po, none⟩)), some (.int .i64 x0), none, none, some vb, some (.pointer (some p15)), some (.slice (some ⟨pb, po, none⟩) 2 lc), some (.pointer (some ⟨pb, po + 1, none⟩)), some (.int .i64 x1), none, none, none, none]
def J19 (lo : Nat) (W0 : World) (p15 : Addr) (pb po lc : Nat) (va vb : Value) (j : Nat) (A B : List Int) (x0 x1 : Int) (l : Nat → Bool) (vals : Nat → Value) (w : World) : Prop := Det (V19 p15 pb po lc va vb x0 x1) l vals ∧ M19 lo W0 p15 pb po lc va vb j A B x0 x1 l vals w
attribute [local go_sem] Oper.semAt_some
set_option maxRecDepth 100000 in
set_option maxHeartbeats 4000000 in
theorem steps19 {lo : Nat} {W0 : World} {g15 pb po lc : Nat} {va vb : Value} {j : Nat} {A B : List Int} {x0 x1 : Int} {t0 : Array Value} (h10 : t0[10]? = some va) (h11 : t0[11]? = some vb) (h15 : t0[15]? = some (.pointer (some ⟨g15, 0, none⟩))) (hlo : lo ≤ W0.heap.size) (hj : j ≤ 5)
    (hva : ∀ q, va.ownBlock = some q → lo ≤ q ∧ q < W0.heap.size) (hvb : ∀ q, vb.ownBlock = some q → lo ≤ q ∧ q < W0.heap.size) (ha5 : some g15 ≠ va.ownBlock) (hb5 : some g15 ≠ vb.ownBlock) (hpl : pb < lo)
    {o0 o1 o2 o3 o4 o5 o6 o7 o8 o9 o10 o11 o12 o13 o14 o15 : Oper}
    (e0 : o0.op = .move (.tmp 10)) (e1 : o1.op = .fieldAddr 51 (.tmp 15) 2) (e2 : o2.op = .load 25 (.tmp 58)) (e3 : o3.op = .indexAddr 25 (.tmp 59) (.const (.int .i64 0))) (e4 : o4.op = .load 3 (.tmp 60)) (e5 : o5.op = .buildSlice 25 1 #[(0, .tmp 61)])
    (e6 : o6.op = .call { callee := .builtin .append, args := #[.tmp 57, .tmp 62], argTypes := #[25, 25] }) (e7 : o7.op = .move (.tmp 11)) (e8 : o8.op = .fieldAddr 51 (.tmp 15) 2) (e9 : o9.op = .load 25 (.tmp 65)) (e10 : o10.op = .indexAddr 25 (.tmp 66) (.const (.int .i64 1))) (e11 : o11.op = .load 3 (.tmp 67)) (e12 : o12.op = .buildSlice 25 1 #[(0, .tmp 68)])
    (e13 : o13.op = .call { callee := .builtin .append, args := #[.tmp 64, .tmp 69], argTypes := #[25, 25] }) (e14 : o14.op = .assign (.tmp 63)) (e15 : o15.op = .assign (.tmp 70)) :
    StepsV Try.prog (J19 lo W0 ⟨g15, 2, none⟩ pb po lc va vb j A B x0 x1) D19 S19 t0 0 [o0, o1, o2, o3, o4, o5, o6, o7, o8, o9, o10, o11, o12, o13, o14, o15] := by
  refine ⟨?_, ?_, ?_, ?_, ?_, ?_, ?_, ?_, ?_, ?_, ?_, ?_, ?_, ?_, ?_, ?_, trivial⟩
  · rintro l vals w ⟨hDt, hM⟩ hl hdn hdi
    have l14 : l 14 = false := by
      cases h : l 14 with
      | false => rfl
      | true => have := hdn 14 h 0 (by decide); rw [hl] at this; cases this
    simp [upV, go_sem, e0, evV, S19, lookV, l14, hl, h10]
    exact ⟨hDt.step (fun v' h => by simpa [V19] using h), hM⟩
  · rintro l vals w ⟨hDt, hM⟩ hl hdn hdi
    simp [upV, go_sem, e1, evV, S19, lookV, h15]
    exact ⟨hDt.step (fun v' h => by simpa [V19] using h), hM⟩
  · rintro l vals w ⟨hDt, hM⟩ hl hdn hdi
    have d1 := hdi 1 (by decide)
    have v1 := hDt 1 _ rfl d1
    have c1 := hM.2.1.1
    simp [upV, go_sem, e2, evV, S19, lookV, d1, v1, c1]
    exact ⟨hDt.step (fun v' h => by simpa [V19] using h), hM⟩
  · rintro l vals w ⟨hDt, hM⟩ hl hdn hdi
    have d1 := hdi 2 (by decide)
    have v1 := hDt 2 _ rfl d1
    simp [upV, go_sem, e3, evV, S19, lookV, d1, v1]
    exact ⟨hDt.step (fun v' h => by simpa [V19] using h), hM⟩
  · rintro l vals w ⟨hDt, hM⟩ hl hdn hdi
    have d1 := hdi 3 (by decide)
    have v1 := hDt 3 _ rfl d1
    have c1 := hM.2.1.2.1
    simp [upV, go_sem, e4, evV, S19, lookV, d1, v1, c1]
    exact ⟨hDt.step (fun v' h => by simpa [V19] using h), hM⟩
  · rintro l vals w ⟨hDt, hM⟩ hl hdn hdi
    have d1 := hdi 4 (by decide)
    have v1 := hDt 4 _ rfl d1
    simp [upV, go_sem, e5, evV, S19, lookV, d1, v1]
    obtain ⟨m1, ⟨m2, m3, m4⟩, m5, m6, m7, m8, m9, m10, m11⟩ := hM
    have l6 : l 6 = false := by
      cases h : l 6 with
      | false => rfl
      | true => have := hdn 6 h 5 (by decide); rw [hl] at this; cases this
    have hne : ∀ (p : Addr) (u : Value), w.cell? p = some u → (w.alloc (.cells #[.int .i64 x0] 3)).cell? p = some u := fun p u h => cell_alloc h
    refine ⟨hDt.step (fun v' h => by simp [V19] at h), m1.alloc (Nat.le_trans hlo m1.size) _, ⟨hne _ _ m2, hne _ _ m3, hne _ _ m4⟩, fun _ _ => ⟨w.heap.size, rfl, by simp⟩, fun a b => ?_, fun a => (m7 a).alloc _, fun a b => (m8 a b).alloc _, fun a => (m9 a).alloc _, m10, m11⟩
    obtain ⟨g, q1, q2, q3⟩ := m6 a b
    exact ⟨g, q1, hne _ _ q2, q3⟩
  · rintro l vals w ⟨hDt, hM⟩ hl hdn hdi
    have d0 := hdi 0 (by decide)
    have d5 := hdi 5 (by decide)
    have v0 := hDt 0 _ rfl d0
    have l13 : l 13 = false := by
      cases h : l 13 with
      | false => rfl
      | true => have := hdn 13 h 6 (by decide); rw [hl] at this; cases this
    obtain ⟨m1, ⟨m2, m3, m4⟩, m5, m6, m7, m8, m9, m10, m11⟩ := hM
    obtain ⟨g, q1, q2⟩ := m5 d5 hl
    have hT := m7 hl
    have hsz := m1.size
    refine upV_append_int1 w (.tmp 57) (.tmp 62) e6 lo va j A (by simp [evV, S19, lookV, d0, v0]) hT.1 g 1 x0 (by simp [evV, S19, lookV, d5, q1]) q2 (by omega) (by omega) (fun v' w' ho hg h' => ?_)
    have hb' : Below lo w w' := (Below.refl lo w).grown hg (by omega) (fun q hq => (hva q hq).1)
    refine ⟨hDt.step (fun v' h => by simp [V19] at h), m1.trans hb', ⟨hg.cell m2 ha5, hg.cell m3 (fun e => ?_), hg.cell m4 (fun e => ?_)⟩, fun a b => ?_, fun a b => ?_, fun a => ?_, fun a b => ?_, fun a => ?_, fun a => ?_, fun a => ?_⟩
    · have : lo ≤ pb := (hva _ e.symm).1
      omega
    · have : lo ≤ pb := (hva _ e.symm).1
      omega
    · exact absurd b (by simp [updB])
    · obtain ⟨g', r1, r2, r3⟩ := m6 a b
      exact ⟨g', r1, hg.cell r2 r3, r3⟩
    · exact absurd a (by simp [updB])
    · exact hT.next ho hg h'
    · exact absurd (l13.symm.trans a) (by simp)
    · exact absurd (hl.symm.trans (hdn 14 a 6 (by decide))) (by simp)
    · exact absurd (l13.symm.trans (hdn 15 a 13 (by decide))) (by simp)
  · rintro l vals w ⟨hDt, hM⟩ hl hdn hdi
    have l15 : l 15 = false := by
      cases h : l 15 with
      | false => rfl
      | true => have := hdn 15 h 7 (by decide); rw [hl] at this; cases this
    simp [upV, go_sem, e7, evV, S19, lookV, l15, hl, h11]
    exact ⟨hDt.step (fun v' h => by simpa [V19] using h), hM⟩
  · rintro l vals w ⟨hDt, hM⟩ hl hdn hdi
    simp [upV, go_sem, e8, evV, S19, lookV, h15]
    exact ⟨hDt.step (fun v' h => by simpa [V19] using h), hM⟩
  · rintro l vals w ⟨hDt, hM⟩ hl hdn hdi
    have d1 := hdi 8 (by decide)
    have v1 := hDt 8 _ rfl d1
    have c1 := hM.2.1.1
    simp [upV, go_sem, e9, evV, S19, lookV, d1, v1, c1]
    exact ⟨hDt.step (fun v' h => by simpa [V19] using h), hM⟩
  · rintro l vals w ⟨hDt, hM⟩ hl hdn hdi
    have d1 := hdi 9 (by decide)
    have v1 := hDt 9 _ rfl d1
    simp [upV, go_sem, e10, evV, S19, lookV, d1, v1]
    exact ⟨hDt.step (fun v' h => by simpa [V19] using h), hM⟩
  · rintro l vals w ⟨hDt, hM⟩ hl hdn hdi
    have d1 := hdi 10 (by decide)
    have v1 := hDt 10 _ rfl d1
    have c1 := hM.2.1.2.2
    simp [upV, go_sem, e11, evV, S19, lookV, d1, v1, c1]
    exact ⟨hDt.step (fun v' h => by simpa [V19] using h), hM⟩
  · rintro l vals w ⟨hDt, hM⟩ hl hdn hdi
    have d1 := hdi 11 (by decide)
    have v1 := hDt 11 _ rfl d1
    simp [upV, go_sem, e12, evV, S19, lookV, d1, v1]
    obtain ⟨m1, ⟨m2, m3, m4⟩, m5, m6, m7, m8, m9, m10, m11⟩ := hM
    have hne : ∀ (p : Addr) (u : Value), w.cell? p = some u → (w.alloc (.cells #[.int .i64 x1] 3)).cell? p = some u := fun p u h => cell_alloc h
    refine ⟨hDt.step (fun v' h => by simp [V19] at h), m1.alloc (Nat.le_trans hlo m1.size) _, ⟨hne _ _ m2, hne _ _ m3, hne _ _ m4⟩, fun a b => ?_, fun _ _ => ⟨w.heap.size, rfl, by simp, fun e => ?_⟩, fun a => (m7 a).alloc _, fun a b => (m8 a b).alloc _, fun a => (m9 a).alloc _, m10, m11⟩
    · obtain ⟨g, q1, q2⟩ := m5 a b
      exact ⟨g, q1, hne _ _ q2⟩
    · have := (hva _ e.symm).2
      have := m1.size
      omega
  · rintro l vals w ⟨hDt, hM⟩ hl hdn hdi
    have d7 := hdi 7 (by decide)
    have d12 := hdi 12 (by decide)
    have d6 := hdi 6 (by decide)
    have v7 := hDt 7 _ rfl d7
    obtain ⟨m1, ⟨m2, m3, m4⟩, m5, m6, m7, m8, m9, m10, m11⟩ := hM
    obtain ⟨g, q1, q2, q3⟩ := m6 d12 hl
    have hT := m8 d6 hl
    have hsz := m1.size
    refine upV_append_int1 w (.tmp 64) (.tmp 69) e13 lo vb j B (by simp [evV, S19, lookV, d7, v7]) hT.2.1 g 1 x1 (by simp [evV, S19, lookV, d12, q1]) q2 (by omega) (by omega) (fun v' w' ho hg h' => ?_)
    have hb' : Below lo w w' := (Below.refl lo w).grown hg (by omega) (fun q hq => (hvb q hq).1)
    refine ⟨hDt.step (fun v' h => by simp [V19] at h), m1.trans hb', ⟨hg.cell m2 hb5, hg.cell m3 (fun e => ?_), hg.cell m4 (fun e => ?_)⟩, fun a b => ?_, fun a b => ?_, fun a => ?_, fun a b => ?_, fun a => ?_, fun a => ?_, fun a => ?_⟩
    · have : lo ≤ pb := (hvb _ e.symm).1
      omega
    · have : lo ≤ pb := (hvb _ e.symm).1
      omega
    · exact absurd (d6.symm.trans b) (by simp)
    · exact absurd b (by simp [updB])
    · exact absurd (d6.symm.trans a) (by simp)
    · exact absurd b (by simp [updB])
    · exact (hT.sym.next ho hg h').sym
    · exact m10 a
    · exact absurd (hl.symm.trans (hdn 15 a 13 (by decide))) (by simp)
  · rintro l vals w ⟨hDt, hM⟩ hl hdn hdi
    have d6 := hdi 6 (by decide)
    simp [upV, go_sem, e14, evV, S19, lookV, d6]
    obtain ⟨m1, m2, m5, m6, m7, m8, m9, m10, m11⟩ := hM
    exact ⟨hDt.step (fun v' h => by simp [V19] at h), m1, m2, m5, m6, m7, m8, m9, fun _ => rfl, m11⟩
  · rintro l vals w ⟨hDt, hM⟩ hl hdn hdi
    have d6 := hdi 13 (by decide)
    simp [upV, go_sem, e15, evV, S19, lookV, d6]
    obtain ⟨m1, m2, m5, m6, m7, m8, m9, m10, m11⟩ := hM
    exact ⟨hDt.step (fun v' h => by simp [V19] at h), m1, m2, m5, m6, m7, m8, m9, m10, fun _ => rfl⟩
end Go.Proofs.Ytbcchbhchfdbiaa
namespace Go.Proofs.Ytbcchbhchfdbiaa
open Go.RowKit Go.Shelf
theorem alloc_later (w : World) (o : Obj) : Below w.heap.size w (w.alloc o) := by go_grown
theorem RowL.lt {lo : Nat} {w : World} {v : Value} {k : Nat} {ML : List Sl} (h : RowL lo w v k ML) {q : Nat} (hq : v.ownBlock = some q) : lo ≤ q ∧ q < w.heap.size := h.1.lt q hq
/-- Two rows of lists, apart. -/
def TwoL (lo : Nat) (w : World) (va : Value) (i : Nat) (A : List Sl) (vb : Value) (k : Nat) (B : List Sl) : Prop := RowL lo w va i A ∧ RowL lo w vb k B ∧ Ap va vb
theorem TwoL.alloc {lo : Nat} {w : World} {va vb : Value} {i k : Nat} {A B : List Sl} (h : TwoL lo w va i A vb k B) (o : Obj) : TwoL lo (w.alloc o) va i A vb k B := ⟨h.1.later (alloc_later w o), h.2.1.later (alloc_later w o), h.2.2⟩
theorem TwoL.sym {lo : Nat} {w : World} {va vb : Value} {i k : Nat} {A B : List Sl} (h : TwoL lo w va i A vb k B) : TwoL lo w vb k B va i A := ⟨h.2.1, h.1, h.2.2.sym⟩
theorem TwoL.set71 {lo g o : Nat} {w : World} {u va vb : Value} {i k : Nat} {A B : List Sl} {cs : Array Value} {fz : Nat × Nat} (h : TwoL lo w va i A vb k B) (hg : w.heap[g]? = some (.cells cs 71 fz)) (hl : g < lo) : TwoL lo (w.setCell ⟨g, o, none⟩ u) va i A vb k B := ⟨h.1.set71 hg hl, h.2.1.set71 hg hl, h.2.2⟩
theorem TwoL.next {lo : Nat} {w w' : World} {va va' vb : Value} {i k : Nat} {A B : List Sl} {SA SB : Sl} (h : TwoL lo w va i A vb k B) (hSA : In3 w SA) (hSB : In3 w SB) (ho : w'.ownsRow lo 25 1 va' (i + 1) (slVals (A ++ [SA]))) (hg : w.grownBy w' va.ownBlock) (h' : va'.ownBlock = va.ownBlock ∨ va'.ownBlock = some w.heap.size) : TwoL lo w' va' (i + 1) (A ++ [SA]) vb k B ∧ In3 w' SA ∧ In3 w' SB := by
  refine ⟨⟨h.1.next hSA.1 hSA.2 ho hg, ⟨h.2.1.1.kept hg h.2.2, fun s hs => ?_⟩, h.2.2.next h.2.1.1 h'⟩, ?_, ?_⟩
  · have := (h.2.1.2 s hs).2.grown (h.2.1.2 s hs).1 h.1.1 hg
    exact ⟨this.2, this.1⟩
  · have := hSA.2.grown hSA.1 h.1.1 hg
    exact ⟨this.2, this.1⟩
  · have := hSB.2.grown hSB.1 h.1.1 hg
    exact ⟨this.2, this.1⟩
def pickB (b : Bool) (x y : Value) : Value := if b then x else y
def M21 (g : Nat) (W0 : World) (SA SB : Sl) (vA vB : Value) (i : Nat) (AL BL : List Sl) (l : Nat → Bool) (vals : Nat → Value) (w : World) : Prop :=
  Below g W0 w ∧ w.heap[g]? = some (.cells #[pickB (l 11) (vals 4) vA, pickB (l 13) (vals 9) vB] 71 (0, 0)) ∧ (In3 w SA ∧ In3 w SB) ∧
  (l 3 = true → l 4 = false → ∃ q, vals 3 = .slice (some ⟨q, 0, none⟩) 1 1 ∧ w.cell? ⟨q, 0, none⟩ = some (.slice SA.la SA.ln SA.lc)) ∧
  (l 8 = true → l 9 = false → ∃ q, vals 8 = .slice (some ⟨q, 0, none⟩) 1 1 ∧ w.cell? ⟨q, 0, none⟩ = some (.slice SB.la SB.ln SB.lc) ∧ some q ≠ vA.ownBlock) ∧
  (l 4 = false → TwoL (g + 1) w vA i AL vB i BL) ∧ (l 4 = true → l 9 = false → TwoL (g + 1) w (vals 4) (i + 1) (AL ++ [SA]) vB i BL) ∧ (l 9 = true → TwoL (g + 1) w (vals 4) (i + 1) (AL ++ [SA]) (vals 9) (i + 1) (BL ++ [SB]))
def D21 : List (List Nat) := [[], [0], [], [2], [1, 3], [], [5], [], [7], [6, 8, 4], [0, 1, 2, 3, 4, 5, 6], [10, 4, 9, 0, 1, 2, 3, 4, 5, 6], [0, 1, 2, 3, 4, 5, 6, 7, 8, 9, 10, 11], [12, 9, 11, 0, 1, 2, 3, 4, 5, 6, 7, 8, 9, 10, 11]]
def S21 : List (Option Tmp) := [some 72, some 73, some 74, some 75, some 76, some 77, some 78, some 79, some 80, some 81, some 82, none, some 83, none]
def V21 (g : Nat) (SA SB : Sl) (vA vB : Value) : List (Option Value) := [some (.pointer (some ⟨g, 0, none⟩)), some vA, some (.slice SA.la SA.ln SA.lc), none, none, some (.pointer (some ⟨g, 1, none⟩)), some vB, some (.slice SB.la SB.ln SB.lc), none, none, some (.pointer (some ⟨g, 0, none⟩)), none, some (.pointer (some ⟨g, 1, none⟩)), none]
def J21 (g : Nat) (W0 : World) (SA SB : Sl) (vA vB : Value) (i : Nat) (AL BL : List Sl) (l : Nat → Bool) (vals : Nat → Value) (w : World) : Prop := Det (V21 g SA SB vA vB) l vals ∧ M21 g W0 SA SB vA vB i AL BL l vals w
attribute [local go_sem] Oper.semAt_some
theorem not_yet {l : Nat → Bool} {D : List (List Nat)} (hdn : ∀ k, l k = true → ∀ j ∈ D.getD k [], l j = true) {i k : Nat} (hl : l i = false) (hk : i ∈ D.getD k []) : l k = false := by
  cases h : l k with
  | false => rfl
  | true => have := hdn k h i hk; rw [hl] at this; cases this
set_option maxRecDepth 100000 in
set_option maxHeartbeats 4000000 in
theorem steps21 {g : Nat} {W0 : World} {SA SB : Sl} {vA vB : Value} {i : Nat} {AL BL : List Sl} {t0 : Array Value} (h10 : t0[10]? = some (.slice SA.la SA.ln SA.lc)) (h11 : t0[11]? = some (.slice SB.la SB.ln SB.lc)) (h7 : t0[7]? = some (.pointer (some ⟨g, 0, none⟩))) (hlo : g < W0.heap.size) (hj : i ≤ 5)
    (hvA : ∀ q, vA.ownBlock = some q → q < W0.heap.size)
    {o0 o1 o2 o3 o4 o5 o6 o7 o8 o9 o10 o11 o12 o13 : Oper}
    (e0 : o0.op = .fieldAddr 71 (.tmp 7) 0) (e1 : o1.op = .load 53 (.tmp 72)) (e2 : o2.op = .move (.tmp 10)) (e3 : o3.op = .buildSlice 53 1 #[(0, .tmp 74)])
    (e4 : o4.op = .call { callee := .builtin .append, args := #[.tmp 73, .tmp 75], argTypes := #[53, 53] }) (e5 : o5.op = .fieldAddr 71 (.tmp 7) 1) (e6 : o6.op = .load 53 (.tmp 77)) (e7 : o7.op = .move (.tmp 11)) (e8 : o8.op = .buildSlice 53 1 #[(0, .tmp 79)])
    (e9 : o9.op = .call { callee := .builtin .append, args := #[.tmp 78, .tmp 80], argTypes := #[53, 53] }) (e10 : o10.op = .fieldAddr 71 (.tmp 7) 0) (e11 : o11.op = .store 53 (.tmp 82) (.tmp 76)) (e12 : o12.op = .fieldAddr 71 (.tmp 7) 1) (e13 : o13.op = .store 53 (.tmp 83) (.tmp 81)) :
    StepsV Try.prog (J21 g W0 SA SB vA vB i AL BL) D21 S21 t0 0 [o0, o1, o2, o3, o4, o5, o6, o7, o8, o9, o10, o11, o12, o13] := by
  refine ⟨?_, ?_, ?_, ?_, ?_, ?_, ?_, ?_, ?_, ?_, ?_, ?_, ?_, ?_, trivial⟩
  · rintro l vals w ⟨hDt, hM⟩ hl hdn hdi
    simp [upV, go_sem, e0, evV, S21, lookV, h7]
    exact ⟨hDt.step (fun v' h => by simpa [V21] using h), hM⟩
  · rintro l vals w ⟨hDt, hM⟩ hl hdn hdi
    have d1 := hdi 0 (by decide)
    have v1 := hDt 0 _ rfl d1
    have l11 := not_yet hdn hl (k := 11) (by decide)
    have c1 := (cell_in' hM.2.1 0).1
    simp [pickB, l11] at c1
    simp [upV, go_sem, e1, evV, S21, lookV, d1, v1, c1]
    exact ⟨hDt.step (fun v' h => by simpa [V21] using h), hM⟩
  · rintro l vals w ⟨hDt, hM⟩ hl hdn hdi
    simp [upV, go_sem, e2, evV, S21, lookV, h10]
    exact ⟨hDt.step (fun v' h => by simpa [V21] using h), hM⟩
  · rintro l vals w ⟨hDt, hM⟩ hl hdn hdi
    have d1 := hdi 2 (by decide)
    have v1 := hDt 2 _ rfl d1
    simp [upV, go_sem, e3, evV, S21, lookV, d1, v1]
    obtain ⟨m1, m2, ⟨m3, m4⟩, m5, m6, m7, m8, m9⟩ := hM
    have hbA := alloc_later w (.cells #[.slice SA.la SA.ln SA.lc] 25)
    have hsz := m1.size
    have hne : ∀ (p : Addr) (u : Value), w.cell? p = some u → (w.alloc (.cells #[.slice SA.la SA.ln SA.lc] 25)).cell? p = some u := fun p u h => cell_alloc h
    refine ⟨hDt.step (fun v' h => by simp [V21] at h), m1.alloc (by omega) _, ?_, ⟨m3.later hbA, m4.later hbA⟩, fun _ _ => ⟨w.heap.size, rfl, by simp⟩, fun a b => ?_, fun a => (m7 a).alloc _, fun a b => (m8 a b).alloc _, fun a => (m9 a).alloc _⟩
    · exact (hbA.block g (by omega)).trans m2
    · obtain ⟨q, q1, q2, q3⟩ := m6 a b
      exact ⟨q, q1, hne _ _ q2, q3⟩
  · rintro l vals w ⟨hDt, hM⟩ hl hdn hdi
    have d1 := hdi 1 (by decide)
    have d3 := hdi 3 (by decide)
    have v1 := hDt 1 _ rfl d1
    have l9 := not_yet hdn hl (k := 9) (by decide)
    have l11 := not_yet hdn hl (k := 11) (by decide)
    have l13 := not_yet hdn hl (k := 13) (by decide)
    obtain ⟨m1, m2, ⟨m3, m4⟩, m5, m6, m7, m8, m9⟩ := hM
    obtain ⟨q, q1, q2⟩ := m5 d3 hl
    have hT := m7 hl
    have hsz := m1.size
    refine upV_append_one w (.tmp 73) (.tmp 75) e4 (g + 1) vA i AL (by simp [evV, S21, lookV, d1, v1]) hT.1.1 q 1 SA (by simp [evV, S21, lookV, d3, q1]) q2 (by omega) (by omega) (fun v' w' ho hg h' => ?_)
    have hb' : Below (g + 1) w w' := (Below.refl (g + 1) w).grown hg (by omega) (fun q hq => (hT.1.lt hq).1)
    obtain ⟨n1, n2, n3⟩ := hT.next m3 m4 ho hg h'
    refine ⟨hDt.step (fun v' h => by simp [V21] at h), m1.trans (hb'.mono (Nat.le_succ g)), ?_, ⟨n2, n3⟩, fun a b => ?_, fun a b => ?_, fun a => ?_, fun a b => n1, fun a => ?_⟩
    · rw [hb'.block g (Nat.lt_succ_self g), m2]
      simp [pickB, updB, l11, l13]
    · exact absurd b (by simp [updB])
    · obtain ⟨g', r1, r2, r3⟩ := m6 a b
      exact ⟨g', r1, hg.cell r2 r3, r3⟩
    · exact absurd a (by simp [updB])
    · exact absurd (l9.symm.trans a) (by simp)
  · rintro l vals w ⟨hDt, hM⟩ hl hdn hdi
    simp [upV, go_sem, e5, evV, S21, lookV, h7]
    exact ⟨hDt.step (fun v' h => by simpa [V21] using h), hM⟩
  · rintro l vals w ⟨hDt, hM⟩ hl hdn hdi
    have d1 := hdi 5 (by decide)
    have v1 := hDt 5 _ rfl d1
    have l13 := not_yet hdn hl (k := 13) (by decide)
    have c1 := (cell_in' hM.2.1 1).1
    simp [pickB, l13] at c1
    simp [upV, go_sem, e6, evV, S21, lookV, d1, v1, c1]
    exact ⟨hDt.step (fun v' h => by simpa [V21] using h), hM⟩
  · rintro l vals w ⟨hDt, hM⟩ hl hdn hdi
    simp [upV, go_sem, e7, evV, S21, lookV, h11]
    exact ⟨hDt.step (fun v' h => by simpa [V21] using h), hM⟩
  · rintro l vals w ⟨hDt, hM⟩ hl hdn hdi
    have d1 := hdi 7 (by decide)
    have v1 := hDt 7 _ rfl d1
    simp [upV, go_sem, e8, evV, S21, lookV, d1, v1]
    obtain ⟨m1, m2, ⟨m3, m4⟩, m5, m6, m7, m8, m9⟩ := hM
    have hbA := alloc_later w (.cells #[.slice SB.la SB.ln SB.lc] 25)
    have hsz := m1.size
    have hne : ∀ (p : Addr) (u : Value), w.cell? p = some u → (w.alloc (.cells #[.slice SB.la SB.ln SB.lc] 25)).cell? p = some u := fun p u h => cell_alloc h
    refine ⟨hDt.step (fun v' h => by simp [V21] at h), m1.alloc (by omega) _, ?_, ⟨m3.later hbA, m4.later hbA⟩, fun a b => ?_, fun _ _ => ⟨w.heap.size, rfl, by simp, fun e => ?_⟩, fun a => (m7 a).alloc _, fun a b => (m8 a b).alloc _, fun a => (m9 a).alloc _⟩
    · exact (hbA.block g (by omega)).trans m2
    · obtain ⟨q, q1, q2⟩ := m5 a b
      exact ⟨q, q1, hne _ _ q2⟩
    · have := hvA _ e.symm
      omega
  · rintro l vals w ⟨hDt, hM⟩ hl hdn hdi
    have d6 := hdi 6 (by decide)
    have d8 := hdi 8 (by decide)
    have d4 := hdi 4 (by decide)
    have v6 := hDt 6 _ rfl d6
    have l11 := not_yet hdn hl (k := 11) (by decide)
    have l13 := not_yet hdn hl (k := 13) (by decide)
    obtain ⟨m1, m2, ⟨m3, m4⟩, m5, m6, m7, m8, m9⟩ := hM
    obtain ⟨q, q1, q2, q3⟩ := m6 d8 hl
    have hT := m8 d4 hl
    have hsz := m1.size
    refine upV_append_one w (.tmp 78) (.tmp 80) e9 (g + 1) vB i BL (by simp [evV, S21, lookV, d6, v6]) hT.2.1.1 q 1 SB (by simp [evV, S21, lookV, d8, q1]) q2 (by omega) (by omega) (fun v' w' ho hg h' => ?_)
    have hb' : Below (g + 1) w w' := (Below.refl (g + 1) w).grown hg (by omega) (fun q hq => (hT.2.1.lt hq).1)
    obtain ⟨n1, n2, n3⟩ := hT.sym.next m4 m3 ho hg h'
    refine ⟨hDt.step (fun v' h => by simp [V21] at h), m1.trans (hb'.mono (Nat.le_succ g)), ?_, ⟨n3, n2⟩, fun a b => ?_, fun a b => ?_, fun a => ?_, fun a b => ?_, fun a => n1.sym⟩
    · rw [hb'.block g (Nat.lt_succ_self g), m2]
      simp [pickB, updB, l11, l13]
    · exact absurd (d4.symm.trans b) (by simp)
    · exact absurd b (by simp [updB])
    · exact absurd (d4.symm.trans a) (by simp)
    · exact absurd b (by simp [updB])
  · rintro l vals w ⟨hDt, hM⟩ hl hdn hdi
    simp [upV, go_sem, e10, evV, S21, lookV, h7]
    exact ⟨hDt.step (fun v' h => by simpa [V21] using h), hM⟩
  · rintro l vals w ⟨hDt, hM⟩ hl hdn hdi
    have d10 := hdi 10 (by decide)
    have d4 := hdi 4 (by decide)
    have d9 := hdi 9 (by decide)
    have v10 := hDt 10 _ rfl d10
    obtain ⟨m1, m2, ⟨m3, m4⟩, m5, m6, m7, m8, m9⟩ := hM
    have hT := m9 d9
    obtain ⟨gA, cA, hvA2⟩ := own_slice hT.1.1 (Nat.succ_pos i)
    have c0 := cell_in' m2 0
    simp [pickB, hl] at c0
    obtain ⟨c0, c0f⟩ := c0
    simp [upV, go_sem, e11, evV, S21, lookV, d10, d4, v10, hvA2, c0, c0f]
    rw [← hvA2]
    refine ⟨hDt.step (fun v' h => by simp [V21] at h), m1.setCell (p := ⟨g, 0, none⟩) (Nat.le_refl _) _, ?_, ⟨m3.set71 m2, m4.set71 m2⟩, fun a b => ?_, fun a b => ?_, fun a => ?_, fun a b => ?_, fun a => hT.set71 m2 (Nat.lt_succ_self g)⟩
    · rw [heap_setCell_same _ _ _ _ _ _ m2]
      simp [pickB, updB, updV]
    · exact absurd (d4.symm.trans b) (by simp)
    · exact absurd (d9.symm.trans b) (by simp)
    · exact absurd (d4.symm.trans a) (by simp)
    · exact absurd (d9.symm.trans b) (by simp)
  · rintro l vals w ⟨hDt, hM⟩ hl hdn hdi
    simp [upV, go_sem, e12, evV, S21, lookV, h7]
    exact ⟨hDt.step (fun v' h => by simpa [V21] using h), hM⟩
  · rintro l vals w ⟨hDt, hM⟩ hl hdn hdi
    have d12 := hdi 12 (by decide)
    have d4 := hdi 4 (by decide)
    have d9 := hdi 9 (by decide)
    have d11 := hdi 11 (by decide)
    have v12 := hDt 12 _ rfl d12
    obtain ⟨m1, m2, ⟨m3, m4⟩, m5, m6, m7, m8, m9⟩ := hM
    have hT := m9 d9
    obtain ⟨gB, cB, hvB2⟩ := own_slice hT.2.1.1 (Nat.succ_pos i)
    have c0 := cell_in' m2 1
    simp [pickB, hl] at c0
    obtain ⟨c0, c0f⟩ := c0
    simp [upV, go_sem, e13, evV, S21, lookV, d12, d9, v12, hvB2, c0, c0f]
    rw [← hvB2]
    refine ⟨hDt.step (fun v' h => by simp [V21] at h), m1.setCell (p := ⟨g, 1, none⟩) (Nat.le_refl _) _, ?_, ⟨m3.set71 m2, m4.set71 m2⟩, fun a b => ?_, fun a b => ?_, fun a => ?_, fun a b => ?_, fun a => hT.set71 m2 (Nat.lt_succ_self g)⟩
    · rw [heap_setCell_same _ _ _ _ _ _ m2]
      simp [pickB, updB, updV, d11]
    · exact absurd (d4.symm.trans b) (by simp)
    · exact absurd (d9.symm.trans b) (by simp)
    · exact absurd (d4.symm.trans a) (by simp)
    · exact absurd (d9.symm.trans b) (by simp)
end Go.Proofs.Ytbcchbhchfdbiaa
namespace Go.Proofs.Ytbcchbhchfdbiaa
open Go.RowKit Go.Shelf
def M6 (W : World) (R0 R1 : Value → World → Prop) (l : Nat → Bool) (vals : Nat → Value) (w : World) : Prop := Below W.heap.size W w ∧ (l 1 = true → R0 (vals 1) w) ∧ (l 3 = true → R1 (vals 3) w) ∧ (l 4 = true → vals 4 = vals 1) ∧ (l 5 = true → vals 5 = vals 3)
def D6 : List (List Nat) := [[], [0], [], [2, 1], [1, 3, 0, 1], [3, 4, 0, 1, 2, 3, 4]]
def S6 : List (Option Tmp) := [some 26, some 27, some 28, some 29, some 5, some 6]
def J6 (W : World) (TV : Value) (R0 R1 : Value → World → Prop) (l : Nat → Bool) (vals : Nat → Value) (w : World) : Prop := Det [some TV, none, some TV, none, none, none] l vals ∧ M6 W R0 R1 l vals w
attribute [local go_sem] Oper.semAt_some
set_option maxRecDepth 100000 in
set_option maxHeartbeats 4000000 in
theorem steps6 {W : World} {b n c : Nat} {x : Int} {a : Option Addr} {R0 R1 : Value → World → Prop} {t0 : Array Value} (h1 : t0[1]? = some (.pointer (some ⟨b, 0, none⟩))) (hx : ∀ wr, Below W.heap.size W wr → wr.cell? ⟨b, 0, none⟩ = some (.int .i64 x) ∧ wr.cell? ⟨b, 1, none⟩ = some (.slice a n c))
    (hR0 : ∀ v w w', R0 v w → Below w.heap.size w w' → R0 v w')
    (C0 : ∀ X, Below W.heap.size W X → Calls Try.prog 53 #[.agg #[.int .i64 x, .slice a n c], .int .i64 0] X fun e w' => ∃ v, e = .returned v ∧ R0 v w' ∧ Below X.heap.size X w')
    (C1 : ∀ X, Below W.heap.size W X → Calls Try.prog 53 #[.agg #[.int .i64 x, .slice a n c], .int .i64 1] X fun e w' => ∃ v, e = .returned v ∧ R1 v w' ∧ Below X.heap.size X w')
    {o0 o1 o2 o3 o4 o5 : Oper}
    (e0 : o0.op = .load 24 (.tmp 1)) (e1 : o1.op = .call { callee := .value (.func 53), args := #[.tmp 26, .const (.int .i64 0)], argTypes := #[24, 3] }) (e2 : o2.op = .load 24 (.tmp 1)) (e3 : o3.op = .call { callee := .value (.func 53), args := #[.tmp 28, .const (.int .i64 1)], argTypes := #[24, 3] }) (e4 : o4.op = .assign (.tmp 27)) (e5 : o5.op = .assign (.tmp 29)) :
    StepsV Try.prog (J6 W (.agg #[.int .i64 x, .slice a n c]) R0 R1) D6 S6 t0 0 [o0, o1, o2, o3, o4, o5] := by
  refine ⟨?_, ?_, ?_, ?_, ?_, ?_, trivial⟩
  · rintro l vals w ⟨hDt, hM⟩ hl hdn hdi
    obtain ⟨c0, c1⟩ := hx w hM.1
    simp [upV, go_sem, e0, evV, S6, lookV, h1, c0, c1]
    exact ⟨hDt.step (fun v' h => by simpa using h), hM⟩
  · rintro l vals w ⟨hDt, hM⟩ hl hdn hdi
    have d0 := hdi 0 (by decide)
    have v0 := hDt 0 _ rfl d0
    simp [upV, go_sem, e1, evV, S6, lookV, d0, v0]
    refine (C0 w hM.1).mono ?_
    rintro e w' ⟨v, rfl, hr, hb⟩
    have l3 := not_yet hdn hl (k := 3) (by decide)
    have l4 := not_yet hdn hl (k := 4) (by decide)
    refine ⟨v, rfl, hDt.step (fun v' h => by simp at h), hM.1.trans (hb.mono hM.1.size), fun _ => hr, fun a => ?_, fun a => ?_, hM.2.2.2.2⟩
    · exact absurd (l3.symm.trans a) (by simp)
    · exact absurd (l4.symm.trans a) (by simp)
  · rintro l vals w ⟨hDt, hM⟩ hl hdn hdi
    obtain ⟨c0, c1⟩ := hx w hM.1
    simp [upV, go_sem, e2, evV, S6, lookV, h1, c0, c1]
    exact ⟨hDt.step (fun v' h => by simpa using h), hM⟩
  · rintro l vals w ⟨hDt, hM⟩ hl hdn hdi
    have d2 := hdi 2 (by decide)
    have d1 := hdi 1 (by decide)
    have v0 := hDt 2 _ rfl d2
    simp [upV, go_sem, e3, evV, S6, lookV, d2, v0]
    refine (C1 w hM.1).mono ?_
    rintro e w' ⟨v, rfl, hr, hb⟩
    have l5 := not_yet hdn hl (k := 5) (by decide)
    refine ⟨v, rfl, hDt.step (fun v' h => by simp at h), hM.1.trans (hb.mono hM.1.size), fun a => hR0 _ _ _ (hM.2.1 a) hb, fun _ => hr, hM.2.2.2.1, fun a => ?_⟩
    exact absurd (l5.symm.trans a) (by simp)
  · rintro l vals w ⟨hDt, hM⟩ hl hdn hdi
    have d1 := hdi 1 (by decide)
    simp [upV, go_sem, e4, evV, S6, lookV, d1]
    exact ⟨hDt.step (fun v' h => by simp at h), hM.1, hM.2.1, hM.2.2.1, fun _ => rfl, hM.2.2.2.2⟩
  · rintro l vals w ⟨hDt, hM⟩ hl hdn hdi
    have d3 := hdi 3 (by decide)
    simp [upV, go_sem, e5, evV, S6, lookV, d3]
    exact ⟨hDt.step (fun v' h => by simp at h), hM.1, hM.2.1, hM.2.2.1, hM.2.2.2.1, fun _ => rfl⟩
end Go.Proofs.Ytbcchbhchfdbiaa
namespace Go.Proofs.Ytbcchbhchfdbiaa
open Go.RowKit Go.Shelf
def M15 (W : World) (n : Nat) (U : List Int) (R : Value → World → Prop) (l : Nat → Bool) (vals : Nat → Value) (w : World) : Prop := Below W.heap.size W w ∧ (l 5 = true → ∃ ua uc, vals 5 = .slice ua n uc ∧ Ints w ua n uc U) ∧ (l 6 = true → R (vals 6) w) ∧ (l 7 = true → vals 7 = vals 6)
def D15 : List (List Nat) := [[], [], [], [2], [3], [4], [0, 1, 5, 5], [6, 6, 0, 1, 2, 3, 4, 5, 6]]
def S15 : List (Option Tmp) := [some 94, some 95, some 96, some 97, some 98, some 99, some 100, some 8]
def V15 (b : Nat) (x : Int) (a : Option Addr) (n c : Nat) (Z : Value) : List (Option Value) := [some (.agg #[.int .i64 x, .slice a n c]), some Z, some (.pointer (some ⟨b, 1, none⟩)), some (.slice a n c), some (.int .i64 (n : Int)), none, none, none]
def J15 (W : World) (b : Nat) (x : Int) (a : Option Addr) (n c : Nat) (Z : Value) (U : List Int) (R : Value → World → Prop) (l : Nat → Bool) (vals : Nat → Value) (w : World) : Prop := Det (V15 b x a n c Z) l vals ∧ M15 W n U R l vals w
attribute [local go_sem] Oper.semAt_some
set_option maxRecDepth 100000 in
set_option maxHeartbeats 4000000 in
theorem steps15 {W : World} {b n c : Nat} {x : Int} {a : Option Addr} {Z : Value} {U : List Int} {R : Value → World → Prop} {t0 : Array Value} (h1 : t0[1]? = some (.pointer (some ⟨b, 0, none⟩))) (h7 : t0[7]? = some Z) (hx : ∀ wr, Below W.heap.size W wr → wr.cell? ⟨b, 0, none⟩ = some (.int .i64 x) ∧ wr.cell? ⟨b, 1, none⟩ = some (.slice a n c))
    (C55 : ∀ X, Calls Try.prog 55 #[.int .i64 (n : Int)] X fun e w' => ∃ ua uc, e = .returned (.slice ua n uc) ∧ Ints w' ua n uc U ∧ Below X.heap.size X w')
    (C37 : ∀ X, Below W.heap.size W X → ∀ ua uc, Ints X ua n uc U → Calls Try.prog 37 #[.agg #[.int .i64 x, .slice a n c], Z, .int .i64 0, .slice ua n uc] X fun e w' => ∃ v, e = .returned v ∧ R v w' ∧ Below X.heap.size X w')
    {o0 o1 o2 o3 o4 o5 o6 o7 : Oper}
    (e0 : o0.op = .load 24 (.tmp 1)) (e1 : o1.op = .move (.tmp 7)) (e2 : o2.op = .fieldAddr 24 (.tmp 1) 1) (e3 : o3.op = .load 22 (.tmp 96)) (e4 : o4.op = .call { callee := .builtin .len, args := #[.tmp 97], argTypes := #[22] }) (e5 : o5.op = .call { callee := .value (.func 55), args := #[.tmp 98], argTypes := #[3] })
    (e6 : o6.op = .call { callee := .value (.func 37), args := #[.tmp 94, .tmp 95, .const (.int .i64 0), .tmp 99], argTypes := #[24, 25, 3, 25] }) (e7 : o7.op = .assign (.tmp 100)) :
    StepsV Try.prog (J15 W b x a n c Z U R) D15 S15 t0 0 [o0, o1, o2, o3, o4, o5, o6, o7] := by
  refine ⟨?_, ?_, ?_, ?_, ?_, ?_, ?_, ?_, trivial⟩
  · rintro l vals w ⟨hDt, hM⟩ hl hdn hdi
    obtain ⟨c0, c1⟩ := hx w hM.1
    simp [upV, go_sem, e0, evV, S15, lookV, h1, c0, c1]
    exact ⟨hDt.step (fun v' h => by simpa [V15] using h), hM⟩
  · rintro l vals w ⟨hDt, hM⟩ hl hdn hdi
    simp [upV, go_sem, e1, evV, S15, lookV, h7]
    exact ⟨hDt.step (fun v' h => by simpa [V15] using h), hM⟩
  · rintro l vals w ⟨hDt, hM⟩ hl hdn hdi
    simp [upV, go_sem, e2, evV, S15, lookV, h1]
    exact ⟨hDt.step (fun v' h => by simpa [V15] using h), hM⟩
  · rintro l vals w ⟨hDt, hM⟩ hl hdn hdi
    have d1 := hdi 2 (by decide)
    have v1 := hDt 2 _ rfl d1
    obtain ⟨c0, c1⟩ := hx w hM.1
    simp [upV, go_sem, e3, evV, S15, lookV, d1, v1, c1]
    exact ⟨hDt.step (fun v' h => by simpa [V15] using h), hM⟩
  · rintro l vals w ⟨hDt, hM⟩ hl hdn hdi
    have d1 := hdi 3 (by decide)
    have v1 := hDt 3 _ rfl d1
    simp [upV, go_sem, e4, evV, S15, lookV, d1, v1]
    exact ⟨hDt.step (fun v' h => by simpa [V15] using h), hM⟩
  · rintro l vals w ⟨hDt, hM⟩ hl hdn hdi
    have d1 := hdi 4 (by decide)
    have v1 := hDt 4 _ rfl d1
    have l6 := not_yet hdn hl (k := 6) (by decide)
    simp [upV, go_sem, e5, evV, S15, lookV, d1, v1]
    refine (C55 w).mono ?_
    rintro e w' ⟨ua, uc, rfl, hI, hb⟩
    exact ⟨_, rfl, hDt.step (fun v' h => by simp [V15] at h), hM.1.trans (hb.mono hM.1.size), fun _ => ⟨ua, uc, rfl, hI⟩, fun q => absurd (l6.symm.trans q) (by simp), hM.2.2.2⟩
  · rintro l vals w ⟨hDt, hM⟩ hl hdn hdi
    have d0 := hdi 0 (by decide)
    have v0 := hDt 0 _ rfl d0
    have d1 := hdi 1 (by decide)
    have v1 := hDt 1 _ rfl d1
    have d5 := hdi 5 (by decide)
    have l7 := not_yet hdn hl (k := 7) (by decide)
    obtain ⟨ua, uc, hv, hI⟩ := hM.2.1 d5
    simp [upV, go_sem, e6, evV, S15, lookV, d0, v0, d1, v1, d5, hv]
    refine (C37 w hM.1 ua uc hI).mono ?_
    rintro e w' ⟨v, rfl, hr, hb⟩
    exact ⟨_, rfl, hDt.step (fun v' h => by simp [V15] at h), hM.1.trans (hb.mono hM.1.size), fun _ => ⟨ua, uc, hv, hI.later hb⟩, fun _ => hr, fun q => absurd (l7.symm.trans q) (by simp)⟩
  · rintro l vals w ⟨hDt, hM⟩ hl hdn hdi
    have d1 := hdi 6 (by decide)
    simp [upV, go_sem, e7, evV, S15, lookV, d1]
    exact ⟨hDt.step (fun v' h => by simp [V15] at h), hM.1, hM.2.1, hM.2.2.1, fun _ => rfl⟩
def M20 (W : World) (n : Nat) (U : List Int) (R : Value → World → Prop) (l : Nat → Bool) (vals : Nat → Value) (w : World) : Prop := Below W.heap.size W w ∧ (l 8 = true → ∃ ua uc, vals 8 = .slice ua n uc ∧ Ints w ua n uc U) ∧ (l 9 = true → R (vals 9) w) ∧ (l 10 = true → vals 10 = vals 9)
def D20 : List (List Nat) := [[], [], [], [1, 2], [3], [], [5], [6], [7], [0, 4, 8, 8], [9, 9, 0, 1, 2, 3, 4, 5, 6, 7, 8, 9]]
def S20 : List (Option Tmp) := [some 108, some 109, some 110, some 111, some 112, some 113, some 114, some 115, some 116, some 117, some 11]
def V20 (b : Nat) (x : Int) (a : Option Addr) (n c : Nat) (ob oo m oc i : Nat) (Z : Value) : List (Option Value) := [some (.agg #[.int .i64 x, .slice a n c]), some (.slice (some ⟨ob, oo, none⟩) m oc), some (.int .i64 (i : Int)), some (.pointer (some ⟨ob, oo + i, none⟩)), some Z, some (.pointer (some ⟨b, 1, none⟩)), some (.slice a n c), some (.int .i64 (n : Int)), none, none, none]
def J20 (W : World) (b : Nat) (x : Int) (a : Option Addr) (n c : Nat) (ob oo m oc i : Nat) (Z : Value) (U : List Int) (R : Value → World → Prop) (l : Nat → Bool) (vals : Nat → Value) (w : World) : Prop := Det (V20 b x a n c ob oo m oc i Z) l vals ∧ M20 W n U R l vals w
set_option maxRecDepth 100000 in
set_option maxHeartbeats 4000000 in
theorem steps20 {W : World} {b n c : Nat} {x : Int} {a : Option Addr} {ob oo m oc i : Nat} {za : Option Addr} {zn zc : Nat} {U : List Int} {R : Value → World → Prop} {t0 : Array Value} (h1 : t0[1]? = some (.pointer (some ⟨b, 0, none⟩))) (h8 : t0[8]? = some (.slice (some ⟨ob, oo, none⟩) m oc)) (h10 : t0[10]? = some (.int .i64 (i : Int))) (hi : i < m) (hx : ∀ wr, Below W.heap.size W wr → wr.cell? ⟨b, 0, none⟩ = some (.int .i64 x) ∧ wr.cell? ⟨b, 1, none⟩ = some (.slice a n c) ∧ wr.cell? ⟨ob, oo + i, none⟩ = some (.slice za zn zc))
    (C55 : ∀ X, Calls Try.prog 55 #[.int .i64 (n : Int)] X fun e w' => ∃ ua uc, e = .returned (.slice ua n uc) ∧ Ints w' ua n uc U ∧ Below X.heap.size X w')
    (C37 : ∀ X, Below W.heap.size W X → ∀ ua uc, Ints X ua n uc U → Calls Try.prog 37 #[.agg #[.int .i64 x, .slice a n c], .slice za zn zc, .int .i64 1, .slice ua n uc] X fun e w' => ∃ v, e = .returned v ∧ R v w' ∧ Below X.heap.size X w')
    {o0 o1 o2 o3 o4 o5 o6 o7 o8 o9 o10 : Oper}
    (e0 : o0.op = .load 24 (.tmp 1)) (e1 : o1.op = .move (.tmp 8)) (e2 : o2.op = .move (.tmp 10)) (e3 : o3.op = .indexAddr 53 (.tmp 109) (.tmp 110)) (e4 : o4.op = .load 25 (.tmp 111)) (e5 : o5.op = .fieldAddr 24 (.tmp 1) 1) (e6 : o6.op = .load 22 (.tmp 113)) (e7 : o7.op = .call { callee := .builtin .len, args := #[.tmp 114], argTypes := #[22] }) (e8 : o8.op = .call { callee := .value (.func 55), args := #[.tmp 115], argTypes := #[3] })
    (e9 : o9.op = .call { callee := .value (.func 37), args := #[.tmp 108, .tmp 112, .const (.int .i64 1), .tmp 116], argTypes := #[24, 25, 3, 25] }) (e10 : o10.op = .assign (.tmp 117)) :
    StepsV Try.prog (J20 W b x a n c ob oo m oc i (.slice za zn zc) U R) D20 S20 t0 0 [o0, o1, o2, o3, o4, o5, o6, o7, o8, o9, o10] := by
  refine ⟨?_, ?_, ?_, ?_, ?_, ?_, ?_, ?_, ?_, ?_, ?_, trivial⟩
  · rintro l vals w ⟨hDt, hM⟩ hl hdn hdi
    obtain ⟨c0, c1, -⟩ := hx w hM.1
    simp [upV, go_sem, e0, evV, S20, lookV, h1, c0, c1]
    exact ⟨hDt.step (fun v' h => by simpa [V20] using h), hM⟩
  · rintro l vals w ⟨hDt, hM⟩ hl hdn hdi
    simp [upV, go_sem, e1, evV, S20, lookV, h8]
    exact ⟨hDt.step (fun v' h => by simpa [V20] using h), hM⟩
  · rintro l vals w ⟨hDt, hM⟩ hl hdn hdi
    simp [upV, go_sem, e2, evV, S20, lookV, h10]
    exact ⟨hDt.step (fun v' h => by simpa [V20] using h), hM⟩
  · rintro l vals w ⟨hDt, hM⟩ hl hdn hdi
    have d1 := hdi 1 (by decide)
    have v1 := hDt 1 _ rfl d1
    have d2 := hdi 2 (by decide)
    have v2 := hDt 2 _ rfl d2
    have hi1 : (i : Int) < (m : Int) := by omega
    simp [upV, go_sem, e3, evV, S20, lookV, d1, v1, d2, v2, hi1]
    exact ⟨hDt.step (fun v' h => by simpa [V20] using h), hM⟩
  · rintro l vals w ⟨hDt, hM⟩ hl hdn hdi
    have d1 := hdi 3 (by decide)
    have v1 := hDt 3 _ rfl d1
    obtain ⟨c0, c1, c2⟩ := hx w hM.1
    simp [upV, go_sem, e4, evV, S20, lookV, d1, v1, c2]
    exact ⟨hDt.step (fun v' h => by simpa [V20] using h), hM⟩
  · rintro l vals w ⟨hDt, hM⟩ hl hdn hdi
    simp [upV, go_sem, e5, evV, S20, lookV, h1]
    exact ⟨hDt.step (fun v' h => by simpa [V20] using h), hM⟩
  · rintro l vals w ⟨hDt, hM⟩ hl hdn hdi
    have d1 := hdi 5 (by decide)
    have v1 := hDt 5 _ rfl d1
    obtain ⟨c0, c1, -⟩ := hx w hM.1
    simp [upV, go_sem, e6, evV, S20, lookV, d1, v1, c1]
    exact ⟨hDt.step (fun v' h => by simpa [V20] using h), hM⟩
  · rintro l vals w ⟨hDt, hM⟩ hl hdn hdi
    have d1 := hdi 6 (by decide)
    have v1 := hDt 6 _ rfl d1
    simp [upV, go_sem, e7, evV, S20, lookV, d1, v1]
    exact ⟨hDt.step (fun v' h => by simpa [V20] using h), hM⟩
  · rintro l vals w ⟨hDt, hM⟩ hl hdn hdi
    have d1 := hdi 7 (by decide)
    have v1 := hDt 7 _ rfl d1
    have l6 := not_yet hdn hl (k := 9) (by decide)
    simp [upV, go_sem, e8, evV, S20, lookV, d1, v1]
    refine (C55 w).mono ?_
    rintro e w' ⟨ua, uc, rfl, hI, hb⟩
    exact ⟨_, rfl, hDt.step (fun v' h => by simp [V20] at h), hM.1.trans (hb.mono hM.1.size), fun _ => ⟨ua, uc, rfl, hI⟩, fun q => absurd (l6.symm.trans q) (by simp), hM.2.2.2⟩
  · rintro l vals w ⟨hDt, hM⟩ hl hdn hdi
    have d0 := hdi 0 (by decide)
    have v0 := hDt 0 _ rfl d0
    have d1 := hdi 4 (by decide)
    have v1 := hDt 4 _ rfl d1
    have d5 := hdi 8 (by decide)
    have l7 := not_yet hdn hl (k := 10) (by decide)
    obtain ⟨ua, uc, hv, hI⟩ := hM.2.1 d5
    simp [upV, go_sem, e9, evV, S20, lookV, d0, v0, d1, v1, d5, hv]
    refine (C37 w hM.1 ua uc hI).mono ?_
    rintro e w' ⟨v, rfl, hr, hb⟩
    exact ⟨_, rfl, hDt.step (fun v' h => by simp [V20] at h), hM.1.trans (hb.mono hM.1.size), fun _ => ⟨ua, uc, hv, hI.later hb⟩, fun _ => hr, fun q => absurd (l7.symm.trans q) (by simp)⟩
  · rintro l vals w ⟨hDt, hM⟩ hl hdn hdi
    have d1 := hdi 9 (by decide)
    simp [upV, go_sem, e10, evV, S20, lookV, d1]
    exact ⟨hDt.step (fun v' h => by simp [V20] at h), hM.1, hM.2.1, hM.2.2.1, fun _ => rfl⟩
end Go.Proofs.Ytbcchbhchfdbiaa
