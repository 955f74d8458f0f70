import Derived.Test.YtajdijjecojdhaaDoorWNK
namespace Go.Proofs.YtajdijjecojdhaaDoor
open Go.RowKit
/-- A name's place among names is the agent's place among agents. -/
theorem sidx_aidx {es : List Ent} {x : ByteArray} : ∀ (d k : Nat), es.length - k = d → sidxFrom (es.map (·.name)) x k = aidxFrom (es.map agE0) x k
  | 0, k, hd => by rw [sidxFrom_end (by simp; omega), aidxFrom_end (by simp; omega)]
  | d + 1, k, hd => by
    have hk : k < es.length := by omega
    have e1 : ((es.map (·.name))[k]?.getD ByteArray.empty) = es[k].name := by simp [hk]
    have e2 : (agAt (es.map agE0) k).name = es[k].name := by unfold agAt; simp [hk, agE0]
    rw [sidxFrom_step (by simpa using hk), aidxFrom_step (by simpa using hk), e1, e2, sidx_aidx d (k + 1) (by omega)]
theorem skip_first {x : ByteArray} {t : List ByteArray} (h : 0 < x.size) : skipB (x :: t) = decide (x[0].toNat = 35) := by
  have hl : x.data.toList[0]? = some x[0] := data_get x 0 h
  show Lib.hasPrefix x.data.toList [35] = _
  cases hx : x.data.toList with
  | nil => rw [hx] at hl; simp at hl
  | cons c r =>
    rw [hx] at hl
    simp at hl
    rw [← hl]
    unfold Lib.hasPrefix
    by_cases e : c = 35
    · subst e; simp
    · have : ¬ c.toNat = 35 := fun q => e (by apply UInt8.toNat_inj.1; simpa using q)
      have hb : ((35 : UInt8) == c) = false := by simpa using fun q : (35 : UInt8) = c => e q.symm
      simp [this, List.isPrefixOf, hb]
end Go.Proofs.YtajdijjecojdhaaDoor
namespace Go.Proofs.YtajdijjecojdhaaDoor
open Go.RowKit
theorem info9' : (Tryd.prog.info? 9).map (fun i => (i.zero, i.size, i.bytes)) = some (some (.string ByteArray.empty), 1, 16) := by kernel_rfl
def D44 : List (List Nat) := [[], [0], [], [], [2, 3], [4], [5], [1, 6], [0, 1, 2, 3, 4, 5, 6, 7], [8, 7, 7, 0, 1, 2, 3, 4, 5, 6, 7]]
def S44 : List (Option Tmp) := [some 171, some 172, some 173, some 174, some 175, some 176, some 177, some 178, some 179, none]
def V44 (G b off n c i : Nat) (v : Value) (y : ByteArray) : List (Option Value) := [some (.pointer (some ⟨G, 4, none⟩)), some ((v)), some (.slice (some ⟨b, off, none⟩) n c), some (.int .i64 (i : Int)), some (.pointer (some ⟨b, off + i, none⟩)), some (.string y), none, none, some (.pointer (some ⟨G, 4, none⟩)), none]
def M44 (B G : Nat) (W0 : World) (z0 z1 z2 z3 v : Value) (k : Nat) (xs : List Value) (y : ByteArray) (l : Nat → Bool) (vals : Nat → Value) (w : World) : Prop :=
  Below G W0 w ∧ w.heap[G]? = some (.cells #[z0, z1, z2, z3, pickB (l 9) (vals 7) v] 69 (0, 0)) ∧
  (l 6 = true → l 7 = false → ∃ g, vals 6 = .slice (some ⟨g, 0, none⟩) 1 1 ∧ w.cell? ⟨g, 0, none⟩ = some (.string y)) ∧
  (l 7 = false → w.ownsRow B 9 1 v k xs) ∧ (l 7 = true → w.ownsRow B 9 1 (vals 7) (k + 1) (xs ++ [.string y]))
def J44 (B G : Nat) (W0 : World) (z0 z1 z2 z3 v : Value) (k : Nat) (xs : List Value) (y : ByteArray) (b off n c i : Nat) (l : Nat → Bool) (vals : Nat → Value) (w : World) : Prop := Det (V44 G b off n c i v y) l vals ∧ M44 B G W0 z0 z1 z2 z3 v k xs y l vals w
attribute [local go_sem] Oper.semAt_some
set_option maxRecDepth 100000 in
set_option maxHeartbeats 4000000 in
theorem steps44 {B G : Nat} {W0 : World} {z0 z1 z2 z3 v : Value} {k : Nat} {xs : List Value} {y : ByteArray} {b off n c i : Nat} {t0 : Array Value} (h6 : t0[6]? = some (.pointer (some ⟨G, 0, none⟩))) (h0 : t0[0]? = some (.slice (some ⟨b, off, none⟩) n c)) (h13 : t0[13]? = some (.int .i64 (i : Int))) (hi : i < n) (hG : G < W0.heap.size) (hGB : G < B) (hB : B ≤ W0.heap.size) (hk : k ≤ 9000) (hbG : b < G) (hy : W0.cell? ⟨b, off + i, none⟩ = some (.string y))
    {o0 o1 o2 o3 o4 o5 o6 o7 o8 o9 : Oper}
    (e0 : o0.op = .fieldAddr 69 (.tmp 6) 2) (e1 : o1.op = .load 49 (.tmp 171)) (e2 : o2.op = .move (.tmp 0)) (e3 : o3.op = .move (.tmp 13)) (e4 : o4.op = .indexAddr 49 (.tmp 173) (.tmp 174)) (e5 : o5.op = .load 9 (.tmp 175)) (e6 : o6.op = .buildSlice 49 1 #[(0, .tmp 176)]) (e7 : o7.op = .call { callee := .builtin .append, args := #[.tmp 172, .tmp 177], argTypes := #[49, 49] }) (e8 : o8.op = .fieldAddr 69 (.tmp 6) 2) (e9 : o9.op = .store 49 (.tmp 179) (.tmp 178)) :
    StepsV Tryd.prog (J44 B G W0 z0 z1 z2 z3 v k xs y b off n c i) D44 S44 t0 0 [o0, o1, o2, o3, o4, o5, o6, o7, o8, o9] := by
  refine ⟨?_, ?_, ?_, ?_, ?_, ?_, ?_, ?_, ?_, ?_, trivial⟩
  · rintro l vals w ⟨hDt, hM⟩ hl hdn hdi
    simp [upV, go_sem, e0, evV, S44, lookV, h6]
    exact ⟨hDt.step (fun v' h => by simpa [V44] using h), hM⟩
  · rintro l vals w ⟨hDt, hM⟩ hl hdn hdi
    have d0 := hdi 0 (by decide)
    have v0 := hDt 0 _ rfl d0
    have l9 := not_yet hdn hl (k := 9) (by decide)
    have c2 := (cell_in' hM.2.1 4).1
    simp [pickB, l9] at c2
    simp [upV, go_sem, e1, evV, S44, lookV, d0, v0, c2]
    exact ⟨hDt.step (fun v' h => by simpa [V44] using h), hM⟩
  · rintro l vals w ⟨hDt, hM⟩ hl hdn hdi
    simp [upV, go_sem, e2, evV, S44, lookV, h0]
    exact ⟨hDt.step (fun v' h => by simpa [V44] using h), hM⟩
  · rintro l vals w ⟨hDt, hM⟩ hl hdn hdi
    simp [upV, go_sem, e3, evV, S44, lookV, h13]
    exact ⟨hDt.step (fun v' h => by simpa [V44] using h), hM⟩
  · rintro l vals w ⟨hDt, hM⟩ hl hdn hdi
    have d2 := hdi 2 (by decide)
    have v2 := hDt 2 _ rfl d2
    have d3 := hdi 3 (by decide)
    have v3 := hDt 3 _ rfl d3
    have hi1 : (i : Int) < (n : Int) := by omega
    simp [upV, go_sem, e4, evV, S44, lookV, d2, v2, d3, v3, hi1]
    exact ⟨hDt.step (fun v' h => by simpa [V44] using h), hM⟩
  · rintro l vals w ⟨hDt, hM⟩ hl hdn hdi
    have d4 := hdi 4 (by decide)
    have v4 := hDt 4 _ rfl d4
    have c2 := (hM.1.cell (p := ⟨b, off + i, none⟩) hbG).trans hy
    simp [upV, go_sem, e5, evV, S44, lookV, d4, v4, c2]
    exact ⟨hDt.step (fun v' h => by simpa [V44] using h), hM⟩
  · rintro l vals w ⟨hDt, hM⟩ hl hdn hdi
    have d5 := hdi 5 (by decide)
    have v5 := hDt 5 _ rfl d5
    simp [upV, go_sem, e6, evV, S44, lookV, d5, v5]
    obtain ⟨m1, m2, m3, m4, m5⟩ := hM
    have hsz := m1.size
    have hbA := alloc_later w (.cells #[.string y] 9)
    exact ⟨hDt.step (fun v' h => by simp [V44] at h), m1.alloc (by omega) _, (hbA.block G (by omega)).trans m2, fun _ _ => ⟨w.heap.size, rfl, by simp⟩, fun a => (m4 a).alloc _, fun a => (m5 a).alloc _⟩
  · rintro l vals w ⟨hDt, hM⟩ hl hdn hdi
    have d1 := hdi 1 (by decide)
    have v1 := hDt 1 _ rfl d1
    have d6 := hdi 6 (by decide)
    have l9 := not_yet hdn hl (k := 9) (by decide)
    obtain ⟨m1, m2, m3, m4, m5⟩ := hM
    obtain ⟨g, q1, q2⟩ := m3 d6 hl
    have hsz := m1.size
    have ho := m4 hl
    obtain ⟨i0, hi0, hz0, hz1, hz2⟩ := info_parts info9'
    refine upV_append_elt w (.tmp 172) (.tmp 177) 49 9 i0 _ 1 16 e7 Tryd.underlying49 hi0 hz0 hz1 hz2 rfl (by decide) B v k xs (by simp [evV, S44, lookV, d1, v1]) ho g 1 [.string y] (by simp [evV, S44, lookV, d6, q1]) rfl (fun j u hu => ?_) (by simp [Value.oneCell']) (by omega) (by omega) (by omega) (fun v' w' ho' hg h' => ?_)
    · cases j with
      | zero => simp at hu; subst hu; simpa [Addr.add] using q2
      | succ j => simp at hu
    have hb' : Below B w w' := (Below.refl B w).grown hg (by omega) (fun q hq => (ho.lt q hq).1)
    refine ⟨hDt.step (fun v' h => by simp [V44] at h), m1.trans (hb'.mono (by omega)), ?_, fun a b => ?_, fun a => ?_, fun a => ho'⟩
    · rw [hb'.block G (by omega), m2]
      simp [pickB, updB, l9]
    · exact absurd b (by simp [updB])
    · exact absurd a (by simp [updB])
  · rintro l vals w ⟨hDt, hM⟩ hl hdn hdi
    simp [upV, go_sem, e8, evV, S44, lookV, h6]
    exact ⟨hDt.step (fun v' h => by simpa [V44] using h), hM⟩
  · rintro l vals w ⟨hDt, hM⟩ hl hdn hdi
    have d8 := hdi 8 (by decide)
    have v8 := hDt 8 _ rfl d8
    have d7 := hdi 7 (by decide)
    obtain ⟨m1, m2, m3, m4, m5⟩ := hM
    have ho := m5 d7
    obtain ⟨gN, cN, hv⟩ := own64_slice ho (Nat.succ_pos k)
    have c2 := cell_in' m2 4
    simp [pickB, hl] at c2
    obtain ⟨c2, c2f⟩ := c2
    simp [upV, go_sem, e9, evV, S44, lookV, d8, v8, d7, hv, c2, c2f]
    rw [← hv]
    refine ⟨hDt.step (fun v' h => by simp [V44] at h), m1.setCell (p := ⟨G, 4, none⟩) (Nat.le_refl _) _, ?_, fun a b => ?_, fun a => ?_, fun a => own_set ho hGB⟩
    · rw [heap_setCell_same _ _ _ _ _ _ m2]
      simp [pickB, updB, updV]
    · exact absurd (d7.symm.trans b) (by simp)
    · exact absurd (d7.symm.trans a) (by simp)
end Go.Proofs.YtajdijjecojdhaaDoor
