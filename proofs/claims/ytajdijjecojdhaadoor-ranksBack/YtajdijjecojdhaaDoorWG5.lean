import Derived.Test.YtajdijjecojdhaaDoorWNA
namespace Go.Proofs.YtajdijjecojdhaaDoor
open Go.RowKit
theorem cell_in' {w : World} {b : Nat} {arr : Array Value} {t : TypeId} (h : w.heap[b]? = some (.cells arr t (0, 0))) (j : Nat) : w.cell? ⟨b, j, none⟩ = arr[j]? ∧ w.frozen? ⟨b, j, none⟩ = false := by
  constructor
  · simp [World.cell?, h]
  · simp [World.frozen?, h]
theorem heap_setCell_same (w : World) (g k : Nat) (arr : Array Value) (t : TypeId) (v : Value) (h : w.heap[g]? = some (.cells arr t (0, 0))) : (w.setCell ⟨g, k, none⟩ v).heap[g]? = some (.cells (arr.setIfInBounds k v) t (0, 0)) := by
  show (w.heap.modify g _)[g]? = _
  rw [Array.getElem?_modify, if_pos rfl, h]
  rfl
def D11 : List (List Nat) := [[], [], [1], [2], [3], [], [], [], [6], [8], [9, 7], [10], [11], [], [5, 12, 13], [14], [4, 15], [0, 0, 1, 2, 3, 4, 5, 6, 7, 8, 9, 10, 11, 12, 13, 14, 15, 16], [17, 0, 1, 2, 3, 4, 5, 6, 7, 8, 9, 10, 11, 12, 13, 14, 15, 16], [18, 16, 16, 0, 1, 2, 3, 4, 5, 6, 7, 8, 9, 10, 11, 12, 13, 14, 15, 16]]
def S11 : List (Option Tmp) := [some 70, some 71, some 72, some 73, some 74, some 75, some 76, some 77, some 78, some 79, some 80, some 81, some 82, some 83, some 84, some 85, some 86, some 87, some 88, none]
def V11 (R s : Nat) (aS : Option Addr) (nS cS : Nat) (vN : Value) (a4 : Option Addr) (n4 c4 : Nat) : List (Option Value) := [some (.pointer (some ⟨R, 0, none⟩)), some (.pointer (some ⟨R, 0, none⟩)), some (.pointer (some ⟨R, 0, none⟩)), some (.pointer (some ⟨R, 2, none⟩)), some ((vN)), some (.int .i64 (s : Int)), some (.pointer (some ⟨R, 0, none⟩)), some (.int .i64 (s : Int)), some (.pointer (some ⟨R, 0, none⟩)), some (.pointer (some ⟨R, 0, none⟩)), some (.pointer (some ⟨R, s, none⟩)), some (.slice aS nS cS), some (.int .i64 (nS : Int)), some (.slice a4 n4 c4), some (.agg #[.int .i64 (s : Int), .int .i64 (nS : Int), .slice a4 n4 c4]), none, none, some (.pointer (some ⟨R, 0, none⟩)), some (.pointer (some ⟨R, 2, none⟩)), none]
def M11 (R : Nat) (W0 : World) (c0 c1 vN : Value) (nN : Nat) (xs : List Value) (x : Ln) (F : World → Prop) (l : Nat → Bool) (vals : Nat → Value) (w : World) : Prop :=
  Below R W0 w ∧ w.heap[R]? = some (.cells #[c0, c1, pickB (l 19) (vals 16) vN] 58 (0, 0)) ∧ F w ∧
  (l 15 = true → l 16 = false → ∃ g, vals 15 = .slice (some ⟨g, 0, none⟩) 1 1 ∧ ∀ j u, (lnF x)[j]? = some u → w.cell? ((⟨g, 0, none⟩ : Addr).add j) = some u) ∧
  (l 16 = false → w.ownsRow (R + 1) 64 3 vN nN xs) ∧ (l 16 = true → w.ownsRow (R + 1) 64 3 (vals 16) (nN + 1) (xs ++ lnF x))
def J11 (R : Nat) (W0 : World) (c0 c1 : Value) (s : Nat) (aS : Option Addr) (nS cS : Nat) (vN : Value) (nN : Nat) (xs : List Value) (a4 : Option Addr) (n4 c4 : Nat) (ws : List ByteArray) (F : World → Prop) (l : Nat → Bool) (vals : Nat → Value) (w : World) : Prop := Det (V11 R s aS nS cS vN a4 n4 c4) l vals ∧ M11 R W0 c0 c1 vN nN xs ⟨s, nS, a4, n4, c4, ws⟩ F l vals w
theorem own64_slice {w : World} {base k : Nat} {v : Value} {e : TypeId} {sz : Nat} {xs : List Value} (h : w.ownsRow base e sz v k xs) (hk : 0 < k) : ∃ g cap, v = .slice (some ⟨g, 0, none⟩) k cap := by
  rcases h.2 with ⟨_, e⟩ | ⟨g, cap, cur, e, _⟩
  · omega
  · exact ⟨g, cap, e⟩
set_option maxRecDepth 100000 in
set_option maxHeartbeats 4000000 in
theorem steps11 {R : Nat} {W0 : World} {c0 c1 : Value} {s : Nat} {aS : Option Addr} {nS cS : Nat} {vN : Value} {nN : Nat} {xs : List Value} {a4 : Option Addr} {n4 c4 : Nat} {ws : List ByteArray} {F : World → Prop} {t0 : Array Value} (h0 : t0[0]? = some (.pointer (some ⟨R, 0, none⟩))) (h4 : t0[4]? = some (.int .i64 (s : Int))) (h8 : t0[8]? = some (.slice a4 n4 c4)) (hs2 : s < 2) (hsd : (#[c0, c1] : Array Value)[s]? = some (.slice aS nS cS)) (hR : R < W0.heap.size) (hnN : nN ≤ 1000)
    (F1 : ∀ w o, F w → F (w.alloc o)) (F2 : ∀ w w', F w → w.ownsRow (R + 1) 64 3 vN nN xs → w.grownBy w' vN.ownBlock → F w') (F3 : ∀ w u, F w → TB w 58 R → F (w.setCell ⟨R, 2, none⟩ u))
    {o0 o1 o2 o3 o4 o5 o6 o7 o8 o9 o10 o11 o12 o13 o14 o15 o16 o17 o18 o19 : Oper}
    (e0 : o0.op = .move (.tmp 0)) (e1 : o1.op = .move (.tmp 0)) (e2 : o2.op = .nilCheck (.tmp 71)) (e3 : o3.op = .fieldAddr 58 (.tmp 72) 1) (e4 : o4.op = .load 56 (.tmp 73)) (e5 : o5.op = .move (.tmp 4)) (e6 : o6.op = .move (.tmp 0)) (e7 : o7.op = .move (.tmp 4)) (e8 : o8.op = .nilCheck (.tmp 76)) (e9 : o9.op = .fieldAddr 58 (.tmp 78) 0) (e10 : o10.op = .indexAddr 55 (.tmp 79) (.tmp 77)) (e11 : o11.op = .load 22 (.tmp 80)) (e12 : o12.op = .call { callee := .builtin .len, args := #[.tmp 81], argTypes := #[22] }) (e13 : o13.op = .move (.tmp 8)) (e14 : o14.op = .build 64 #[(0, .tmp 75), (1, .tmp 82), (2, .tmp 83)]) (e15 : o15.op = .buildSlice 56 1 #[(0, .tmp 84)]) (e16 : o16.op = .call { callee := .builtin .append, args := #[.tmp 74, .tmp 85], argTypes := #[56, 56] }) (e17 : o17.op = .nilCheck (.tmp 70)) (e18 : o18.op = .fieldAddr 58 (.tmp 87) 1) (e19 : o19.op = .store 56 (.tmp 88) (.tmp 86)) :
    StepsV Tryd.prog (J11 R W0 c0 c1 s aS nS cS vN nN xs a4 n4 c4 ws F) D11 S11 t0 0 [o0, o1, o2, o3, o4, o5, o6, o7, o8, o9, o10, o11, o12, o13, o14, o15, o16, o17, o18, o19] := by
  refine ⟨?_, ?_, ?_, ?_, ?_, ?_, ?_, ?_, ?_, ?_, ?_, ?_, ?_, ?_, ?_, ?_, ?_, ?_, ?_, ?_, trivial⟩
  · rintro l vals w ⟨hDt, hM⟩ hl hdn hdi
    simp [upV, go_sem, e0, evV, S11, lookV, h0]
    exact ⟨hDt.step (fun v' h => by simpa [V11] using h), hM⟩
  · rintro l vals w ⟨hDt, hM⟩ hl hdn hdi
    simp [upV, go_sem, e1, evV, S11, lookV, h0]
    exact ⟨hDt.step (fun v' h => by simpa [V11] using h), hM⟩
  · rintro l vals w ⟨hDt, hM⟩ hl hdn hdi
    have d1 := hdi 1 (by decide)
    have v1 := hDt 1 _ rfl d1
    simp [upV, go_sem, e2, evV, S11, lookV, d1, v1]
    exact ⟨hDt.step (fun v' h => by simpa [V11] using h), hM⟩
  · rintro l vals w ⟨hDt, hM⟩ hl hdn hdi
    have d2 := hdi 2 (by decide)
    have v2 := hDt 2 _ rfl d2
    simp [upV, go_sem, e3, evV, S11, lookV, d2, v2]
    exact ⟨hDt.step (fun v' h => by simpa [V11] using h), hM⟩
  · rintro l vals w ⟨hDt, hM⟩ hl hdn hdi
    have d3 := hdi 3 (by decide)
    have v3 := hDt 3 _ rfl d3
    have l19 := not_yet hdn hl (k := 19) (by decide)
    have c2 := (cell_in' hM.2.1 2).1
    simp [pickB, l19] at c2
    simp [upV, go_sem, e4, evV, S11, lookV, d3, v3, c2]
    exact ⟨hDt.step (fun v' h => by simpa [V11] using h), hM⟩
  · rintro l vals w ⟨hDt, hM⟩ hl hdn hdi
    simp [upV, go_sem, e5, evV, S11, lookV, h4]
    exact ⟨hDt.step (fun v' h => by simpa [V11] using h), hM⟩
  · rintro l vals w ⟨hDt, hM⟩ hl hdn hdi
    simp [upV, go_sem, e6, evV, S11, lookV, h0]
    exact ⟨hDt.step (fun v' h => by simpa [V11] using h), hM⟩
  · rintro l vals w ⟨hDt, hM⟩ hl hdn hdi
    simp [upV, go_sem, e7, evV, S11, lookV, h4]
    exact ⟨hDt.step (fun v' h => by simpa [V11] using h), hM⟩
  · rintro l vals w ⟨hDt, hM⟩ hl hdn hdi
    have d6 := hdi 6 (by decide)
    have v6 := hDt 6 _ rfl d6
    simp [upV, go_sem, e8, evV, S11, lookV, d6, v6]
    exact ⟨hDt.step (fun v' h => by simpa [V11] using h), hM⟩
  · rintro l vals w ⟨hDt, hM⟩ hl hdn hdi
    have d8 := hdi 8 (by decide)
    have v8 := hDt 8 _ rfl d8
    simp [upV, go_sem, e9, evV, S11, lookV, d8, v8]
    exact ⟨hDt.step (fun v' h => by simpa [V11] using h), hM⟩
  · rintro l vals w ⟨hDt, hM⟩ hl hdn hdi
    have d9 := hdi 9 (by decide)
    have v9 := hDt 9 _ rfl d9
    have d7 := hdi 7 (by decide)
    have v7 := hDt 7 _ rfl d7
    have hi1 : (s : Int) < 2 := by omega
    simp [upV, go_sem, e10, evV, S11, lookV, d9, v9, d7, v7, hi1]
    exact ⟨hDt.step (fun v' h => by simpa [V11] using h), hM⟩
  · rintro l vals w ⟨hDt, hM⟩ hl hdn hdi
    have d10 := hdi 10 (by decide)
    have v10 := hDt 10 _ rfl d10
    have c2 : w.cell? ⟨R, s, none⟩ = some (.slice aS nS cS) := by
      rw [(cell_in' hM.2.1 s).1, ← hsd]
      rcases (show s = 0 ∨ s = 1 by omega) with rfl | rfl <;> rfl
    simp [upV, go_sem, e11, evV, S11, lookV, d10, v10, c2]
    exact ⟨hDt.step (fun v' h => by simpa [V11] using h), hM⟩
  · rintro l vals w ⟨hDt, hM⟩ hl hdn hdi
    have d11 := hdi 11 (by decide)
    have v11 := hDt 11 _ rfl d11
    simp [upV, go_sem, e12, evV, S11, lookV, d11, v11]
    exact ⟨hDt.step (fun v' h => by simpa [V11] using h), hM⟩
  · rintro l vals w ⟨hDt, hM⟩ hl hdn hdi
    simp [upV, go_sem, e13, evV, S11, lookV, h8]
    exact ⟨hDt.step (fun v' h => by simpa [V11] using h), hM⟩
  · rintro l vals w ⟨hDt, hM⟩ hl hdn hdi
    have d5 := hdi 5 (by decide)
    have v5 := hDt 5 _ rfl d5
    have d12 := hdi 12 (by decide)
    have v12 := hDt 12 _ rfl d12
    have d13 := hdi 13 (by decide)
    have v13 := hDt 13 _ rfl d13
    simp [upV, go_sem, e14, evV, S11, lookV, d5, v5, d12, v12, d13, v13]
    exact ⟨hDt.step (fun v' h => by simpa [V11] using h), hM⟩
  · rintro l vals w ⟨hDt, hM⟩ hl hdn hdi
    have d14 := hdi 14 (by decide)
    have v14 := hDt 14 _ rfl d14
    simp [upV, go_sem, e15, evV, S11, lookV, d14, v14]
    obtain ⟨m1, m2, m3, m4, m5, m6⟩ := hM
    have hsz := m1.size
    have hbA := alloc_later w (.cells #[.int .i64 (s : Int), .int .i64 (nS : Int), .slice a4 n4 c4] 64)
    refine ⟨hDt.step (fun v' h => by simp [V11] at h), m1.alloc (by omega) _, (hbA.block R (by omega)).trans m2, F1 _ _ m3, fun _ _ => ⟨w.heap.size, rfl, fun j u hu => ?_⟩, fun a => (m5 a).alloc _, fun a => (m6 a).alloc _⟩
    have hn := heap_alloc_new w (.cells #[.int .i64 (s : Int), .int .i64 (nS : Int), .slice a4 n4 c4] 64)
    have : (⟨w.heap.size, 0, none⟩ : Addr).add j = ⟨w.heap.size, j, none⟩ := by unfold Addr.add; split <;> simp_all
    rw [this, (cell_in' hn j).1]
    simpa [lnF] using hu
  · rintro l vals w ⟨hDt, hM⟩ hl hdn hdi
    have d4 := hdi 4 (by decide)
    have v4 := hDt 4 _ rfl d4
    have d15 := hdi 15 (by decide)
    have l19 := not_yet hdn hl (k := 19) (by decide)
    obtain ⟨m1, m2, m3, m4, m5, m6⟩ := hM
    obtain ⟨g, q1, q2⟩ := m4 d15 hl
    have hsz := m1.size
    have ho := m5 hl
    obtain ⟨i0, hi0, hz0, hz1, hz2⟩ := info_parts info64
    refine upV_append_elt w (.tmp 74) (.tmp 85) 56 64 i0 _ 3 40 e16 Tryd.underlying56 hi0 hz0 hz1 hz2 rfl (by decide) (R + 1) vN nN xs (by simp [evV, S11, lookV, d4, v4]) ho g 1 (lnF ⟨s, nS, a4, n4, c4, ws⟩) (by simp [evV, S11, lookV, d15, q1]) rfl q2 (by simp [lnF, Value.oneCell']) (by omega) (by omega) (by omega) (fun v' w' ho' hg h' => ?_)
    have hb' : Below (R + 1) w w' := (Below.refl (R + 1) w).grown hg (by omega) (fun q hq => (ho.lt q hq).1)
    refine ⟨hDt.step (fun v' h => by simp [V11] at h), m1.trans (hb'.mono (Nat.le_succ R)), ?_, F2 w w' m3 ho hg, fun a b => ?_, fun a => ?_, fun a => ho'⟩
    · rw [hb'.block R (Nat.lt_succ_self R), m2]
      simp [pickB, updB, l19]
    · exact absurd b (by simp [updB])
    · exact absurd a (by simp [updB])
  · rintro l vals w ⟨hDt, hM⟩ hl hdn hdi
    have d0 := hdi 0 (by decide)
    have v0 := hDt 0 _ rfl d0
    simp [upV, go_sem, e17, evV, S11, lookV, d0, v0]
    exact ⟨hDt.step (fun v' h => by simpa [V11] using h), hM⟩
  · rintro l vals w ⟨hDt, hM⟩ hl hdn hdi
    have d17 := hdi 17 (by decide)
    have v17 := hDt 17 _ rfl d17
    simp [upV, go_sem, e18, evV, S11, lookV, d17, v17]
    exact ⟨hDt.step (fun v' h => by simpa [V11] using h), hM⟩
  · rintro l vals w ⟨hDt, hM⟩ hl hdn hdi
    have d18 := hdi 18 (by decide)
    have v18 := hDt 18 _ rfl d18
    have d16 := hdi 16 (by decide)
    obtain ⟨m1, m2, m3, m4, m5, m6⟩ := hM
    have ho := m6 d16
    obtain ⟨gN, cN, hv⟩ := own64_slice ho (Nat.succ_pos nN)
    have c2 := cell_in' m2 2
    simp [pickB, hl] at c2
    obtain ⟨c2, c2f⟩ := c2
    simp [upV, go_sem, e19, evV, S11, lookV, d18, v18, d16, hv, c2, c2f]
    rw [← hv]
    refine ⟨hDt.step (fun v' h => by simp [V11] at h), m1.setCell (p := ⟨R, 2, none⟩) (Nat.le_refl _) _, ?_, F3 w _ m3 ⟨_, _, m2⟩, fun a b => ?_, fun a => ?_, fun a => own_set ho (Nat.lt_succ_self R)⟩
    · rw [heap_setCell_same _ _ _ _ _ _ m2]
      simp [pickB, updB, updV]
    · exact absurd (d16.symm.trans b) (by simp)
    · exact absurd (d16.symm.trans a) (by simp)
end Go.Proofs.YtajdijjecojdhaaDoor
namespace Go.Proofs.YtajdijjecojdhaaDoor
open Go.RowKit
def D12 : List (List Nat) := [[], [], [], [], [2], [4], [5, 3], [6], [], [8], [], [9, 10], [11], [7, 12, 9], [0], [14], [15, 1, 0, 1, 2, 3, 4, 5, 6, 7, 8, 9, 10, 11, 12, 13], [16, 13, 13, 0, 1, 2, 3, 4, 5, 6, 7, 8, 9, 10, 11, 12, 13]]
def S12 : List (Option Tmp) := [some 89, some 90, some 91, some 92, some 93, some 94, some 95, some 96, some 97, some 98, some 99, some 100, some 101, some 102, some 103, some 104, some 105, none]
def V12 (R s : Nat) (vS : Value) (x1 : ByteArray) (r : Int) : List (Option Value) := [some (.pointer (some ⟨R, 0, none⟩)), some (.int .i64 (s : Int)), some (.pointer (some ⟨R, 0, none⟩)), some (.int .i64 (s : Int)), some (.pointer (some ⟨R, 0, none⟩)), some (.pointer (some ⟨R, 0, none⟩)), some (.pointer (some ⟨R, s, none⟩)), some ((vS)), some (.string x1), some (.string x1), some (.int .i64 r), some (.agg #[.string x1, .int .i64 r, .slice none 0 0]), none, none, some (.pointer (some ⟨R, 0, none⟩)), some (.pointer (some ⟨R, 0, none⟩)), some (.pointer (some ⟨R, s, none⟩)), none]
def agC (x1 : ByteArray) (r : Int) : List Value := [.string x1, .int .i64 r, .slice none 0 0]
def M12 (R : Nat) (W0 : World) (cs : Array Value) (s : Nat) (vS vO : Value) (nS : Nat) (ys : List Value) (x1 : ByteArray) (r : Int) (F : World → Prop) (l : Nat → Bool) (vals : Nat → Value) (w : World) : Prop :=
  Below R W0 w ∧ w.heap[R]? = some (.cells (cs.setIfInBounds s (pickB (l 17) (vals 13) vS)) 58 (0, 0)) ∧ F w ∧
  (l 12 = true → l 13 = false → ∃ g, vals 12 = .slice (some ⟨g, 0, none⟩) 1 1 ∧ ∀ j u, (agC x1 r)[j]? = some u → w.cell? ((⟨g, 0, none⟩ : Addr).add j) = some u) ∧
  (l 13 = false → w.ownsRow (R + 1) 27 3 vS nS ys) ∧ (l 13 = true → w.ownsRow (R + 1) 27 3 (vals 13) (nS + 1) (ys ++ agC x1 r) ∧ Ap (vals 13) vO)
def J12 (R : Nat) (W0 : World) (cs : Array Value) (s : Nat) (vS vO : Value) (nS : Nat) (ys : List Value) (x1 : ByteArray) (r : Int) (F : World → Prop) (l : Nat → Bool) (vals : Nat → Value) (w : World) : Prop := Det (V12 R s vS x1 r) l vals ∧ M12 R W0 cs s vS vO nS ys x1 r F l vals w
set_option maxRecDepth 100000 in
set_option maxHeartbeats 4000000 in
theorem steps12 {R : Nat} {W0 : World} {cs : Array Value} {s : Nat} {vS vO : Value} {nS : Nat} {ys : List Value} {x1 : ByteArray} {r : Int} {F : World → Prop} {t0 : Array Value} (h0 : t0[0]? = some (.pointer (some ⟨R, 0, none⟩))) (h4 : t0[4]? = some (.int .i64 (s : Int))) (h5 : t0[5]? = some (.string x1)) (h6 : t0[6]? = some (.int .i64 r)) (hs2 : s < 2) (hcs : cs.size = 3) (hR : R < W0.heap.size) (hnS : nS ≤ 1000) (hx1 : x1.size ≤ 281474976710656)
    (nO : Nat) (zs : List Value) (F0 : ∀ w, F w → w.ownsRow (R + 1) 27 3 vO nO zs) (hap : Ap vS vO) (F1 : ∀ w w', F w → Below w.heap.size w w' → F w') (F2 : ∀ w w', F w → w.ownsRow (R + 1) 27 3 vS nS ys → w.grownBy w' vS.ownBlock → F w') (F3 : ∀ w u, F w → TB w 58 R → F (w.setCell ⟨R, s, none⟩ u))
    {o0 o1 o2 o3 o4 o5 o6 o7 o8 o9 o10 o11 o12 o13 o14 o15 o16 o17 : Oper}
    (e0 : o0.op = .move (.tmp 0)) (e1 : o1.op = .move (.tmp 4)) (e2 : o2.op = .move (.tmp 0)) (e3 : o3.op = .move (.tmp 4)) (e4 : o4.op = .nilCheck (.tmp 91)) (e5 : o5.op = .fieldAddr 58 (.tmp 93) 0) (e6 : o6.op = .indexAddr 55 (.tmp 94) (.tmp 92)) (e7 : o7.op = .load 22 (.tmp 95)) (e8 : o8.op = .move (.tmp 5)) (e9 : o9.op = .call { callee := .value (.func 52), args := #[.tmp 97], argTypes := #[9] }) (e10 : o10.op = .move (.tmp 6)) (e11 : o11.op = .build 27 #[(0, .tmp 98), (1, .tmp 99)]) (e12 : o12.op = .buildSlice 22 1 #[(0, .tmp 100)]) (e13 : o13.op = .call { callee := .builtin .append, args := #[.tmp 96, .tmp 101], argTypes := #[22, 22] }) (e14 : o14.op = .nilCheck (.tmp 89)) (e15 : o15.op = .fieldAddr 58 (.tmp 103) 0) (e16 : o16.op = .indexAddr 55 (.tmp 104) (.tmp 90)) (e17 : o17.op = .store 22 (.tmp 105) (.tmp 102)) :
    StepsV Tryd.prog (J12 R W0 cs s vS vO nS ys x1 r F) D12 S12 t0 0 [o0, o1, o2, o3, o4, o5, o6, o7, o8, o9, o10, o11, o12, o13, o14, o15, o16, o17] := by
  refine ⟨?_, ?_, ?_, ?_, ?_, ?_, ?_, ?_, ?_, ?_, ?_, ?_, ?_, ?_, ?_, ?_, ?_, ?_, trivial⟩
  · rintro l vals w ⟨hDt, hM⟩ hl hdn hdi
    simp [upV, go_sem, e0, evV, S12, lookV, h0]
    exact ⟨hDt.step (fun v' h => by simpa [V12] using h), hM⟩
  · rintro l vals w ⟨hDt, hM⟩ hl hdn hdi
    simp [upV, go_sem, e1, evV, S12, lookV, h4]
    exact ⟨hDt.step (fun v' h => by simpa [V12] using h), hM⟩
  · rintro l vals w ⟨hDt, hM⟩ hl hdn hdi
    simp [upV, go_sem, e2, evV, S12, lookV, h0]
    exact ⟨hDt.step (fun v' h => by simpa [V12] using h), hM⟩
  · rintro l vals w ⟨hDt, hM⟩ hl hdn hdi
    simp [upV, go_sem, e3, evV, S12, lookV, h4]
    exact ⟨hDt.step (fun v' h => by simpa [V12] using h), hM⟩
  · rintro l vals w ⟨hDt, hM⟩ hl hdn hdi
    have d2 := hdi 2 (by decide)
    have v2 := hDt 2 _ rfl d2
    simp [upV, go_sem, e4, evV, S12, lookV, d2, v2]
    exact ⟨hDt.step (fun v' h => by simpa [V12] using h), hM⟩
  · rintro l vals w ⟨hDt, hM⟩ hl hdn hdi
    have d4 := hdi 4 (by decide)
    have v4 := hDt 4 _ rfl d4
    simp [upV, go_sem, e5, evV, S12, lookV, d4, v4]
    exact ⟨hDt.step (fun v' h => by simpa [V12] using h), hM⟩
  · rintro l vals w ⟨hDt, hM⟩ hl hdn hdi
    have d5 := hdi 5 (by decide)
    have v5 := hDt 5 _ rfl d5
    have d3 := hdi 3 (by decide)
    have v3 := hDt 3 _ rfl d3
    have hi1 : (s : Int) < 2 := by omega
    simp [upV, go_sem, e6, evV, S12, lookV, d5, v5, d3, v3, hi1]
    exact ⟨hDt.step (fun v' h => by simpa [V12] using h), hM⟩
  · rintro l vals w ⟨hDt, hM⟩ hl hdn hdi
    have d6 := hdi 6 (by decide)
    have v6 := hDt 6 _ rfl d6
    have l17 := not_yet hdn hl (k := 17) (by decide)
    have c2 := (cell_in' hM.2.1 s).1
    rw [Array.getElem?_setIfInBounds_self_of_lt (by omega)] at c2
    simp [pickB, l17] at c2
    simp [upV, go_sem, e7, evV, S12, lookV, d6, v6, c2]
    exact ⟨hDt.step (fun v' h => by simpa [V12] using h), hM⟩
  · rintro l vals w ⟨hDt, hM⟩ hl hdn hdi
    simp [upV, go_sem, e8, evV, S12, lookV, h5]
    exact ⟨hDt.step (fun v' h => by simpa [V12] using h), hM⟩
  · rintro l vals w ⟨hDt, hM⟩ hl hdn hdi
    have d8 := hdi 8 (by decide)
    have v8 := hDt 8 _ rfl d8
    have l12 := not_yet hdn (not_yet hdn hl (k := 11) (by decide)) (k := 12) (by decide)
    have l13 := not_yet hdn hl (k := 13) (by decide)
    simp [upV, go_sem, e9, evV, S12, lookV, d8, v8]
    refine (clone_any x1 w hx1).mono ?_
    rintro e w' ⟨rfl, hb⟩
    obtain ⟨m1, m2, m3, m4, m5, m6⟩ := hM
    have hsz := m1.size
    refine ⟨_, rfl, hDt.step (fun v' h => by simpa [V12] using h), m1.trans (hb.mono (by omega)), (hb.block R (by omega)).trans m2, F1 _ _ m3 hb, fun a b => ?_, fun a => owns_later (m5 a) hb, fun a => ⟨owns_later (m6 a).1 hb, (m6 a).2⟩⟩
    exact absurd (l12.symm.trans a) (by simp)
  · rintro l vals w ⟨hDt, hM⟩ hl hdn hdi
    simp [upV, go_sem, e10, evV, S12, lookV, h6]
    exact ⟨hDt.step (fun v' h => by simpa [V12] using h), hM⟩
  · rintro l vals w ⟨hDt, hM⟩ hl hdn hdi
    have d9 := hdi 9 (by decide)
    have v9 := hDt 9 _ rfl d9
    have d10 := hdi 10 (by decide)
    have v10 := hDt 10 _ rfl d10
    simp [upV, go_sem, e11, evV, S12, lookV, d9, v9, d10, v10]
    exact ⟨hDt.step (fun v' h => by simpa [V12] using h), hM⟩
  · rintro l vals w ⟨hDt, hM⟩ hl hdn hdi
    have d14 := hdi 11 (by decide)
    have v14 := hDt 11 _ rfl d14
    simp [upV, go_sem, e12, evV, S12, lookV, d14, v14]
    obtain ⟨m1, m2, m3, m4, m5, m6⟩ := hM
    have hsz := m1.size
    have hbA := alloc_later w (.cells #[.string x1, .int .i64 r, .slice none 0 0] 27)
    refine ⟨hDt.step (fun v' h => by simp [V12] at h), m1.alloc (by omega) _, (hbA.block R (by omega)).trans m2, F1 _ _ m3 hbA, fun _ _ => ⟨w.heap.size, rfl, fun j u hu => ?_⟩, fun a => (m5 a).alloc _, fun a => ⟨(m6 a).1.alloc _, (m6 a).2⟩⟩
    have hn := heap_alloc_new w (.cells #[.string x1, .int .i64 r, .slice none 0 0] 27)
    have : (⟨w.heap.size, 0, none⟩ : Addr).add j = ⟨w.heap.size, j, none⟩ := by unfold Addr.add; split <;> simp_all
    rw [this, (cell_in' hn j).1]
    simpa [agC] using hu
  · rintro l vals w ⟨hDt, hM⟩ hl hdn hdi
    have d7 := hdi 7 (by decide)
    have v7 := hDt 7 _ rfl d7
    have d12 := hdi 12 (by decide)
    have l17 := not_yet hdn hl (k := 17) (by decide)
    obtain ⟨m1, m2, m3, m4, m5, m6⟩ := hM
    obtain ⟨g, q1, q2⟩ := m4 d12 hl
    have hsz := m1.size
    have ho := m5 hl
    obtain ⟨i0, hi0, hz0, hz1, hz2⟩ := info_parts info27
    refine upV_append_elt w (.tmp 96) (.tmp 101) 22 27 i0 _ 3 48 e13 Tryd.underlying22 hi0 hz0 hz1 hz2 rfl (by decide) (R + 1) vS nS ys (by simp [evV, S12, lookV, d7, v7]) ho g 1 (agC x1 r) (by simp [evV, S12, lookV, d12, q1]) rfl q2 (by simp [agC, Value.oneCell']) (by omega) (by omega) (by omega) (fun v' w' ho' hg h' => ?_)
    have hb' : Below (R + 1) w w' := (Below.refl (R + 1) w).grown hg (by omega) (fun q hq => (ho.lt q hq).1)
    refine ⟨hDt.step (fun v' h => by simp [V12] at h), m1.trans (hb'.mono (Nat.le_succ R)), ?_, F2 w w' m3 ho hg, fun a b => ?_, fun a => ?_, fun a => ⟨ho', hap.next (F0 w m3) h'⟩⟩
    · rw [hb'.block R (Nat.lt_succ_self R), m2]
      simp [pickB, updB, l17]
    · exact absurd b (by simp [updB])
    · exact absurd a (by simp [updB])
  · rintro l vals w ⟨hDt, hM⟩ hl hdn hdi
    have d0 := hdi 0 (by decide)
    have v0 := hDt 0 _ rfl d0
    simp [upV, go_sem, e14, evV, S12, lookV, d0, v0]
    exact ⟨hDt.step (fun v' h => by simpa [V12] using h), hM⟩
  · rintro l vals w ⟨hDt, hM⟩ hl hdn hdi
    have d14 := hdi 14 (by decide)
    have v14 := hDt 14 _ rfl d14
    simp [upV, go_sem, e15, evV, S12, lookV, d14, v14]
    exact ⟨hDt.step (fun v' h => by simpa [V12] using h), hM⟩
  · rintro l vals w ⟨hDt, hM⟩ hl hdn hdi
    have d15 := hdi 15 (by decide)
    have v15 := hDt 15 _ rfl d15
    have d1 := hdi 1 (by decide)
    have v1 := hDt 1 _ rfl d1
    have hi1 : (s : Int) < 2 := by omega
    simp [upV, go_sem, e16, evV, S12, lookV, d15, v15, d1, v1, hi1]
    exact ⟨hDt.step (fun v' h => by simpa [V12] using h), hM⟩
  · rintro l vals w ⟨hDt, hM⟩ hl hdn hdi
    have d16 := hdi 16 (by decide)
    have v16 := hDt 16 _ rfl d16
    have d13 := hdi 13 (by decide)
    obtain ⟨m1, m2, m3, m4, m5, m6⟩ := hM
    have ho := (m6 d13).1
    obtain ⟨gN, cN, hv⟩ := own64_slice ho (Nat.succ_pos nS)
    have c2 := cell_in' m2 s
    rw [Array.getElem?_setIfInBounds_self_of_lt (by omega)] at c2
    obtain ⟨c2, c2f⟩ := c2
    simp [upV, go_sem, e17, evV, S12, lookV, d16, v16, d13, hv, c2, c2f]
    rw [← hv]
    refine ⟨hDt.step (fun v' h => by simp [V12] at h), m1.setCell (p := ⟨R, s, none⟩) (Nat.le_refl _) _, ?_, F3 w _ m3 ⟨_, _, m2⟩, fun a b => ?_, fun a => ?_, fun a => ⟨own_set ho (Nat.lt_succ_self R), (m6 d13).2⟩⟩
    · rw [heap_setCell_same _ _ _ _ _ _ m2]
      simp [pickB, updB, updV]
    · exact absurd (d13.symm.trans b) (by simp)
    · exact absurd (d13.symm.trans a) (by simp)
end Go.Proofs.YtajdijjecojdhaaDoor
