import Derived.Test.YtajdijjecojdhaaDoorWNF
import Derived.BigQuiet
namespace Go.Proofs.YtajdijjecojdhaaDoor
open Go.RowKit
def intVals (l : List Int) : List Value := l.map (fun x => .int .i64 x)
theorem intVals_snoc (l : List Int) (x : Int) : intVals (l ++ [x]) = intVals l ++ [.int .i64 x] := by simp [intVals]
theorem info3' : (Tryd.prog.info? 3).map (fun i => (i.zero, i.size, i.bytes)) = some (some (.int .i64 0), 1, 8) := by kernel_rfl
theorem ints_of_owns {w : World} {B : Nat} {v : Value} {n : Nat} {l : List Int} (h : w.ownsRow B 3 1 v n (intVals l)) : ∃ a c, v = .slice a n c ∧ Ints w a n c l ∧ (n = 0 ∨ ∃ b o, a = some ⟨b, o, none⟩ ∧ TB w 3 b) := by
  have hl : l.length = n := by have := h.1; simp [intVals] at this; omega
  have h0 := h
  rcases h.2 with ⟨rfl, rfl⟩ | ⟨g, cap, cur, rfl, hbg, hgg, hnc, hcm, hcs, htake⟩
  · exact ⟨none, 0, rfl, ⟨hl.symm, Nat.le_refl _, by unfold maxLen; omega, .inl rfl⟩, .inl rfl⟩
  · by_cases hz : n = 0
    · exact ⟨_, cap, rfl, ⟨hl.symm, hnc, hcm, .inl hz⟩, .inl hz⟩
    · have hc0 : ∀ j, j < n → w.cell? ⟨g, 0 + j, none⟩ = some (.int .i64 (l[j]?.getD 0)) := fun j hj => by
        rw [Nat.zero_add, h0.cellAt j (by omega), intVals, List.getElem?_map, List.getElem?_eq_getElem (show j < l.length by omega)]
        simp
      have hlt : g < w.heap.size := World.block_lt_of_cell? w _ (hc0 0 (by omega))
      exact ⟨_, cap, rfl, ⟨hl.symm, hnc, hcm, .inr ⟨g, 0, rfl, hlt, hc0⟩⟩, .inr ⟨g, 0, rfl, _, _, hgg⟩⟩
/-- A slice of ints, in a block of ints. -/
def In3 (w : World) (a : Option Addr) (n c : Nat) (l : List Int) : Prop := Ints w a n c l ∧ (n = 0 ∨ ∃ b o, a = some ⟨b, o, none⟩ ∧ TB w 3 b)
theorem In3.block {w w' : World} {a : Option Addr} {n c : Nat} {l : List Int} (h : In3 w a n c l) (hs : w.heap.size ≤ w'.heap.size) (hb : ∀ b, TB w 3 b → w'.heap[b]? = w.heap[b]?) : In3 w' a n c l := by
  obtain ⟨⟨h1, h2, h3, h4⟩, h5⟩ := h
  rcases h5 with h5 | ⟨b, o, e, ht⟩
  · exact ⟨⟨h1, h2, h3, .inl h5⟩, .inl h5⟩
  · have q := hb b ht
    refine ⟨⟨h1, h2, h3, ?_⟩, .inr ⟨b, o, e, ?_⟩⟩
    · rcases h4 with h4 | ⟨b', o', e', hlt, hc⟩
      · exact .inl h4
      · rw [e] at e'
        cases e'
        refine .inr ⟨b, o, e, Nat.lt_of_lt_of_le hlt hs, fun j hj => ?_⟩
        rw [World.cell?_of_block (a := ⟨b, o + j, none⟩) q]
        exact hc j hj
    · obtain ⟨arr, fz, q'⟩ := ht
      exact ⟨arr, fz, q.trans q'⟩
theorem own_frame {w w' : World} {base : Nat} {e : TypeId} {sz : Nat} {v : Value} {n : Nat} {xs : List Value} (h : w.ownsRow base e sz v n xs) (hf : ∀ b, v.ownBlock = some b → w'.heap[b]? = w.heap[b]?) : w'.ownsRow base e sz v n xs := by
  refine ⟨h.1, ?_⟩
  rcases h.2 with q | ⟨g, cap, cur, rfl, hb, hh, h1, h2, h3, h4⟩
  · exact .inl q
  · exact .inr ⟨g, cap, cur, rfl, hb, (hf g rfl).trans hh, h1, h2, h3, h4⟩
theorem wpList_append_elt (w : World) {ops : Array Oper} {rest : List Oper} {o : Oper} {a : Act} {Q : Exit → Act → World → Prop} (hgd : o.guard = none) (s x : Operand) (t e : TypeId) (i0 : TypeInfo) (z : Value) (sz bytes : Nat)
    (ho : o.op = .call { callee := .builtin .append, args := #[s, x], argTypes := #[t, t] }) (ht : Tryd.prog.underlying t = some (.slice e)) (hi : Tryd.prog.info? e = some i0) (hz0 : i0.zero = some z) (hz1 : i0.size = sz) (hz2 : i0.bytes = bytes) (hzs : z.cells.size = sz) (hsz : 0 < sz)
    (base : Nat) (v : Value) (n : Nat) (xs : List Value) (hs : a.eval s = v) (hown : w.ownsRow base e sz v n xs) (g c : Nat) (news : List Value) (hx : a.eval x = .slice (some ⟨g, 0, none⟩) 1 c) (hl : news.length = sz) (hnews : ∀ j u, news[j]? = some u → w.cell? ((⟨g, 0, none⟩ : Addr).add j) = some u) (hone : ∀ u ∈ news, u.oneCell' = true)
    (hsm : n ≤ 10000) (hby : bytes ≤ 1000) (hbase : base ≤ w.heap.size)
    (hK : ∀ v' w', w'.ownsRow base e sz v' (n + 1) (xs ++ news) → w.grownBy w' v.ownBlock → (v'.ownBlock = v.ownBlock ∨ v'.ownBlock = some w.heap.size) → wpList Tryd.prog ops Q rest (a.put o.dst v') w') : wpList Tryd.prog ops Q (o :: rest) a w :=
  wpList_plain hgd fun _ hk => by
    obtain ⟨v', w', hr, h2, h3, h4⟩ := run_append_elt w t o.type e i0 z sz bytes ht hi hz0 hz1 hz2 hzs hsz base v n xs hown g c news hl hnews hone hsm hby hbase
    unfold Oper.wp execOp
    simp only [ho, resolve, invoke, builtin, Sem.run_bind, Sem.run_pure, Result.andThen_ok, List.map_toArray, List.map_cons, List.map_nil, hs, hx, hr]
    exact hk _ _ (hK v' w' h2 h3 h4)
/-- Whom names mean, one after another, or why not. -/
def likeF (lO : List Ag) : List Int → List ByteArray → Except Int (List Int)
  | acc, [] => .ok acc
  | acc, x :: t => if aidxFrom lO x 0 < 0 then .error 5 else if 0 ≤ idxFrom acc (aidxFrom lO x 0) 0 then .error 6 else likeF lO (acc ++ [aidxFrom lO x 0]) t
def putL (g : Ag) (la : Option Addr) (ln lc : Nat) (L : List Int) : Ag := ⟨g.name, g.room, la, ln, lc, L⟩
theorem flat_put {l : List Ag} {la : Option Addr} {ln lc : Nat} {L : List Int} : ∀ {j : Nat}, j < l.length → flat (l.set j (putL (agAt l j) la ln lc L)) = (flat l).set (j * 3 + 2) (.slice la ln lc) := by
  induction l with
  | nil => intro j h; simp at h
  | cons g l ih =>
    intro j h
    cases j with
    | zero => simp [flat, putL, agAt]
    | succ j =>
      have := ih (j := j) (by simpa using h)
      rw [agAt_succ, List.set_cons_succ, flat_cons, flat_cons, this]
      rw [show (j + 1) * 3 + 2 = j * 3 + 2 + 1 + 1 + 1 by omega]
      simp
theorem own_upd {w w' : World} {base : Nat} {v : Value} {n g : Nat} {l : List Ag} {j : Nat} {cur : Array Value} {la : Option Addr} {ln lc : Nat} {L : List Int} (h : w.ownsRow base 27 3 v n (flat l)) (hv : v.ownBlock = some g) (hc : w.heap[g]? = some (.cells cur 27 (0, 0))) (hj : j < l.length) (h' : w'.heap[g]? = some (.cells (cur.setIfInBounds (j * 3 + 2) (.slice la ln lc)) 27 (0, 0))) : w'.ownsRow base 27 3 v n (flat (l.set j (putL (agAt l j) la ln lc L))) := by
  have hl := h.1
  rw [flat_length] at hl
  refine ⟨by rw [flat_length, List.length_set]; omega, ?_⟩
  rcases h.2 with ⟨rfl, _⟩ | ⟨g', cap, cur', rfl, hb, hh, h1, h2, h3, h4⟩
  · cases hv
  · obtain rfl : g' = g := by simpa [Value.ownBlock] using hv
    rw [hc] at hh
    cases hh
    refine .inr ⟨g', cap, _, rfl, hb, h', h1, h2, by simpa using h3, ?_⟩
    rw [flat_put hj, ← h4]
    simp [List.take_set]
end Go.Proofs.YtajdijjecojdhaaDoor
