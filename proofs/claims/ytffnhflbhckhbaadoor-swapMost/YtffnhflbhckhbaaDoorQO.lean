import Derived.Test.YtffnhflbhckhbaaDoorQN
import Derived.Maps.OwnSet
namespace Go.Proofs.YtffnhflbhckhbaaDoor
open Go.RowKit Go.Shelf
theorem law3 : Maps.Keyed Tryd.prog 3 := Maps.int_keyed Tryd.underlying3
/-- The step that says nothing. -/
def zst : Value := .agg #[.slice none 0 0, .int .i64 0, .int .i64 0]
theorem zero40 (w : World) : (zeroValue 40).run Tryd.prog w = .ok zst w := by kernel_rfl
/-- A step is read as itself. -/
def stR (v : Value) : Option (DataW Value × List MemPlace) := some (.held v, [])
theorem wf_key {u : Nat} (h : u < 256) : (Lit.int .i64 (u : Int)).wf = true := WalkArith.wf_i64 ⟨by omega, by omega⟩
/-- The map of steps, as it lies: m says what is known of each set. -/
def Fm (w : World) (b n : Nat) (m : Nat → Option Value) : Prop := ∃ D : DataW Value, w.ownsMap Tryd.prog 3 stR b n D ∧ ∀ u : Nat, u < 256 → Maps.has D (.int .i64 (u : Int)) = (m u).isSome ∧ D.atKey (.int .i64 (u : Int)) (.held zst) = .held ((m u).getD zst)
theorem Fm.look {w : World} {b n : Nat} {m : Nat → Option Value} (h : Fm w b n m) {u : Nat} (hu : u < 256) : (Instr.lookup 37 (.map (some b)) (.int .i64 (u : Int)) true).run Tryd.prog w = .ok (.tuple #[(m u).getD zst, .bool (m u).isSome]) w := by
  obtain ⟨D, hD, hm⟩ := h
  obtain ⟨v, ps, hrun, hv⟩ := hD.look_ok law3 Tryd.underlying37 (zero40 w) (zd := .held zst) (zp := []) rfl (Maps.keyOf_int_mk Tryd.underlying3 (wf_key hu))
  obtain ⟨m1, m2⟩ := hm u hu
  rw [hrun, m1]
  rw [m2] at hv
  unfold stR at hv
  simp only [Option.some.injEq, Prod.mk.injEq, DataW.held.injEq] at hv
  rw [hv.1]
theorem Fm.put {w : World} {b n : Nat} {m : Nat → Option Value} (h : Fm w b n m) {u : Nat} (hu : u < 256) (hn : n < 1000) (st : Value) : ∃ w', (Instr.mapUpdate 37 (.map (some b)) (.int .i64 (u : Int)) st).run Tryd.prog w = .ok () w' ∧ Fm w' b (n + 1) (fun z => if z = u then some st else m z) ∧ w.grownBy w' (some b) := by
  obtain ⟨D, hD, hm⟩ := h
  obtain ⟨w', h1, h2, h3⟩ := hD.update law3 Tryd.underlying37 (by unfold maxLen; omega) (Maps.keyOf_int_mk Tryd.underlying3 (wf_key hu)) (val := st) (d := .held st) (ps := []) rfl
  refine ⟨w', h1, ⟨_, h2, fun z hz => ?_⟩, h3⟩
  by_cases e : z = u
  · subst e
    dsimp only
    rw [if_pos rfl]
    exact ⟨Maps.has_put_same hD.isMap (by trivial) _, Maps.atKey_put_same hD.isMap (by trivial) _ _⟩
  · dsimp only
    rw [if_neg e]
    have hne : (Lit.int .i64 (z : Int)) ≠ (Lit.int .i64 (u : Int)) := fun q => e (by injection q with _ q; omega)
    rw [Maps.has_put_other hne, Maps.atKey_put_other hne]
    exact hm z hz
theorem fm_made (w : World) : Fm (w.alloc (.map #[] 0)) w.heap.size 0 (fun _ => none) :=
  ⟨_, World.ownsMap_made w _ _ _, fun _ _ => ⟨rfl, rfl⟩⟩
theorem Fm.keep {w w' : World} {b n : Nat} {m : Nat → Option Value} {S : Nat → Prop} (h : Fm w b n m) (k : Keep S w w') (hb : S b) : Fm w' b n m := by
  obtain ⟨D, ⟨es, clock, hh, r⟩, hm⟩ := h
  exact ⟨D, ⟨es, clock, (k.block b hb).trans hh, r⟩, hm⟩
theorem Fm.isMap {w : World} {b n : Nat} {m : Nat → Option Value} (h : Fm w b n m) : ∃ es clock, w.heap[b]? = some (.map es clock) := by
  obtain ⟨D, ⟨es, clock, hh, r⟩, hm⟩ := h
  exact ⟨es, clock, hh⟩
/-- Ints whose block is among those of S. -/
def Ins (S : Nat → Prop) (W : World) (a : Option Addr) (n c : Nat) (l : List Int) : Prop := Ints W a n c l ∧ (n = 0 ∨ ∃ b off, a = some ⟨b, off, none⟩ ∧ S b)
theorem Ins.keep {S T : Nat → Prop} {W W' : World} {a : Option Addr} {n c : Nat} {l : List Int} (h : Ins S W a n c l) (k : Keep T W W') (hs : ∀ b, S b → (∃ cs t fz, W.heap[b]? = some (.cells cs t fz)) → T b) : Ins S W' a n c l := by
  obtain ⟨⟨h1, h2, h3, h4⟩, h5⟩ := h
  rcases h5 with h5 | ⟨b, off, e, hb⟩
  · exact ⟨⟨h1, h2, h3, .inl h5⟩, .inl h5⟩
  · refine ⟨⟨h1, h2, h3, ?_⟩, .inr ⟨b, off, e, hb⟩⟩
    rcases h4 with h4 | ⟨b', off', e', hlt, hc⟩
    · exact .inl h4
    · rw [e] at e'
      cases e'
      by_cases hn : n = 0
      · exact .inl hn
      · have hT : T b := hs b hb (by
          have := hc 0 (by omega)
          unfold World.cell? at this
          split at this
          · rename_i cs t fz hh; exact ⟨cs, t, fz, hh⟩
          · cases this)
        exact .inr ⟨b, off, e, Nat.lt_of_lt_of_le hlt k.size, fun j hj => (k.cell (p := ⟨b, off + j, none⟩) hT).trans (hc j hj)⟩
theorem Ins.mono {S T : Nat → Prop} {W : World} {a : Option Addr} {n c : Nat} {l : List Int} (h : Ins S W a n c l) (hs : ∀ b, S b → T b) : Ins T W a n c l :=
  ⟨h.1, h.2.imp id (fun ⟨b, off, e, hb⟩ => ⟨b, off, e, hs b hb⟩)⟩
end Go.Proofs.YtffnhflbhckhbaaDoor
