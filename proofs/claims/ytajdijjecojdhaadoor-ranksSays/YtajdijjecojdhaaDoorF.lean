import Derived.Test.YtajdijjecojdhaaDoorE
import Derived.Deep.CutRange
namespace Go.Proofs.YtajdijjecojdhaaDoor
open Go.RowKit
theorem owns_drew {w : World} {B : Nat} {e : TypeId} {size : Nat} {v : Value} {n : Nat} {xs : List Value} (h : w.ownsRow B e size v n xs) : w.drew.ownsRow B e size v n xs := h
theorem owns_later {w w' : World} {B : Nat} {e : TypeId} {size : Nat} {v : Value} {n : Nat} {xs : List Value} (h : w.ownsRow B e size v n xs) (hb : Below w.heap.size w w') : w'.ownsRow B e size v n xs :=
  h.kept (row := none) ⟨hb.os, hb.tape, hb.output, hb.size, fun k hk _ => hb.block k hk⟩ (by cases hv : v.ownBlock <;> simp)
theorem idxFrom_spec (l : List Int) (x : Int) : ∀ d k, l.length - k = d → (idxFrom l x k = -1 ∧ ∀ i, k ≤ i → i < l.length → ¬ l[i]?.getD 0 = x) ∨ (∃ m : Nat, k ≤ m ∧ m < l.length ∧ l[m]?.getD 0 = x ∧ idxFrom l x k = m ∧ ∀ i, k ≤ i → i < m → ¬ l[i]?.getD 0 = x) := by
  intro d
  induction d with
  | zero =>
    intro k hk
    exact Or.inl ⟨idxFrom_end (by omega), fun i h1 h2 => by omega⟩
  | succ d ih =>
    intro k hk
    by_cases he : l[k]?.getD 0 = x
    · exact Or.inr ⟨k, Nat.le_refl _, by omega, he, idxFrom_yes (by omega) he, fun i h1 h2 => by omega⟩
    · rw [idxFrom_no (by omega) he]
      rcases ih (k+1) (by omega) with ⟨h1, h2⟩ | ⟨m, h1, h2, h3, h4, h5⟩
      · refine Or.inl ⟨h1, fun i hi hl => ?_⟩
        by_cases e : i = k
        · rw [e]; exact he
        · exact h2 i (by omega) hl
      · refine Or.inr ⟨m, by omega, h2, h3, h4, fun i hi hl => ?_⟩
        by_cases e : i = k
        · rw [e]; exact he
        · exact h5 i (by omega) hl
theorem take_at (l : List Int) {k i : Nat} (h : i < k) : (l.take k)[i]?.getD 0 = l[i]?.getD 0 := by rw [List.getElem?_take, if_pos h]
/-- Named already: among the earlier ones, or its first place is ahead. -/
theorem idx_take (l : List Int) (k : Nat) (h : k < l.length) : 0 ≤ idxFrom (l.take k) (l[k]?.getD 0) 0 ↔ idxFrom l (l[k]?.getD 0) 0 < k := by
  have hl : (l.take k).length = k := by simp; omega
  rcases idxFrom_spec l (l[k]?.getD 0) _ 0 rfl with ⟨h1, h2⟩ | ⟨m, _, h2, h3, h4, h5⟩
  · exact absurd rfl (h2 k (Nat.zero_le _) h)
  · rw [h4]
    rcases idxFrom_spec (l.take k) (l[k]?.getD 0) _ 0 rfl with ⟨g1, g2⟩ | ⟨q, _, g2, g3, g4, g5⟩
    · rw [g1]
      refine ⟨fun h => by omega, fun hm => ?_⟩
      have hm' : m < k := by omega
      exact absurd (by rw [take_at l hm']; exact h3) (g2 m (Nat.zero_le _) (by omega))
    · rw [g4]
      refine ⟨fun _ => ?_, fun _ => by omega⟩
      rw [hl] at g2
      rw [take_at l g2] at g3
      rcases Nat.lt_or_ge q m with h' | h'
      · exact absurd g3 (h5 q (Nat.zero_le _) h')
      · omega
def names (l : List Ag) : List ByteArray := l.map (·.name)
theorem names_at (l : List Ag) (k : Nat) : (names l)[k]?.getD ByteArray.empty = (agAt l k).name := by
  unfold names agAt
  rw [List.getElem?_map]
  cases l[k]? <;> rfl
theorem sidx_names (l : List Ag) (x : ByteArray) : ∀ f k, sidxFuel (names l) x f k = aidxFuel l x f k := by
  intro f
  induction f with
  | zero => intro k; rfl
  | succ f ih => intro k; rw [sidxFuel, aidxFuel, names_at, ih]
theorem sidxFrom_names (l : List Ag) (x : ByteArray) (k : Nat) : sidxFrom (names l) x k = aidxFrom l x k := by
  unfold sidxFrom aidxFrom
  rw [sidx_names]
  simp [names]
theorem Strs.of_owns {w : World} {B : Nat} {v : Value} {n : Nat} {l : List ByteArray} (h : w.ownsRow B 9 1 v n (l.map Value.string)) (hn : n ≤ 1000) : ∃ a c, v = .slice a n c ∧ Strs w a n l := by
  have hl : l.length = n := by have := h.1; simp at this; omega
  have h0 := h
  rcases h.2 with ⟨rfl, rfl⟩ | ⟨g, cap, cur, rfl, hbg, hgg, hnc, hcm, hcs, htake⟩
  · exact ⟨none, 0, rfl, hl.symm, by omega, .inl rfl⟩
  · refine ⟨_, cap, rfl, hl.symm, by omega, .inr ⟨g, 0, rfl, fun j hj => ?_⟩⟩
    rw [Nat.zero_add, h0.cellAt j (by omega), List.getElem?_map, List.getElem?_eq_getElem (show j < l.length by omega)]
    simp
theorem Strs.later {w w' : World} {a : Option Addr} {n : Nat} {l : List ByteArray} (h : Strs w a n l) (hb : Below w.heap.size w w') : Strs w' a n l := by
  obtain ⟨hn, hm, h⟩ := h
  refine ⟨hn, hm, ?_⟩
  rcases h with h0 | ⟨b, off, rfl, hcell⟩
  · exact Or.inl h0
  · exact Or.inr ⟨b, off, rfl, fun j hj => (hb.cell (p := ⟨b, off + j, none⟩) (World.block_lt_of_cell? w _ (hcell j hj))).trans (hcell j hj)⟩
theorem names_take (l : List Ag) (k : Nat) (h : k < l.length) : (names (l.take k)).map Value.string ++ [.string (agAt l k).name] = (names (l.take (k+1))).map Value.string := by
  have e : agAt l k = l[k] := by unfold agAt; rw [List.getElem?_eq_getElem h]; rfl
  rw [List.take_succ_eq_append_getElem h, e]
  unfold names
  rw [List.map_append, List.map_append]
  rfl
theorem info9 : (Tryd.prog.info? 9).map (fun i => (i.zero, i.size, i.bytes)) = some (some (.string ByteArray.empty), 1, 16) := by kernel_rfl
theorem wpList_append_str (w : World) {ops : Array Oper} {rest : List Oper} {o : Oper} {a : Act} {Q : Exit → Act → World → Prop} (hgd : o.guard = none) (s x : Operand)
    (ho : o.op = .call { callee := .builtin .append, args := #[s, x], argTypes := #[49, 49] })
    (base : Nat) (v : Value) (n : Nat) (xs : List Value) (hs : a.eval s = v) (hown : w.ownsRow base 9 1 v n xs)
    (g : Nat) (nm : ByteArray) (hx : a.eval x = .slice (some ⟨g, 0, none⟩) 1 1) (hc : w.cell? ⟨g, 0, none⟩ = some (.string nm))
    (hsm : n ≤ 1000) (hbase : base ≤ w.heap.size)
    (hK : ∀ v' w', w'.ownsRow base 9 1 v' (n + 1) (xs ++ [.string nm]) → w.grownBy w' v.ownBlock → wpList Tryd.prog ops Q rest (a.put o.dst v') w') : wpList Tryd.prog ops Q (o :: rest) a w := by
  obtain ⟨i9, hi9, hz90, hz91, hz92⟩ := info_parts info9
  exact wpList_append_own w hgd s x 49 ho base 9 i9 _ 1 16 Tryd.underlying49 hi9 hz90 hz91 hz92 rfl (by decide) v n xs hs hown ⟨g, 0, none⟩ 1 1 [.string nm] hx rfl
    (fun j u hu => by
      cases j with
      | zero => simp at hu; subst hu; simpa [Addr.add] using hc
      | succ j => simp at hu)
    (fun u hu => by simp at hu; subst hu; rfl) (by unfold maxLen; omega) (by omega) hbase (fun v' w' h1 h2 _ => hK v' w' h1 h2)
theorem hasText_names (a : Option Addr) (n c : Nat) (l : List Ag) (x : ByteArray) (w : World) (h : Strs w a n (names l)) :
    Calls Tryd.prog 22 #[.slice a n c, .string x] w fun e w' => e = .returned (.int .i64 (aidxFrom l x 0)) ∧ w' = w := by
  refine (hasText_any a n c (names l) x w h).mono ?_
  rintro e w' ⟨rfl, rfl⟩
  exact ⟨ret_int (sidxFrom_names l x 0), rfl⟩
end Go.Proofs.YtajdijjecojdhaaDoor
