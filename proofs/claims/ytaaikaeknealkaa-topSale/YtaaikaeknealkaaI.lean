import Derived.Test.YtaaikaeknealkaaH
import Derived.Test.YtaaikaeknealkaaC
namespace Go.Proofs.Ytaaikaeknealkaa
open Go.RowKit
theorem results_row_tmp {fn : Func} {p : Tmp} {ty : TypeId} {u : Tmp} (h : fn.results = #[.cell p ty, .tmp u]) (tmps : Array Value) (P : Program) (w : World) (g : Nat) (cs : Array Value)
    (hp : tmps.getD p undef = .pointer (some ⟨g, 0, none⟩)) (hl : (loadVar ty ⟨g, 0, none⟩).run P w = .ok (.agg cs) w) :
    (results fn tmps).run P w = .ok (.tuple #[.agg cs, tmps.getD u undef]) w := by
  have hp' : tmps[p]?.getD undef = .pointer (some ⟨g, 0, none⟩) := by simpa using hp
  simp [results, h, hp', asAddr, hl]
theorem bst_rng {m : Nat} : ∀ (ws : List (Nat → Int)), Wok m ws → ∀ free, free < m → ∀ x ∈ (bst ws free).2, 0 ≤ x ∧ x ≤ free := by
  intro ws
  induction ws with
  | nil => intro _ free _ x hx; cases hx
  | cons w ws ih =>
    intro h free hf
    have hws : Wok m ws := fun v hv => h v (List.mem_cons_of_mem _ hv)
    have : ∀ k, k ≤ free + 1 → ∀ x ∈ (bstF w (bst ws) free k).2, 0 ≤ x ∧ x ≤ free := by
      intro k
      induction k with
      | zero => intro _ x hx; cases hx
      | succ k ihk =>
        intro hk x hx
        by_cases c : anN k free = 0 ∧ (bstF w (bst ws) free k).1 < (bst ws (anN free k)).1 + w k
        · rw [bstF_yes c.1 c.2] at hx
          rcases List.mem_cons.1 hx with e | e
          · subst e; omega
          · have h1 := ih hws _ (Nat.lt_of_le_of_lt (anN_le free k) hf) x e
            have h2 := anN_le free k
            omega
        · rw [bstF_no c] at hx; exact ihk (by omega) x hx
    exact this (free + 1) (Nat.le_refl _)
/-- What one pays. -/
def pay (L : List Sl) (al j : Nat) : Int := (bst (fs (L.eraseIdx j)) al).1 - ((bst (fs L) al).1 - nth (slAt L j).ints (nth (bst (fs L) al).2 j).toNat)
theorem seE_zero {it : Int} {L : List Sl} (h : seE it L = 0) : 0 ≤ it ∧ it ≤ 4 ∧ 1 ≤ L.length ∧ L.length ≤ 4 ∧ Lok (2 ^ it.toNat) L ∧ ∀ s ∈ L, nth s.ints 0 = 0 := by
  by_cases h1 : it < 0 ∨ 4 < it
  · rw [seE_it h1] at h; omega
  · by_cases h2 : L.length < 1 ∨ 4 < L.length
    · rw [seE_n h1 h2] at h; omega
    · by_cases h3 : ∃ j, j < L.length ∧ (slAt L j).ln ≠ 2 ^ it.toNat
      · rw [seE_len h1 h2 h3] at h; omega
      · rw [seE_val h1 h2 h3] at h
        have hz := fE_zero _ _ h
        have hall : ∀ j, j < L.length → (slAt L j).ln = 2 ^ it.toNat ∧ ∀ s, s < 2 ^ it.toNat → 0 ≤ nth (slAt L j).ints s ∧ nth (slAt L j).ints s ≤ 1000 ∧ (s = 0 → nth (slAt L j).ints s = 0) := fun j hj => by
          refine ⟨?_, fun s hs' => ?_⟩
          · rcases Nat.decEq (slAt L j).ln (2 ^ it.toNat) with e | e
            · exact absurd ⟨j, hj, e⟩ h3
            · exact e
          · have := fE_zero _ _ (hz j (Nat.zero_le _) (by omega)) s (Nat.zero_le _) (by omega)
            by_cases hb : nth (slAt L j).ints s < 0 ∨ 1000 < nth (slAt L j).ints s ∨ (s = 0 ∧ nth (slAt L j).ints s ≠ 0)
            · rw [wE_val hb] at this; omega
            · refine ⟨by omega, by omega, fun e => ?_⟩
              rcases Int.lt_trichotomy (nth (slAt L j).ints s) 0 with q | q | q
              · exact absurd (.inl q) hb
              · exact q
              · exact absurd (.inr (.inr ⟨e, by omega⟩)) hb
        have hmem : ∀ s ∈ L, ∃ j, j < L.length ∧ slAt L j = s := fun s hs' => by
          obtain ⟨j, hj, e⟩ := List.getElem_of_mem hs'
          exact ⟨j, hj, by unfold slAt; rw [List.getElem?_eq_getElem hj, e]; rfl⟩
        refine ⟨by omega, by omega, by omega, by omega, fun s hs' => ?_, fun s hs' => ?_⟩
        · obtain ⟨j, hj, rfl⟩ := hmem s hs'
          exact ⟨(hall j hj).1, fun t ht => ⟨((hall j hj).2 t ht).1, ((hall j hj).2 t ht).2.1⟩⟩
        · obtain ⟨j, hj, rfl⟩ := hmem s hs'
          exact ((hall j hj).2 0 (Nat.two_pow_pos _)).2.2 rfl
theorem slAt_erase {L : List Sl} {i k : Nat} : slAt (L.eraseIdx i) k = slAt L (if k < i then k else k + 1) := by
  unfold slAt
  rw [List.getElem?_eraseIdx]
  by_cases h : k < i
  · rw [if_pos h, if_pos h]
  · rw [if_neg h, if_neg h]
theorem Lok.erase {m : Nat} {L : List Sl} (h : Lok m L) (i : Nat) : Lok m (L.eraseIdx i) := fun s hs' => h s (List.mem_of_mem_eraseIdx hs')
def saleV (s p : Value) : Value := .agg #[s, p]
def ShareP (it : Int) (n : Nat) (L : List Sl) (w : World) (e : Ending) (w' : World) : Prop := Below w.heap.size w w' ∧
  ((seE it L ≠ 0 ∧ e = .returned (.tuple #[saleV (.slice none 0 0) (.slice none 0 0), .int .i64 (seE it L)])) ∨
   (seE it L = 0 ∧ ∃ sa sc pa pc, e = .returned (.tuple #[saleV (.slice sa n sc) (.slice pa n pc), .int .i64 0]) ∧ Ints w' sa n sc (bst (fs L) (2 ^ it.toNat - 1)).2 ∧ Ints w' pa n pc (lF n (pay L (2 ^ it.toNat - 1)))))
end Go.Proofs.Ytaaikaeknealkaa
