import Derived.Test.YtbcchbhchfdbiaaA
namespace Go.Proofs.Ytbcchbhchfdbiaa
open Go.RowKit
/-- The place of the first of the greatest. -/
def mst (u : Nat → Int) : Nat → Nat
  | 0 => 0
  | k + 1 => if u (mst u k) < u k then k else mst u k
theorem mst_lt {u : Nat → Int} : ∀ k, 1 ≤ k → mst u k < k := by
  intro k
  induction k with
  | zero => intro h; omega
  | succ k ih =>
    intro _
    rw [mst]
    by_cases c : u (mst u k) < u k
    · rw [if_pos c]; omega
    · rw [if_neg c]
      by_cases e : k = 0
      · subst e; show 0 < 1; omega
      · have := ih (by omega); omega
theorem mst_yes {u : Nat → Int} {k : Nat} (h : u (mst u k) < u k) : mst u (k + 1) = k := by rw [mst, if_pos h]
theorem mst_no {u : Nat → Int} {k : Nat} (h : ¬ u (mst u k) < u k) : mst u (k + 1) = mst u k := by rw [mst, if_neg h]
theorem mst_spec {u : Nat → Int} : ∀ k, (∀ j, j < k → u j ≤ u (mst u k)) ∧ ∀ j, j < mst u k → u j < u (mst u k) := by
  intro k
  induction k with
  | zero => exact ⟨fun j hj => by omega, fun j hj => by have : mst u 0 = 0 := rfl; omega⟩
  | succ k ih =>
    obtain ⟨h1, h2⟩ := ih
    by_cases c : u (mst u k) < u k
    · rw [mst_yes c]
      refine ⟨fun j hj => ?_, fun j hj => by have := h1 j hj; omega⟩
      by_cases e : j = k
      · subst e; exact Int.le_refl _
      · have := h1 j (by omega); omega
    · rw [mst_no c]
      refine ⟨fun j hj => ?_, h2⟩
      by_cases e : j = k
      · subst e; omega
      · exact h1 j (by omega)
set_option maxRecDepth 100000 in
set_option maxHeartbeats 4000000 in
theorem most_any (a : Option Addr) (n c : Nat) (L : List Sl) (who : Nat) (w : World) (h : Lsts w a n c L) (hn1 : 1 ≤ n) (hw : ∀ j, j < n → who < (slAt L j).ln) :
    Calls Try.prog 27 #[.slice a n c, .int .i64 who] w fun e w' => e = .returned (.int .i64 (mst (fun j => nth (slAt L j).ints who) n : Nat)) ∧ Below w.heap.size w w' := by
  have h1 := h.2.1
  have h2 := h.2.2.1
  unfold maxLen at h2
  obtain ⟨b, off, rfl, hb, hcell⟩ := h.cellAt hn1
  have HC : Hid (∀ W, Below w.heap.size w W → ∀ j, j < n → W.cell? ⟨b, off + j, none⟩ = some (.slice (slAt L j).la (slAt L j).ln (slAt L j).lc)) := fun W hW j hj => by rw [hW.cell (p := ⟨b, off + j, none⟩) hb, hcell j hj]
  have HI : Hid (∀ W, Below w.heap.size w W → ∀ j, j < n → ∃ bb oo, (slAt L j).la = some ⟨bb, oo, none⟩ ∧ W.cell? ⟨bb, oo + who, none⟩ = some (.int .i64 (nth (slAt L j).ints who)) ∧ who < (slAt L j).ln ∧ (slAt L j).ln ≤ (slAt L j).lc ∧ (slAt L j).lc ≤ 9223372036854775807) := fun W hW j hj => by
    have q := (h.mem (k := j) hj).later hW
    have hwj := hw j hj
    obtain ⟨bb, oo, e1, -, e3⟩ := q.nth (by omega)
    have r := q.2.2.1
    unfold maxLen at r
    exact ⟨bb, oo, e1, e3 who hwj, hwj, q.2.1, by omega⟩
  clear h hcell hw
  generalize hu : (fun j => nth (slAt L j).ints who) = u
  have HU : Hid (∀ j, nth (slAt L j).ints who = u j) := fun j => by rw [← hu]
  clear hu
  go_enter Try.func27, Try.ntmps27
  go_wp2
  go_loopw [10, 5, 6, 7] (fun i x _ _ wr => Hid (Below w.heap.size w wr) ∧ ∃ k : Nat, k ≤ n ∧ i = .int .i64 k ∧ x = .int .i64 (mst u k : Nat)) (fun i _ _ _ _ => n - (intOf i).toNat)
  case atStart => exact ⟨Below.refl _ _, 0, Nat.zero_le _, rfl, rfl⟩
  case round =>
    obtain ⟨HB, k, hk, rfl, rfl⟩ := hrel
    by_cases hlt : k < n
    · have hml : mst u k < n := by
        by_cases e : k = 0
        · subst e; show 0 < n; omega
        · have := mst_lt (u := u) k (by omega); omega
      have c1 := unhide HC _ (unhide HB) k hlt
      have c2 := unhide HC _ (unhide HB) _ hml
      obtain ⟨b1, o1, e1, y1, z1, z2, z3⟩ := unhide HI _ (unhide HB) k hlt
      obtain ⟨b2, o2, e2, y2, z4, z5, z6⟩ := unhide HI _ (unhide HB) _ hml
      rw [e1] at c1
      rw [e2] at c2
      rw [unhide HU] at y1 y2
      have HY := hide (fun q => mst_yes (u := u) (k := k) q)
      have HN := hide (fun q => mst_no (u := u) (k := k) q)
      generalize mst u k = m at *
      generalize (slAt L k).ln = l1 at *
      generalize (slAt L k).lc = l2 at *
      generalize (slAt L m).ln = l3 at *
      generalize (slAt L m).lc = l4 at *
      clear e1 e2
      by_cases hc : u m < u k
      · have HR := hide (unhide HY hc)
        clear HY HN
        generalize u m = p at *
        generalize u k = r at *
        go_wp2_with fail
        go_quiet (fail)
        go_wp2
        go_roundw
        case rel => exact ⟨(unhide HB).trans ((below_drewN _ _ _).mono (unhide HB).size), k + 1, by omega, by go_num, by rw [unhide HR]⟩
        case measure => simp [intOf]; omega
      · have HR := hide (unhide HN hc)
        clear HY HN
        generalize u m = p at *
        generalize u k = r at *
        go_wp2_with fail
        go_quiet (fail)
        go_wp2
        go_roundw
        case rel => exact ⟨(unhide HB).trans ((below_drewN _ _ _).mono (unhide HB).size), k + 1, by omega, by go_num, by rw [unhide HR]⟩
        case measure => simp [intOf]; omega
    · obtain rfl : n = k := by omega
      go_wp2
      go_ret
      exact ⟨rfl, HB⟩
end Go.Proofs.Ytbcchbhchfdbiaa
