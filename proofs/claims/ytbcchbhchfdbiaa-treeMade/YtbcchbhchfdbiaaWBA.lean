import Derived.Test.YtbcchbhchfdbiaaWY
namespace Go.Proofs.Ytbcchbhchfdbiaa
open Go.RowKit Go.Shelf
attribute [local go_sem] Oper.semAt_some
set_option maxHeartbeats 1000000 in
theorem place_any (a : Option Addr) (n c : Nat) (l : List Int) (x : Int) (w : World) (h : Ints w a n c l) :
    Calls Try.prog 45 #[.slice a n c, .int .i64 x] w fun e w' => ∃ r : Int, e = .returned (.int .i64 r) ∧ w' = w ∧ (0 ≤ r ↔ ∃ j, j < n ∧ nth l j = x) := by
  have h1 := h.2.1
  have h2 := h.2.2.1
  unfold maxLen at h2
  rcases Nat.eq_zero_or_pos n with hz | hz
  · subst hz
    clear h
    go_enter Try.func45, Try.ntmps45
    go_wp2
    go_loop [5] (fun i => i = .int .i64 0) (fun _ => 0)
    case atStart => rfl
    case round =>
      subst hrel
      go_wp2
      go_ret
      exact ⟨-1, rfl, rfl, by constructor <;> (intro q; first | omega | (obtain ⟨j, hj, _⟩ := q; omega))⟩
  · obtain ⟨b, off, rfl, hb, hcell⟩ := h.nth hz
    have HC := hide hcell
    clear h hcell
    go_enter Try.func45, Try.ntmps45
    go_wp2
    go_loop [5] (fun i => ∃ k : Nat, k ≤ n ∧ i = .int .i64 k ∧ Hid (∀ j, j < k → nth l j ≠ x)) (fun i => n - (intOf i).toNat)
    case atStart => exact ⟨0, Nat.zero_le _, rfl, fun j hj => by omega⟩
    case round =>
      obtain ⟨k, hk, rfl, HI⟩ := hrel
      by_cases hlt : k < n
      · have z := unhide HC k hlt
        by_cases e : nth l k = x
        · have hd : (nth l k == x) = true := by simpa using e
          have HK : Hid (∃ j, j < n ∧ nth l j = x) := ⟨k, hlt, e⟩
          clear e
          go_wp2
          go_ret
          exact ⟨_, rfl, rfl, fun _ => unhide HK, fun _ => by omega⟩
        · have hd : (nth l k == x) = false := by simpa using e
          have HE := hide e
          clear e
          go_wp2
          refine ⟨⟨k + 1, by omega, by go_num, fun j hj => ?_⟩, by simp [intOf]; omega⟩
          by_cases q : j = k
          · subst q; exact unhide HE
          · exact unhide HI j (by omega)
      · go_wp2
        go_ret
        exact ⟨-1, rfl, rfl, fun q => by omega, fun ⟨j, hj, he⟩ => absurd he (unhide HI j (by omega))⟩
theorem in_any (a : Option Addr) (n c : Nat) (l : List Int) (x : Int) (w : World) (h : Ints w a n c l) :
    Calls Try.prog 24 #[.int .i64 x, .slice a n c] w fun e w' => ∃ b : Bool, e = .returned (.bool b) ∧ w' = w ∧ (b = true ↔ ∃ j, j < n ∧ nth l j = x) := by
  have CP := hide (place_any a n c l x w h)
  clear h
  go_enter Try.func24, Try.ntmps24
  go_wp2_with fail
  refine (unhide CP).mono ?_
  rintro e w' ⟨r, rfl, hw, hr⟩
  subst w'
  have HR := hide hr
  clear hr
  go_wp2
  go_ret
  exact ⟨decide (0 ≤ r), rfl, rfl, by rw [decide_eq_true_iff]; exact unhide HR⟩
theorem nth_rise {l : List Int} {m : Nat} (h : ∀ j, j + 1 < m → nth l j < nth l (j + 1)) : ∀ d j, j + d + 1 < m + 0 → nth l j < nth l (j + d + 1)
  | 0, j, hj => h j hj
  | d + 1, j, hj => by
    have h1 := nth_rise h d j (by omega)
    have h2 := h (j + d + 1) (by omega)
    rw [show j + (d + 1) + 1 = j + d + 1 + 1 by omega]
    omega
/-- In kids that rise one is there once, if it is there. -/
theorem occ_rise {l : List Int} {v : Int} {M : Nat} (h : ∀ j, j + 1 < M → nth l j < nth l (j + 1)) : ∀ m, m ≤ M → ((∃ t, t < m ∧ nth l t = v) → occ l v m = 1) ∧ ((¬ ∃ t, t < m ∧ nth l t = v) → occ l v m = 0)
  | 0, _ => ⟨fun ⟨t, ht, _⟩ => by omega, fun _ => rfl⟩
  | m + 1, hm => by
    obtain ⟨i1, i2⟩ := occ_rise h m (by omega)
    by_cases e : nth l m = v
    · have hno : ¬ ∃ t, t < m ∧ nth l t = v := fun ⟨t, ht, et⟩ => by
        have := nth_rise h (m - t - 1) t (by omega)
        rw [show t + (m - t - 1) + 1 = m by omega] at this
        omega
      refine ⟨fun _ => ?_, fun q => absurd ⟨m, by omega, e⟩ q⟩
      rw [occ, i2 hno, if_pos e]
    · refine ⟨fun ⟨t, ht, et⟩ => ?_, fun q => ?_⟩
      · have htm : t ≠ m := fun q => e (by rw [← q]; exact et)
        rw [occ, i1 ⟨t, by omega, et⟩, if_neg e]
      · rw [occ, i2 (fun ⟨t, ht, et⟩ => q ⟨t, by omega, et⟩), if_neg e]
theorem nodeE_rise {P : Int} {n i : Nat} {d : Nd} (hl : d.k.ln = d.k.ints.length) (h : nodeE P n i d = 0) : ∀ j, j + 1 < d.k.ln → nth d.k.ints j < nth d.k.ints (j + 1) := by
  intro j hj
  have := (nodeE_zero h).2.2 (j + 1) (by omega)
  unfold BadKid at this
  rw [ahd] at this
  omega
end Go.Proofs.Ytbcchbhchfdbiaa
