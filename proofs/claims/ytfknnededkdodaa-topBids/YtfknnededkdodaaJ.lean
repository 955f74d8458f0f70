import Derived.Test.YtfknnededkdodaaI
namespace Go.Proofs.Ytfknnededkdodaa
open Go.RowKit
def SL (P : Int) (m : Nat) (S : Nat → Int) : Prop := ∀ j, j < m → 0 ≤ S j ∧ S j < P
theorem SL.step {P : Int} {k : Nat} {S : Nat → Int} (h : SL P k S) (h1 : 0 ≤ S k) (h2 : S k < P) : SL P (k + 1) S := fun j hj => by
  by_cases e : j = k
  · subst e; exact ⟨h1, h2⟩
  · exact h j (by omega)
open Classical in
noncomputable def smE (n : Nat) (v : Nat → Int) (m : Nat) (S : Nat → Int) : Int := if bE n v ≠ 0 then bE n v else if m < 1 ∨ 16 < m then 2 else if SL (2 ^ n) m S then 0 else 8
theorem smE_bad {n m : Nat} {v S : Nat → Int} (h : bE n v ≠ 0) : smE n v m S = bE n v := by unfold smE; rw [if_pos h]
theorem smE_count {n m : Nat} {v S : Nat → Int} (h : bE n v = 0) (hm : m < 1 ∨ 16 < m) : smE n v m S = 2 := by unfold smE; rw [if_neg (by simpa using h), if_pos hm]
theorem smE_ok {n m : Nat} {v S : Nat → Int} (h : bE n v = 0) (hm : ¬ (m < 1 ∨ 16 < m)) (hS : SL (2 ^ n) m S) : smE n v m S = 0 := by unfold smE; rw [if_neg (by simpa using h), if_neg hm, if_pos hS]
theorem smE_who {n m : Nat} {v S : Nat → Int} (h : bE n v = 0) (hm : ¬ (m < 1 ∨ 16 < m)) (hS : ¬ SL (2 ^ n) m S) : smE n v m S = 8 := by unfold smE; rw [if_neg (by simpa using h), if_neg hm, if_neg hS]
theorem smE_zero {n m : Nat} {v : Nat → Int} {sl : List Int} (h : smE n v m (nth sl) = 0) : bE n v = 0 ∧ Sts n m sl := by
  by_cases hz : bE n v = 0
  · by_cases hm : m < 1 ∨ 16 < m
    · rw [smE_count hz hm] at h; omega
    · by_cases hS : SL (2 ^ n) m (nth sl)
      · exact ⟨hz, by omega, by omega, hS⟩
      · rw [smE_who hz hm hS] at h; omega
  · rw [smE_bad hz] at h; exact absurd h hz

set_option maxRecDepth 100000 in
set_option maxHeartbeats 2000000 in
theorem maySlots_any (a : Option Addr) (n c : Nat) (l : List Int) (sa : Option Addr) (m sc : Nat) (sl : List Int) (w : World) (h : Ints w a n c l) (hS : Ints w sa m sc sl) :
    Calls Try.prog 23 #[.slice a n c, .slice sa m sc] w fun e w' => e = .returned (.int .i64 (smE n (nth l) m (nth sl))) ∧ Below w.heap.size w w' := by
  have CM := hide (mayBid_any a n c l w h)
  have h1 := hS.2.1
  have h2 := hS.2.2.1
  have h3 := h.2.1
  have h4 := h.2.2.1
  unfold maxLen at h2 h4
  by_cases hz : bE n (nth l) = 0
  · obtain ⟨hn1, hn4, -⟩ := bE_zero hz
    rw [hz] at CM
    by_cases hm : m < 1 ∨ 16 < m
    · rw [smE_count hz hm]
      clear h hS hz
      rcases hm with hm | hm
      · obtain rfl : m = 0 := by omega
        go_enter Try.func23, Try.ntmps23
        go_wp2_with fail
        refine (unhide CM).mono ?_
        rintro e w2 ⟨rfl, hw2⟩
        subst w2
        go_wp2
        go_ret
        exact ⟨rfl, Below.refl _ _⟩
      · go_enter Try.func23, Try.ntmps23
        go_wp2_with fail
        refine (unhide CM).mono ?_
        rintro e w2 ⟨rfl, hw2⟩
        subst w2
        go_wp2
        go_ret
        exact ⟨rfl, Below.refl _ _⟩
    · have hm1 : 1 ≤ m := by omega
      have hm16 : m ≤ 16 := by omega
      obtain ⟨b, off, rfl, hb, hcell⟩ := hS.nth hm1
      obtain ⟨P, hP⟩ : ∃ P : Nat, P = 2 ^ n := ⟨_, rfl⟩
      have hP2 : (2 : Int) ^ n = (P : Int) := by rw [hP]; simp
      have hP1 : P ≤ 16 := by rw [hP]; exact pow_le hn4
      have hw : IntKind.i64.wrap ((2 : Int) ^ n) = (P : Int) := by rw [hP2]; exact wrap_in _ (by omega) (by omega)
      have HE := hide (fun q => smE_ok (n := n) (v := nth l) (m := m) (S := nth sl) hz hm q)
      have HF := hide (fun q => smE_who (n := n) (v := nth l) (m := m) (S := nth sl) hz hm q)
      rw [hP2] at HE HF
      have HC : Hid (∀ W, Below w.heap.size w W → ∀ j, j < m → W.cell? ⟨b, off + j, none⟩ = some (.int .i64 (nth sl j))) := fun W hW j hj => by rw [hW.cell (p := ⟨b, off + j, none⟩) hb, hcell j hj]
      clear h hS hz hm hcell hP hP2
      generalize smE n (nth l) m (nth sl) = E at *
      generalize nth sl = S at *
      go_enter Try.func23, Try.ntmps23
      go_wp2_with fail
      refine (unhide CM).mono ?_
      rintro e w2 ⟨rfl, hw2⟩
      subst w2
      go_wp2
      go_loopw [23, 7] (fun i _ wr => Below w.heap.size w wr ∧ ∃ (k : Nat), k ≤ m ∧ i = .int .i64 k ∧ SL P k S) (fun i _ _ => m - (intOf i).toNat)
      case atStart => exact ⟨Below.refl _ _, 0, Nat.zero_le _, rfl, fun j hj => by omega⟩
      case round =>
        obtain ⟨hbr, k, hk, rfl, hB⟩ := hrel
        have HB := hide hB
        clear hB
        by_cases hlt : k < m
        · have hck := unhide HC _ hbr k hlt
          have HV : Hid (S k < 0 ∨ (P : Int) ≤ S k → E = 8) := fun q => unhide HF (fun hh => by have := hh k hlt; omega)
          have HS := hide (fun p q => (unhide HB).step p q)
          generalize S k = x at *
          by_cases hx : x < 0
          · go_wp2
            go_ret
            exact ⟨ret_int (unhide HV (.inl hx)).symm, hbr⟩
          · by_cases hy : (P : Int) ≤ x
            · go_wp2
              go_ret
              exact ⟨ret_int (unhide HV (.inr hy)).symm, hbr⟩
            · go_wp2
              go_roundw
              case rel => exact ⟨hbr, k+1, by omega, by go_num, unhide HS (by omega) (by omega)⟩
              case measure => simp [intOf]; omega
        · obtain rfl : m = k := by omega
          go_wp2
          go_ret
          exact ⟨ret_int (unhide HE (unhide HB)).symm, hbr⟩
  · rw [smE_bad hz]
    have hz2 : (bE n (nth l) == 0) = false := by simpa using hz
    clear h hS hz
    generalize bE n (nth l) = E at *
    go_enter Try.func23, Try.ntmps23
    go_wp2_with fail
    refine (unhide CM).mono ?_
    rintro e w2 ⟨rfl, hw2⟩
    subst w2
    go_wp2
    go_ret
    exact ⟨rfl, Below.refl _ _⟩

set_option maxRecDepth 100000 in
set_option maxHeartbeats 2000000 in
theorem slotsMay_any (a : Option Addr) (n c : Nat) (l : List Int) (sa : Option Addr) (m sc : Nat) (sl : List Int) (w : World) (h : Ints w a n c l) (hS : Ints w sa m sc sl) :
    Calls Try.prog 12 #[.slice a n c, .slice sa m sc] w fun e w' => e = .returned (.int .i64 (smE n (nth l) m (nth sl))) ∧ Below w.heap.size w w' := by
  have CM := hide (bidsMay_any a n c l w h)
  have h1 := hS.2.1
  have h2 := hS.2.2.1
  have h3 := h.2.1
  have h4 := h.2.2.1
  unfold maxLen at h2 h4
  by_cases hz : bE n (nth l) = 0
  · obtain ⟨hn1, hn4, -⟩ := bE_zero hz
    rw [hz] at CM
    by_cases hm : m < 1 ∨ 16 < m
    · rw [smE_count hz hm]
      clear h hS hz
      rcases hm with hm | hm
      · obtain rfl : m = 0 := by omega
        go_enter Try.func12, Try.ntmps12
        go_wp2_with fail
        refine (unhide CM).mono ?_
        rintro e w2 ⟨rfl, hw2⟩
        subst w2
        go_wp2
        go_ret
        exact ⟨rfl, Below.refl _ _⟩
      · go_enter Try.func12, Try.ntmps12
        go_wp2_with fail
        refine (unhide CM).mono ?_
        rintro e w2 ⟨rfl, hw2⟩
        subst w2
        go_wp2
        go_ret
        exact ⟨rfl, Below.refl _ _⟩
    · have hm1 : 1 ≤ m := by omega
      have hm16 : m ≤ 16 := by omega
      obtain ⟨b, off, rfl, hb, hcell⟩ := hS.nth hm1
      obtain ⟨P, hP⟩ : ∃ P : Nat, P = 2 ^ n := ⟨_, rfl⟩
      have hP2 : (2 : Int) ^ n = (P : Int) := by rw [hP]; simp
      have hP1 : P ≤ 16 := by rw [hP]; exact pow_le hn4
      have hw : IntKind.i64.wrap ((2 : Int) ^ n) = (P : Int) := by rw [hP2]; exact wrap_in _ (by omega) (by omega)
      have HE := hide (fun q => smE_ok (n := n) (v := nth l) (m := m) (S := nth sl) hz hm q)
      have HF := hide (fun q => smE_who (n := n) (v := nth l) (m := m) (S := nth sl) hz hm q)
      rw [hP2] at HE HF
      have HC : Hid (∀ W, Below w.heap.size w W → ∀ j, j < m → W.cell? ⟨b, off + j, none⟩ = some (.int .i64 (nth sl j))) := fun W hW j hj => by rw [hW.cell (p := ⟨b, off + j, none⟩) hb, hcell j hj]
      clear h hS hz hm hcell hP hP2
      generalize smE n (nth l) m (nth sl) = E at *
      generalize nth sl = S at *
      go_enter Try.func12, Try.ntmps12
      go_wp2_with fail
      refine (unhide CM).mono ?_
      rintro e w2 ⟨rfl, hw2⟩
      subst w2
      go_wp2
      go_loopw [6] (fun i  wr => Below w.heap.size w wr ∧ ∃ (k : Nat), k ≤ m ∧ i = .int .i64 k ∧ SL P k S) (fun i  _ => m - (intOf i).toNat)
      case atStart => exact ⟨Below.refl _ _, 0, Nat.zero_le _, rfl, fun j hj => by omega⟩
      case round =>
        obtain ⟨hbr, k, hk, rfl, hB⟩ := hrel
        have HB := hide hB
        clear hB
        by_cases hlt : k < m
        · have hck := unhide HC _ hbr k hlt
          have HV : Hid (S k < 0 ∨ (P : Int) ≤ S k → E = 8) := fun q => unhide HF (fun hh => by have := hh k hlt; omega)
          have HS := hide (fun p q => (unhide HB).step p q)
          generalize S k = x at *
          by_cases hx : x < 0
          · go_wp2_with fail
            go_quiet (fail)
            go_wp2
            go_ret
            exact ⟨ret_int (unhide HV (.inl hx)).symm, hbr.trans ((below_drewN _ _ _).mono hbr.size)⟩
          · by_cases hy : (P : Int) ≤ x
            · go_wp2_with fail
              go_quiet (fail)
              go_wp2
              go_ret
              exact ⟨ret_int (unhide HV (.inr hy)).symm, hbr.trans ((below_drewN _ _ _).mono hbr.size)⟩
            · go_wp2_with fail
              go_quiet (fail)
              go_wp2
              go_roundw
              case rel => exact ⟨hbr.trans ((below_drewN _ _ _).mono hbr.size), k+1, by omega, by go_num, unhide HS (by omega) (by omega)⟩
              case measure => simp [intOf]; omega
        · obtain rfl : m = k := by omega
          go_wp2
          go_ret
          exact ⟨ret_int (unhide HE (unhide HB)).symm, hbr⟩
  · rw [smE_bad hz]
    have hz2 : (bE n (nth l) == 0) = false := by simpa using hz
    clear h hS hz
    generalize bE n (nth l) = E at *
    go_enter Try.func12, Try.ntmps12
    go_wp2_with fail
    refine (unhide CM).mono ?_
    rintro e w2 ⟨rfl, hw2⟩
    subst w2
    go_wp2
    go_ret
    exact ⟨rfl, Below.refl _ _⟩
end Go.Proofs.Ytfknnededkdodaa
