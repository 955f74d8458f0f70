import Derived.Test.YtfknnededkdodaaC
namespace Go.Proofs.Ytfknnededkdodaa
open Go.RowKit
theorem Sec.start (v : Nat → Int) (q : Nat) : Sec v 0 q 0 := ⟨Int.le_refl _, .inl rfl, fun j hj => by omega⟩
theorem Sec.skip {v : Nat → Int} {k : Nat} {x : Int} (h : Sec v k k x) : Sec v (k + 1) k x := by
  obtain ⟨h1, h2, h3⟩ := h
  refine ⟨h1, h2.imp id fun ⟨j, a, b, c⟩ => ⟨j, by omega, b, c⟩, fun j hj hne => h3 j (by omega) hne⟩
theorem Sec.step {v : Nat → Int} {k q : Nat} {x : Int} (h : Sec v k q x) (hk : k ≠ q) : Sec v (k + 1) q (max x (v k)) := by
  obtain ⟨h1, h2, h3⟩ := h
  refine ⟨by omega, ?_, fun j hj hne => ?_⟩
  · by_cases e : x ≤ v k
    · exact .inr ⟨k, by omega, hk, by omega⟩
    · rw [show max x (v k) = x by omega]
      exact h2.imp id fun ⟨j, a, b, c⟩ => ⟨j, by omega, b, c⟩
  · by_cases e : j = k
    · subst e; omega
    · have := h3 j (by omega) hne; omega
theorem Win.start (v : Nat → Int) : Win v 1 0 := ⟨by omega, fun j hj => by rw [show j = 0 by omega]; exact Int.le_refl _, fun j hj => by omega⟩
theorem Win.yes {v : Nat → Int} {k q : Nat} (h : Win v k q) (hv : v q < v k) : Win v (k + 1) k := by
  obtain ⟨h1, h2, h3⟩ := h
  refine ⟨by omega, fun j hj => ?_, fun j hj => ?_⟩
  · by_cases e : j = k
    · subst e; omega
    · have := h2 j (by omega); omega
  · have := h2 j (by omega); omega
theorem Win.no {v : Nat → Int} {k q : Nat} (h : Win v k q) (hv : ¬ v q < v k) : Win v (k + 1) q := by
  obtain ⟨h1, h2, h3⟩ := h
  refine ⟨by omega, fun j hj => ?_, h3⟩
  by_cases e : j = k
  · subst e; omega
  · exact h2 j (by omega)
def SecP (n : Nat) (v : Nat → Int) (w : World) (e : Ending) (w' : World) : Prop := Below w.heap.size w w' ∧ ((bE n v ≠ 0 ∧ e = .returned (three 0 0 (bE n v))) ∨ (bE n v = 0 ∧ ∃ (q : Nat) (s : Int), Win v n q ∧ Sec v n q s ∧ e = .returned (three q s 0)))
set_option maxHeartbeats 1000000 in
theorem second_any (a : Option Addr) (n c : Nat) (l : List Int) (w : World) (h : Ints w a n c l) :
    Calls Try.prog 7 #[.slice a n c] w (SecP n (nth l) w) := by
  have CM := hide (first_any a n c l w h)
  have h1 := h.2.1
  have h2 := h.2.2.1
  unfold maxLen at h2
  by_cases hz : bE n (nth l) = 0
  · have hn := bE_zero hz
    have hn1 := hn.1
    have hn4 := hn.2.1
    obtain ⟨b, off, rfl, hb, hcell⟩ := h.nth hn1
    have HF : Hid (∀ e, (∃ (q : Nat) (s : Int), Win (nth l) n q ∧ Sec (nth l) n q s ∧ e = .returned (three q s 0)) → SecP n (nth l) w e w) := fun e he => ⟨Below.refl _ _, .inr ⟨hz, he⟩⟩
    have HZ := hide hz
    have HC := hide hcell
    clear hz h hn hcell
    generalize SecP n (nth l) w = PP at *
    go_enter Try.func7, Try.ntmps7
    go_wp2_with fail
    refine (unhide CM).mono ?_
    rintro e w2 ⟨hw2, ⟨hne, -⟩ | ⟨-, q, hq, rfl⟩⟩
    · exact absurd (unhide HZ) hne
    subst w2
    unfold three
    have HQ := hide hq
    have hqn := hq.1
    clear hq CM
    generalize nth l = v at *
    go_wp2
    go_loop [18, 3, 5, 6] (fun i m _ _ => ∃ (k : Nat) (x : Int), k ≤ n ∧ i = .int .i64 k ∧ m = .int .i64 x ∧ Sec v k q x) (fun i _ _ _ => n - (intOf i).toNat)
    case atStart => exact ⟨0, 0, Nat.zero_le _, rfl, rfl, Sec.start _ _⟩
    case round =>
      obtain ⟨k, x, hk, rfl, rfl, hB⟩ := hrel
      have HB := hide hB
      clear hB
      by_cases hlt : k < n
      · have hck := unhide HC k hlt
        by_cases hkq : k = q
        · subst hkq
          have HS := hide (unhide HB).skip
          generalize v k = y at *
          go_wp2
          exact ⟨⟨k+1, x, by omega, by go_num, rfl, unhide HS⟩, by simp [intOf]; omega⟩
        · have HS := hide ((unhide HB).step hkq)
          have hne : ((k : Int) == (q : Int)) = false := by simp; omega
          generalize v k = y at *
          go_wp2
          exact ⟨⟨k+1, max x y, by omega, by go_num, rfl, unhide HS⟩, by simp [intOf]; omega⟩
      · obtain rfl : n = k := by omega
        go_wp2
        exact unhide HF _ ⟨q, x, unhide HQ, unhide HB, rfl⟩
  · have HF : Hid (SecP n (nth l) w (.returned (three 0 0 (bE n (nth l)))) w) := ⟨Below.refl _ _, .inl ⟨hz, rfl⟩⟩
    have hz2 : (bE n (nth l) == 0) = false := by simpa using hz
    have HZ := hide hz
    clear h hz
    generalize SecP n (nth l) w = PP at *
    go_enter Try.func7, Try.ntmps7
    go_wp2_with fail
    refine (unhide CM).mono ?_
    rintro e w2 ⟨hw2, ⟨-, rfl⟩ | ⟨hne, -⟩⟩
    · subst w2
      unfold three
      clear CM
      unfold three at HF
      generalize bE n (nth l) = E at *
      go_wp2
      exact unhide HF
    · exact absurd hne (unhide HZ)
set_option maxHeartbeats 1000000 in
theorem winner_any (a : Option Addr) (n c : Nat) (l : List Int) (w : World) (h : Ints w a n c l) (hn1 : 1 ≤ n) :
    Calls Try.prog 9 #[.slice a n c] w fun e w' => Below w.heap.size w w' ∧ ∃ (q : Nat) (s : Int), Win (nth l) n q ∧ Sec (nth l) n q s ∧ e = .returned (three q (nth l q) s) := by
  have h1 := h.2.1
  have h2 := h.2.2.1
  unfold maxLen at h2
  obtain ⟨b, off, rfl, hb, hcell⟩ := h.nth hn1
  have HC := hide hcell
  clear h hcell
  generalize nth l = v at *
  go_enter Try.func9, Try.ntmps9
  go_wp2
  go_loopw [6, 5] (fun i m wr => Below w.heap.size w wr ∧ ∃ (k q : Nat), k ≤ n ∧ i = .int .i64 k ∧ m = .int .i64 q ∧ Win v k q) (fun i _ _ => n - (intOf i).toNat)
  case atStart => exact ⟨Below.refl _ _, 1, 0, hn1, rfl, rfl, Win.start _⟩
  case round =>
    obtain ⟨hbr, k, q, hk, rfl, rfl, hB⟩ := hrel
    have HB := hide hB
    have hqk := hB.1
    clear hB
    by_cases hlt : k < n
    · have hck := (hbr.cell (p := ⟨b, off + k, none⟩) hb).trans (unhide HC k hlt)
      have hcq := (hbr.cell (p := ⟨b, off + q, none⟩) hb).trans (unhide HC q (by omega))
      have HY := hide (fun p => (unhide HB).yes p)
      have HN := hide (fun p => (unhide HB).no p)
      generalize v k = y at *
      generalize v q = z at *
      by_cases hyz : z < y
      · go_wp2_with fail
        go_quiet (fail)
        go_wp2_with fail
        go_roundw
        case rel => exact ⟨hbr.trans ((below_drewN _ _ _).mono hbr.size), k + 1, k, by omega, by go_num, rfl, unhide HY hyz⟩
        case measure => simp [intOf]; omega
      · go_wp2_with fail
        go_quiet (fail)
        go_wp2_with fail
        go_roundw
        case rel => exact ⟨hbr.trans ((below_drewN _ _ _).mono hbr.size), k + 1, q, by omega, by go_num, rfl, unhide HN hyz⟩
        case measure => simp [intOf]; omega
    · obtain rfl : n = k := by omega
      have HC2 : Hid (∀ j, j < n → wr.cell? ⟨b, off + j, none⟩ = some (.int .i64 (v j))) := fun j hj => (hbr.cell (p := ⟨b, off + j, none⟩) hb).trans (unhide HC j hj)
      have HBR := hide hbr
      clear hbr
      go_wp2
      go_loop [8, 7] (fun i m => ∃ (k : Nat) (x : Int), k ≤ n ∧ i = .int .i64 k ∧ m = .int .i64 x ∧ Sec v k q x) (fun i _ => n - (intOf i).toNat)
      case atStart => exact ⟨0, 0, Nat.zero_le _, rfl, rfl, Sec.start _ _⟩
      case round =>
        obtain ⟨k, x, hk, rfl, rfl, hS⟩ := hrel
        have HS := hide hS
        clear hS
        by_cases hlt2 : k < n
        · have hck := unhide HC2 k hlt2
          by_cases hkq : k = q
          · subst hkq
            have HT := hide (unhide HS).skip
            generalize v k = y at *
            go_wp2
            exact ⟨⟨k+1, x, by omega, by go_num, rfl, unhide HT⟩, by simp [intOf]; omega⟩
          · have HT := hide ((unhide HS).step hkq)
            have hne : ((k : Int) == (q : Int)) = false := by simp; omega
            generalize v k = y at *
            by_cases hxy : x < y
            · rw [show max x y = y by omega] at HT
              go_wp2
              exact ⟨⟨k+1, y, by omega, by go_num, rfl, unhide HT⟩, by simp [intOf]; omega⟩
            · rw [show max x y = x by omega] at HT
              go_wp2
              exact ⟨⟨k+1, x, by omega, by go_num, rfl, unhide HT⟩, by simp [intOf]; omega⟩
        · obtain rfl : n = k := by omega
          have hcq := unhide HC2 q hqk
          have HV : Hid (∀ z, v q = z → (.returned (three q (v q) x) : Ending) = .returned (.tuple #[.int .i64 q, .int .i64 z, .int .i64 x])) := fun z hz => by rw [← hz]; rfl
          generalize hz : v q = z at *
          go_wp2_with fail
          go_quiet (fail)
          go_wp2
          go_ret3
          exact ⟨(unhide HBR).trans ((below_drewN _ _ _).mono (unhide HBR).size), q, x, unhide HB, unhide HS, by rw [hz]; rfl⟩
end Go.Proofs.Ytfknnededkdodaa
