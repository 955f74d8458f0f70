import Derived.Test.YtfknnededkdodaaL
namespace Go.Proofs.Ytfknnededkdodaa
open Go.RowKit
def slo (a : Int) (p : Value) (e : Int) : Value := .tuple #[.int .i64 a, p, .int .i64 e]
def SloP (n : Nat) (v : Nat → Int) (m : Nat) (sl : List Int) (w : World) (e : Ending) (w' : World) : Prop :=
  Below w.heap.size w w' ∧ ((smE n v m (nth sl) ≠ 0 ∧ e = .returned (slo 0 (.slice none 0 0) (smE n v m (nth sl)))) ∨
    (smE n v m (nth sl) = 0 ∧ ∃ (pa : Option Addr) (pc : Nat) (PL : List Int), e = .returned (slo (wS v n (sN sl) m).2 (.slice pa n pc) 0) ∧ Ints w' pa n pc PL ∧ ∀ j, j < n → PayP v n (sN sl) m j (nth PL j)))
set_option maxRecDepth 100000 in
set_option maxHeartbeats 2000000 in
theorem slots_any (a : Option Addr) (n c : Nat) (l : List Int) (sa : Option Addr) (m sc : Nat) (sl : List Int) (w : World) (h : Ints w a n c l) (hS : Ints w sa m sc sl) :
    Calls Try.prog 11 #[.slice a n c, .slice sa m sc] w (SloP n (nth l) m sl w) := by
  have CM := hide (maySlots_any a n c l sa m sc sl w h hS)
  have h3 := h.2.1
  have h4 := h.2.2.1
  unfold maxLen at h4
  by_cases hz : smE n (nth l) m (nth sl) = 0
  · obtain ⟨hz0, hT⟩ := smE_zero hz
    obtain ⟨hn1, hn4, hB⟩ := bE_zero hz0
    rw [hz] at CM
    have HF : Hid (∀ w' pa pc PL, Below w.heap.size w w' → Ints w' pa n pc PL → (∀ j, j < n → PayP (nth l) n (sN sl) m j (nth PL j)) → SloP n (nth l) m sl w (.returned (.tuple #[.int .i64 (wS (nth l) n (sN sl) m).2, .slice pa n pc, .int .i64 0])) w') := fun w' pa pc PL hb hI hP => ⟨hb, .inr ⟨hz, pa, pc, PL, rfl, hI, hP⟩⟩
    have HW : Hid (∀ W, Below w.heap.size w W → Calls Try.prog 24 #[.slice a n c, .slice sa m sc] W fun e w' => e = .returned (.int .i64 (wS (nth l) n (sN sl) m).2) ∧ w' = W) := fun W hW => wins_any a n c l sa m sc sl W (h.later hW) (hS.later hW) hn1 hn4 hB hT
    have HLB : Hid (∀ W i, Below w.heap.size w W → i < n → Calls Try.prog 26 #[.slice a n c, .slice sa m sc, .int .i64 i] W fun e w' => ∃ p, LB (nth l) n (sN sl) m i p ∧ e = .returned (.int .i64 p) ∧ Below W.heap.size W w') := fun W i hW hi => leastBid_any a n c l sa m sc sl i W (h.later hW) (hS.later hW) hn1 hn4 hB hT hi
    have hS0 : (wS (nth l) n (sN sl) m).2 < 16 := Nat.lt_of_lt_of_le (wS_lt (m := m) (fun j hj => (hT.nat hj).2) m (Nat.le_refl _)) (pow_le hn4)
    have HPY : Hid (∀ j p, hs (wS (nth l) n (sN sl) m).2 j = true → LB (nth l) n (sN sl) m j p → PayP (nth l) n (sN sl) m j p) := fun j p hy hp => ⟨fun _ => hp, fun hn => (by rw [hy] at hn; cases hn)⟩
    have HPN : Hid (∀ j, hs (wS (nth l) n (sN sl) m).2 j = false → PayP (nth l) n (sN sl) m j 0) := fun j hn => ⟨fun hy => (by rw [hy] at hn; cases hn), fun _ => rfl⟩
    clear h hS hz hz0 hT hB
    generalize SloP n (nth l) m sl w = PP at *
    generalize LB (nth l) n (sN sl) m = LBp at *
    generalize PayP (nth l) n (sN sl) m = PPp at *
    generalize (wS (nth l) n (sN sl) m).2 = q0 at *
    obtain ⟨i3, hi3, hz0, hz1, hz2⟩ := info_parts info3
    go_enter Try.func11, Try.ntmps11
    go_wp2_with fail
    refine (unhide CM).mono ?_
    rintro e w1 ⟨rfl, hb1⟩
    have C24 := hide (unhide HW w1 hb1)
    go_wp2_with fail
    refine (unhide C24).mono ?_
    rintro e w2 ⟨rfl, hw2⟩
    subst w2
    go_wp2_with (at_make; refine wpList_make_full _ rfl _ _ 22 rfl w1.heap.size 3 i3 _ 1 Try.underlying22 hi3 hz0 hz1 .i64 .i64 _ _ n rfl rfl rfl rfl (by rw [hz2]; omega) (by unfold maxLen; omega) (Nat.le_refl _) ?_; intro w2 ho2 hg2)
    have hbA : Below w1.heap.size w1 w2 := (Below.refl w1.heap.size w1).grown hg2 (Nat.le_refl _) (fun k hk => by cases hk)
    have hb2 := hb1.trans (hbA.mono hb1.size)
    have HR2 := hide (row_made ho2)
    have HZ1 := hide hb1.size
    clear ho2 hg2 hbA
    go_wp2_with fail
    go_loopw [23, 8] (fun k _ wr => Below w.heap.size w wr ∧ ∃ (x : Nat) (f : Nat → Int), x ≤ n ∧ k = .int .i64 x ∧ Row w1.heap.size wr (some ⟨w1.heap.size, 0, none⟩) n f ∧ (∀ j, j < x → PPp j (f j)) ∧ ∀ j, x ≤ j → f j = 0) (fun k _ _ => n - (intOf k).toNat)
    case atStart => exact ⟨hb2, 0, fun _ => 0, Nat.zero_le _, rfl, unhide HR2, fun j hj => by omega, fun _ _ => rfl⟩
    case round =>
      obtain ⟨hbr, x, f, hx, rfl, hR, hP, hN0⟩ := hrel
      have HR := hide hR
      have HPx := hide hP
      have HN0 := hide hN0
      clear hR hP hN0
      by_cases hlt : x < n
      · have CH := hide (has_any q0 x hS0 (by omega) wr)
        have C26 := hide (unhide HLB wr x hbr hlt)
        cases hh : hs q0 x
        · rw [hh] at CH
          have HX : Hid (∀ j, j < x + 1 → PPp j (f j)) := fun j hj => by
            by_cases e : j = x
            · subst e; rw [unhide HN0 j (Nat.le_refl _)]; exact unhide HPN j hh
            · exact unhide HPx j (by omega)
          go_wp2_with fail
          refine (unhide CH).mono ?_
          rintro e w3 ⟨rfl, hw3⟩
          subst w3
          go_wp2_with fail
          go_roundw
          case rel => exact ⟨hbr, x + 1, f, by omega, by go_num, unhide HR, unhide HX, fun j hj => unhide HN0 j (by omega)⟩
          case measure => simp [intOf]; omega
        · rw [hh] at CH
          go_wp2_with fail
          refine (unhide CH).mono ?_
          rintro e w3 ⟨rfl, hw3⟩
          subst w3
          go_wp2_with fail
          refine (unhide C26).mono ?_
          rintro e w3 ⟨p, hp, rfl, hb3⟩
          have hR3 := (unhide HR).later hb3
          obtain ⟨hc, hf, hsz, hge⟩ := hR3.at hlt
          have HX : Hid (∀ j, j < x + 1 → PPp j (upd f x p j)) := fun j hj => by
            by_cases e : j = x
            · subst e; rw [upd_at]; exact unhide HPY j p hh hp
            · rw [upd_ne e]; exact unhide HPx j (by omega)
          have HR4 : Hid (Row w1.heap.size (w3.setCell ⟨w1.heap.size, x, none⟩ (.int .i64 p)) (some ⟨w1.heap.size, 0, none⟩) n (upd f x p)) := hR3.set hlt (fun j _ hj => by rw [upd_ne hj]) (upd_at _ _ _).symm
          have hb4 := (hbr.trans (hb3.mono hbr.size)).setCell (p := ⟨w1.heap.size, x, none⟩) (unhide HZ1) (.int .i64 p)
          clear hR3
          generalize f x = y0 at *
          go_wp2_with fail
          go_roundw
          case rel => exact ⟨hb4, x + 1, upd f x p, by omega, by go_num, unhide HR4, unhide HX, fun j hj => by rw [upd_ne (by omega)]; exact unhide HN0 j (by omega)⟩
          case measure => simp [intOf]; omega
      · obtain rfl : n = x := by omega
        go_wp2
        exact unhide HF _ _ _ (lF n f) hbr ((unhide HR).ints (lF_len _ _).symm (Nat.le_refl _) (by unfold maxLen; omega) (fun j hj => (lF_at hj).symm)) (fun j hj => by rw [lF_at hj]; exact unhide HPx j hj)
  · have HF : Hid (∀ w', Below w.heap.size w w' → SloP n (nth l) m sl w (.returned (.tuple #[.int .i64 0, .slice none 0 0, .int .i64 (smE n (nth l) m (nth sl))])) w') := fun w' hb => ⟨hb, .inl ⟨hz, rfl⟩⟩
    have hz2 : (smE n (nth l) m (nth sl) == 0) = false := by simpa using hz
    clear h hS hz
    generalize SloP n (nth l) m sl w = PP at *
    generalize smE n (nth l) m (nth sl) = E at *
    go_enter Try.func11, Try.ntmps11
    go_wp2_with fail
    refine (unhide CM).mono ?_
    rintro e w1 ⟨rfl, hb1⟩
    go_wp2
    exact unhide HF _ hb1
end Go.Proofs.Ytfknnededkdodaa
