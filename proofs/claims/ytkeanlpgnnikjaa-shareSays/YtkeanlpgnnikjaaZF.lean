import Derived.Test.YtkeanlpgnnikjaaZE
namespace Go.Proofs.Ytkeanlpgnnikjaa
open Go.RowKit
theorem dr_congr {v f f' : Nat → Int} : ∀ g, (∀ j, j < g → f j = f' j) → drM v f g = drM v f' g ∧ drB v f g = drB v f' g := by
  intro g
  induction g with
  | zero => intro _; exact ⟨rfl, rfl⟩
  | succ g ih =>
    intro h
    obtain ⟨h1, h2⟩ := ih (fun j hj => h j (by omega))
    rw [drM, drM, drB, drB, h g (by omega), h1, h2]
    exact ⟨rfl, rfl⟩
set_option maxRecDepth 100000 in
set_option maxHeartbeats 4000000 in
theorem turns_err (a : Option Addr) (n c : Nat) (L : List Sl) (w : World) (h : Lsts w a n c L) (he : smE L ≠ 0) :
    Calls Try.prog 8 #[.slice a n c] w fun e w' => e = .returned (two (.slice none 0 0) (smE L)) ∧ w' = w := by
  have CM := hide (may_any a n c L w h)
  have hz : (smE L == 0) = false := by simpa using he
  clear h he
  generalize smE L = E at *
  go_enter Try.func8, Try.ntmps8
  go_wp2_with fail
  refine (unhide CM).mono ?_
  rintro e w2 ⟨rfl, hw2⟩
  subst w2
  go_wp2
  go_ret2
  exact ⟨rfl, rfl⟩
set_option maxRecDepth 100000 in
set_option maxHeartbeats 4000000 in
theorem turns_ok (a : Option Addr) (n c G : Nat) (L : List Sl) (w : World) (h : Lsts w a n c L) (hV : Vals n G L) :
    Calls Try.prog 8 #[.slice a n c] w fun e w' => ∃ g, e = .returned (two (.slice (some ⟨g, 0, none⟩) G G) 0) ∧ Row w.heap.size w' (some ⟨g, 0, none⟩) G (trF (vl L) n G G) ∧ Below w.heap.size w w' := by
  have hn1 := hV.n1
  have hn4 := hV.n4
  have hG := hV.g8
  have d1 := h.2.1
  have d2 := h.2.2.1
  unfold maxLen at d2
  have CM := may_any a n c L w h
  rw [hV.smE] at CM
  have CM := hide CM
  have CG := hide (given_any a n c G L w h hV)
  obtain ⟨b, off, rfl, hb, hcell⟩ := h.cellAt hn1
  have HC : Hid (∀ W, Below w.heap.size w W → ∀ j, j < n → W.cell? ⟨b, off + j, none⟩ = some (.slice (slAt L j).la G (slAt L j).lc)) := fun W hW j hj => by rw [hW.cell (p := ⟨b, off + j, none⟩) hb, hcell j hj, hV.row j hj]
  have HL : Hid (∀ k, k < n → G ≤ (slAt L k).lc ∧ (slAt L k).lc ≤ 9223372036854775807) := fun k hk => by
    have := h.mem (k := k) hk
    have q := this.2.1
    have r := this.2.2.1
    rw [hV.row k hk] at q
    unfold maxLen at r
    exact ⟨q, by omega⟩
  have HD : Hid (∀ W g f, Below w.heap.size w W → Row w.heap.size W (some ⟨g, 0, none⟩) G f → ∀ i, i < n → Calls Try.prog 25 #[.slice (slAt L i).la G (slAt L i).lc, .slice (some ⟨g, 0, none⟩) G G] W fun e w' => e = .returned (.int .i64 (drB (vl L i) f G)) ∧ w' = W) := fun W g f hW hR i hi => by
    have := (h.mem (k := i) hi).later hW
    rw [hV.row i hi] at this
    have hq := dearest_any _ G _ _ (some ⟨g, 0, none⟩) G (lF G f) W this (hR.ints (lF_len _ _).symm (Nat.le_refl _) (by unfold maxLen; omega) (fun j hj => (lF_at hj).symm)) hG (hV.okF hi)
    rw [(dr_congr G (fun j hj => lF_at hj)).2] at hq
    exact hq
  have HT := hide (tr_step hn1 (fun i hi => hV.okF (i := i) hi))
  have HT0 : Hid (trF (vl L) n G 0 = fun _ => -1) := rfl
  clear h hV hcell
  generalize vl L = v at *
  go_enter Try.func8, Try.ntmps8
  go_wp2_with fail
  refine (unhide CM).mono ?_
  rintro e w2 ⟨rfl, hw2⟩
  subst w2
  go_wp2_with fail
  refine (unhide CG).mono ?_
  rintro e w1 ⟨g, rfl, hrow, hg, hb1⟩
  have HB := hide hb1
  have HR : Hid (Row w.heap.size w1 (some ⟨g, 0, none⟩) G (trF v n G 0)) := by rw [unhide HT0]; exact hrow
  clear hrow hb1 CM CG HT0
  go_wp2
  go_loopw [17, 6, 7] (fun i _ _ wr => Hid (Below w.heap.size w wr) ∧ ∃ k : Nat, k ≤ G ∧ i = .int .i64 k ∧ Hid (Row w.heap.size wr (some ⟨g, 0, none⟩) G (trF v n G k))) (fun i _ _ _ => G - (intOf i).toNat)
  case atStart => exact ⟨HB, 0, Nat.zero_le _, rfl, HR⟩
  case round =>
    clear HB HR
    obtain ⟨HB, t, ht, rfl, HR⟩ := hrel
    by_cases hlt : t < G
    · obtain ⟨m, m1, m2, m3⟩ := (unhide HT t ht).2.2 hlt
      have hi : t % n < n := Nat.mod_lt _ (by omega)
      have hmG := m2.2.1
      obtain ⟨r1, r2, r3, r4⟩ := (unhide HR).at hmG
      have HRN : Hid (Row w.heap.size (wr.setCell ⟨g, m, none⟩ (.int .i64 ((t % n : Nat) : Int))) (some ⟨g, 0, none⟩) G (trF v n G (t + 1))) := (unhide HR).set hmG (fun j hj e => by rw [m3, upd_ne e]) (by rw [m3, upd_at])
      have HB2 : Hid (Below w.heap.size w (wr.setCell ⟨g, m, none⟩ (.int .i64 ((t % n : Nat) : Int)))) := (unhide HB).setCell (p := ⟨g, m, none⟩) hg _
      have CD := hide (unhide HD _ g _ (unhide HB) (unhide HR) (t % n) hi)
      rw [m1] at CD
      have hck := unhide HC _ (unhide HB) (t % n) hi
      obtain ⟨l1, l2⟩ := unhide HL (t % n) hi
      have hrem : (t : Int).tmod (n : Int) = ((t % n : Nat) : Int) := by rw [Int.tmod_eq_emod_of_nonneg (by omega)]; omega
      have hn0 : ((n : Int) == 0) = false := by simp; omega
      generalize (slAt L (t % n)).la = la at *
      generalize (slAt L (t % n)).lc = lc at *
      generalize hq : t % n = q at *
      clear m2 m3 m1 HD HT hq
      go_wp2_with fail
      refine (unhide CD).mono ?_
      rintro e w4 ⟨rfl, hw4⟩
      subst w4
      go_wp2
      go_roundw
      case rel => exact ⟨HB2, t + 1, by omega, by go_num, HRN⟩
      case measure => simp [intOf]; omega
    · obtain rfl : G = t := by omega
      go_wp2
      go_ret2
      exact ⟨g, rfl, HR, HB⟩
end Go.Proofs.Ytkeanlpgnnikjaa
