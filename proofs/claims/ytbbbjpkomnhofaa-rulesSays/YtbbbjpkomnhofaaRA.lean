import Derived.Test.YtbbbjpkomnhofaaPE
import Derived.Test.YtbbbjpkomnhofaaAG
namespace Go.Proofs.Ytbbbjpkomnhofaa
open Go.RowKit Go.Shelf
set_option maxHeartbeats 400000 in
theorem placeR_any (a : Option Addr) (n c : Nat) (l : List Int) (x : Int) (w : World) (h : Ints w a n c l) :
    Calls Try.prog 37 #[.slice a n c, .int .i64 x] w fun e w' => e = .returned (.int .i64 (idxFrom l x 0)) ∧ w' = w := by
  obtain ⟨hn, hc, hm, h⟩ := h
  unfold maxLen at hm
  rcases h with h0 | ⟨b, off, rfl, hb, hcell⟩
  · subst h0
    go_enter Try.func37, Try.ntmps37
    go_wp2
    refine wp_loop_rounds 1 ?_
    rw [rounds_succ]
    go_wp2
    go_ret
    exact ⟨ret_int (by rw [idxFrom_end (by omega)]), rfl⟩
  · have HN : Hid (n = l.length) := hn
    clear hn
    go_enter Try.func37, Try.ntmps37
    go_wp2
    go_loop [5] (fun i => ∃ k : Nat, k ≤ n ∧ i = .int .i64 k ∧ idxFrom l x 0 = idxFrom l x k) (fun i => n - (intOf i).toNat)
    case atStart => exact ⟨0, Nat.zero_le _, rfl, rfl⟩
    case round =>
      obtain ⟨k, hk, rfl, hn⟩ := hrel
      have HI : Hid (idxFrom l x 0 = idxFrom l x k) := hn
      clear hn
      by_cases hlt : k < n
      · have hck := hcell k hlt
        go_wp2
        · go_ret
          refine ⟨ret_int ?_, rfl⟩
          rw [HI.out]; exact (idxFrom_yes (by have := HN.out; omega) (by simp_all)).symm
        · refine ⟨⟨k+1, by omega, by go_num, ?_⟩, by simp [intOf]; omega⟩
          rw [HI.out]; exact idxFrom_no (by have := HN.out; omega) (by simp_all)
      · go_wp2
        go_ret
        exact ⟨ret_int (by rw [HI.out, idxFrom_end (by have := HN.out; omega)]), rfl⟩
def eqFuel (l m : List Int) : Nat → Nat → Bool
  | 0, _ => true
  | f + 1, k => decide (l[k]?.getD 0 = m[k]?.getD 0) && eqFuel l m f (k + 1)
def eqFrom (l m : List Int) (k : Nat) : Bool := eqFuel l m (l.length - k) k
theorem eqFrom_step {l m : List Int} {k : Nat} (h : k < l.length) : eqFrom l m k = (decide (l[k]?.getD 0 = m[k]?.getD 0) && eqFrom l m (k+1)) := by
  unfold eqFrom
  rw [show l.length - k = (l.length - (k + 1)) + 1 by omega, eqFuel]
theorem eqFrom_yes {l m : List Int} {k : Nat} (h : k < l.length) (e : l[k]?.getD 0 = m[k]?.getD 0) : eqFrom l m k = eqFrom l m (k+1) := by
  rw [eqFrom_step h, decide_eq_true e, Bool.true_and]
theorem eqFrom_no {l m : List Int} {k : Nat} (h : k < l.length) (e : ¬ l[k]?.getD 0 = m[k]?.getD 0) : eqFrom l m k = false := by
  rw [eqFrom_step h, decide_eq_false e, Bool.false_and]
theorem eqFrom_end {l m : List Int} {k : Nat} (h : ¬ k < l.length) : eqFrom l m k = true := by
  unfold eqFrom
  rw [show l.length - k = 0 by omega, eqFuel]
theorem eqFrom_all {l m : List Int} : ∀ (d k : Nat), l.length - k = d → eqFrom l m k = true → ∀ j, k ≤ j → j < l.length → l[j]?.getD 0 = m[j]?.getD 0
  | 0, k, hd, _, j, hj, hl => by omega
  | d + 1, k, hd, h, j, hj, hl => by
    have hk : k < l.length := by omega
    rw [eqFrom_step hk, Bool.and_eq_true, decide_eq_true_eq] at h
    by_cases e : j = k
    · rw [e]; exact h.1
    · exact eqFrom_all d (k + 1) (by omega) h.2 j (by omega) hl
theorem eqFrom_refl {l : List Int} : ∀ (d k : Nat), l.length - k = d → eqFrom l l k = true
  | 0, k, hd => eqFrom_end (by omega)
  | d + 1, k, hd => by rw [eqFrom_step (by omega), eqFrom_refl d (k + 1) (by omega)]; simp
theorem eqFrom_eq {l m : List Int} (hl : l.length = m.length) : eqFrom l m 0 = decide (l = m) := by
  by_cases e : l = m
  · subst e; rw [eqFrom_refl _ 0 rfl]; simp
  · rw [decide_eq_false e]
    cases h : eqFrom l m 0 with
    | false => rfl
    | true =>
      refine absurd ?_ e
      refine List.ext_getElem hl fun j h1 h2 => ?_
      have := eqFrom_all _ 0 rfl h j (Nat.zero_le _) h1
      simpa [h1, h2] using this
set_option maxHeartbeats 1000000 in
theorem sameInts_any (a a' : Option Addr) (n c n' c' : Nat) (l m : List Int) (w : World) (h : Ints w a n c l) (h' : Ints w a' n' c' m) :
    Calls Try.prog 7 #[.slice a n c, .slice a' n' c'] w fun e w' => e = .returned (.bool (decide (l = m))) ∧ Below w.heap.size w w' := by
  obtain ⟨hn, hc, hm, h⟩ := h
  obtain ⟨hn', hc', hm', h'⟩ := h'
  unfold maxLen at hm hm'
  have HN : Hid (n = l.length) := hn
  have HN' : Hid (n' = m.length) := hn'
  clear hn hn'
  by_cases hnn : n = n'
  · subst hnn
    have HL : Hid (decide (l = m) = eqFrom l m 0) := (eqFrom_eq (HN.out.symm.trans HN'.out)).symm
    rcases h with h0 | ⟨b, off, rfl, hb, hcell⟩
    · subst h0
      go_enter Try.func7, Try.ntmps7
      go_wp2
      refine wp_loop_rounds 1 ?_
      rw [rounds_succ]
      go_wp2
      go_ret
      exact ⟨ret_bool (by rw [HL.out, eqFrom_end (by have := HN.out; omega)]), Below.refl _ _⟩
    · rcases h' with h0 | ⟨b', off', rfl, hb', hcell'⟩
      · subst h0
        go_enter Try.func7, Try.ntmps7
        go_wp2
        refine wp_loop_rounds 1 ?_
        rw [rounds_succ]
        go_wp2
        go_ret
        exact ⟨ret_bool (by rw [HL.out, eqFrom_end (by have := HN.out; omega)]), Below.refl _ _⟩
      · go_enter Try.func7, Try.ntmps7
        go_wp2
        go_loopw [5] (fun i wr => Below w.heap.size w wr ∧ ∃ k : Nat, k ≤ n ∧ i = .int .i64 k ∧ eqFrom l m 0 = eqFrom l m k) (fun i _ => n - (intOf i).toNat)
        case atStart => exact ⟨Below.refl _ _, 0, Nat.zero_le _, rfl, rfl⟩
        case round =>
          obtain ⟨hbr, k, hk, rfl, hn⟩ := hrel
          have HI : Hid (eqFrom l m 0 = eqFrom l m k) := hn
          clear hn
          by_cases hlt : k < n
          · have hck := (hbr.cell (p := ⟨b, off + k, none⟩) hb).trans (hcell k hlt)
            have hck' := (hbr.cell (p := ⟨b', off' + k, none⟩) hb').trans (hcell' k hlt)
            clear hcell hcell'
            by_cases q : l[k]?.getD 0 = m[k]?.getD 0
            · have HQ : Hid (l[k]?.getD 0 = m[k]?.getD 0) := q
              rw [← q] at hck'
              clear q
              go_wp2
              go_quiet (fail)
              go_wp2
              go_roundw
              case rel => exact ⟨hbr.trans (below_drewN _ _ _), k+1, by omega, by go_num, by rw [HI.out]; exact eqFrom_yes (by have := HN.out; omega) HQ.out⟩
              case measure => simp [intOf]; omega
            · go_wp2
              go_quiet (fail)
              go_wp2
              go_ret
              refine ⟨ret_bool ?_, hbr.trans (below_drewN _ _ _)⟩
              rw [HL.out, HI.out]; exact (eqFrom_no (by have := HN.out; omega) q).symm
          · go_wp2
            go_ret
            exact ⟨ret_bool (by rw [HL.out, HI.out, eqFrom_end (by have := HN.out; omega)]), hbr⟩
  · have HL : Hid (decide (l = m) = false) := decide_eq_false (fun e => hnn (by rw [HN.out, HN'.out, e]))
    have hnn' : ¬ (n : Int) = (n' : Int) := by omega
    go_enter Try.func7, Try.ntmps7
    go_wp2
    go_ret
    exact ⟨ret_bool HL.out.symm, Below.refl _ _⟩
theorem in_any (a : Option Addr) (n c : Nat) (l : List Int) (x : Int) (w : World) (h : Ints w a n c l) :
    Calls Try.prog 24 #[.int .i64 x, .slice a n c] w fun e w' => e = .returned (.bool (decide (0 ≤ idxFrom l x 0))) ∧ w' = w := by
  go_enter Try.func24, Try.ntmps24
  go_wp2_with (go_at_call 37; refine (placeR_any _ _ _ l _ _ h).mono ?_; rintro e w' ⟨rfl, rfl⟩)
  go_ret
  exact ⟨rfl, rfl⟩
def oL (k : Nat) : List Int := [o6 k 0, o6 k 1, o6 k 2]
theorem perms3 : permsL [0, 1, 2] = L6 := by decide +kernel
theorem L6_at (k : Nat) (hk : k < 6) : L6[k]? = some (oL k) := by
  rcases (by omega : k = 0 ∨ k = 1 ∨ k = 2 ∨ k = 3 ∨ k = 4 ∨ k = 5) with rfl | rfl | rfl | rfl | rfl | rfl <;> rfl
set_option maxRecDepth 100000 in
set_option maxHeartbeats 1000000 in
theorem orderNo_any (k : Nat) (hk : k < 6) (w : World) :
    Calls Try.prog 8 #[.int .i64 (k : Int)] w fun e w' => (∃ a c, e = .returned (.slice a 3 c) ∧ Ints w' a 3 c (oL k)) ∧ Below w.heap.size w w' := by
  have hI : Ints (w.alloc (.cells #[.int .i64 0, .int .i64 1, .int .i64 2] 3)) (some ⟨w.heap.size, 0, none⟩) 3 3 [0, 1, 2] := by
    refine ⟨rfl, Nat.le_refl _, by unfold maxLen; omega, .inr ⟨w.heap.size, 0, rfl, by simp, fun j hj => ?_⟩⟩
    have hn := World.alloc_heap_new w (.cells #[.int .i64 0, .int .i64 1, .int .i64 2] 3)
    rcases (by omega : j = 0 ∨ j = 1 ∨ j = 2) with rfl | rfl | rfl <;> exact (cell_in hn rfl).1
  have hb0 : Below w.heap.size w (w.alloc (.cells #[.int .i64 0, .int .i64 1, .int .i64 2] 3)) := (Below.refl _ w).alloc (Nat.le_refl _) _
  have CP := hide (perms_any 3 _ _ _ _ _ rfl (by omega) hI)
  clear hI
  go_enter Try.func8, Try.ntmps8
  go_wp2_with fail
  refine (unhide CP).mono ?_
  rintro e w1 ⟨v, L, rfl, ho, hL, hls, hb1⟩
  obtain ⟨a, c, rfl, hLs⟩ := Lsts.of_owns ho (fun s hs => (hL s hs).1)
  rw [perms3] at hls
  have hlen : L.length = 6 := by have := congrArg List.length hls; simpa [lists, L6] using this
  have hk6 : k < L.length := by omega
  have hat : (slAt L k).ints = oL k := by
    have h1 := congrArg (fun q => q[k]?) hls
    simp only [lists, List.getElem?_map, L6_at k hk] at h1
    unfold slAt
    rw [List.getElem?_eq_getElem hk6] at h1 ⊢
    simpa using h1
  have hs := hL _ (slAt_mem hk6)
  have h3 : (slAt L k).ln = 3 := by have := hs.1.1; rw [hat] at this; exact this
  have hI := hs.1
  rw [hat, h3] at hI
  obtain ⟨b, off, rfl, hb, hcell⟩ := hLs.cellAt (by omega)
  have q := hcell k hk6
  rw [h3] at q
  have hcc := hLs.2.1
  have hcm := hLs.2.2.1
  unfold maxLen at hcm
  rw [hlen] at hcc ⊢
  have HI := hide hI
  have HB := hide (hb0.trans (hb1.mono hb0.size))
  have hki : (k : Int) < 6 := by omega
  clear hL hls ho hLs hs hI hcell hb0 hb1 hat
  go_wp2_with fail
  go_ret
  exact ⟨⟨_, _, rfl, unhide HI⟩, unhide HB⟩
set_option maxRecDepth 100000 in
set_option maxHeartbeats 1000000 in
theorem over_any (k : Nat) (hk : k < 6) (x y : Int) (w : World) :
    Calls Try.prog 36 #[.int .i64 (k : Int), .int .i64 x, .int .i64 y] w fun e w' => e = .returned (.bool (av k x y)) ∧ Below w.heap.size w w' := by
  go_enter Try.func36, Try.ntmps36
  go_wp2_with fail
  refine (orderNo_any k hk _).mono ?_
  rintro e w1 ⟨⟨a, c, rfl, hI⟩, hb1⟩
  have C1 := hide (fun z => placeR_any a 3 c _ z w1 hI)
  clear hI
  go_wp2_with fail
  refine (unhide C1 x).mono ?_
  rintro e w2 ⟨rfl, hw2⟩
  subst w2
  go_wp2_with fail
  refine (unhide C1 y).mono ?_
  rintro e w2 ⟨rfl, hw2⟩
  subst w2
  go_wp2_with fail
  go_ret
  exact ⟨rfl, hb1⟩
end Go.Proofs.Ytbbbjpkomnhofaa
