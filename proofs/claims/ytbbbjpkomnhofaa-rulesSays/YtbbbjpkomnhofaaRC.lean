import Derived.Test.YtbbbjpkomnhofaaRB
namespace Go.Proofs.Ytbbbjpkomnhofaa
open Go.RowKit Go.Shelf
def ax (x : Nat) : Int := ((x / 3 : Nat) : Int)
def ay (x : Nat) : Int := ((x % 3 : Nat) : Int)
def BPost (G : Prop) (w : World) (e : Ending) (w' : World) : Prop := (∃ t : Bool, e = .returned (.bool t) ∧ (t = true ↔ G)) ∧ Below w.heap.size w w'
def agX (l : List Int) (p x : Nat) : Prop := x / 3 ≠ x % 3 → av (p / 6) (ax x) (ay x) = true → av (p % 6) (ax x) (ay x) = true → av (rl l p) (ax x) (ay x) = true
theorem Ov.at {bs : List Bool} (h : Ov 54 bs) (k x : Nat) (hk : k < 6) (hx : x < 9) : bs[9 * k + x]?.getD false = av k (ax x) (ay x) := by
  have := h.2 (9 * k + x) (by omega)
  rw [this, show (9 * k + x) / 9 = k by omega, show (9 * k + x) / 3 % 3 = x / 3 by omega, show (9 * k + x) % 3 = x % 3 by omega]
  rfl
set_option maxRecDepth 100000 in
set_option maxHeartbeats 4000000 in
theorem agreesR_any (a : Option Addr) (c : Nat) (l : List Int) (w : World) (h : Ints w a 36 c l) (hok : okF l 6) :
    Calls Try.prog 21 #[.slice a 36 c] w fun e w' => BPost (∀ p, p < 36 → ∀ x, x < 9 → agX l p x) w e w' := by
  obtain ⟨b, off, rfl, hb, hcell⟩ := h.cellAt (by omega)
  have HRL : Hid (∀ p, p < 36 → rl l p < 6 ∧ w.cell? ⟨b, off + p, none⟩ = some (.int .i64 ((rl l p : Nat) : Int))) := fun p hp => by
    have q := hcell p hp
    have hl := h.1
    have := hok p (by omega)
    have e : l[p]?.getD 0 = ((rl l p : Nat) : Int) := by unfold rl; omega
    rw [e] at q
    exact ⟨by unfold rl; omega, q⟩
  have hcc := h.2.1
  have hcm := h.2.2.1
  unfold maxLen at hcm
  clear h hcell hok
  go_enter Try.func21, Try.ntmps21
  go_wp2_with fail
  refine (overs_any _).mono ?_
  rintro e w1 ⟨⟨g, bs, rfl, hov, hg⟩, hb1⟩
  have HO := hide (And.intro hov (And.intro hg hb1))
  clear hov hg hb1
  go_wp2_with fail
  go_loop [4, 5] (fun i _ => ∃ p : Nat, p ≤ 36 ∧ i = .int .i64 (p : Int) ∧ ∀ p', p' < p → ∀ x, x < 9 → agX l p' x) (fun i _ => 36 - (intOf i).toNat)
  case atStart => exact ⟨0, by omega, rfl, fun p hp => by omega⟩
  case round =>
    obtain ⟨p, hp, rfl, hall⟩ := hrel
    have HA := hide hall
    clear hall
    by_cases hlp : p < 36
    · go_wp2_with fail
      (try rw [show decide ((p : Int) < 36) = true by simp; omega])
      go_loop [5] (fun i => ∃ x : Nat, x ≤ 9 ∧ i = .int .i64 (x : Int) ∧ ∀ x', x' < x → agX l p x') (fun i => 9 - (intOf i).toNat)
      case atStart => exact ⟨0, by omega, rfl, fun x hx => by omega⟩
      case round =>
        obtain ⟨x, hx, rfl, hall⟩ := hrel
        have HX := hide hall
        clear hall
        by_cases hlx : x < 9
        · obtain ⟨hov, hg, hb1⟩ := unhide HO
          obtain ⟨hm6, q⟩ := unhide HRL p hlp
          have q' := (hb1.cell (p := ⟨b, off + p, none⟩) hb).trans q
          have c1 := (cell_in hg (bArr_at (j := 9 * (p / 6) + x) (by have := hov.1; omega))).1
          have c2 := (cell_in hg (bArr_at (j := 9 * (p % 6) + x) (by have := hov.1; omega))).1
          have c3 := (cell_in hg (bArr_at (j := 9 * rl l p + x) (by have := hov.1; omega))).1
          rw [hov.at _ _ (by omega) hlx] at c1 c2
          rw [hov.at _ _ hm6 hlx] at c3
          clear hov hg hb1 q
          obtain ⟨t1, E1⟩ : ∃ t, Hid (av (p / 6) (ax x) (ay x) = t) := ⟨_, rfl⟩
          obtain ⟨t2, E2⟩ : ∃ t, Hid (av (p % 6) (ax x) (ay x) = t) := ⟨_, rfl⟩
          obtain ⟨t3, E3⟩ : ∃ t, Hid (av (rl l p) (ax x) (ay x) = t) := ⟨_, rfl⟩
          rw [unhide E1] at c1
          rw [unhide E2] at c2
          rw [unhide E3] at c3
          by_cases hxy : x / 3 = x % 3
          · have hxi : ((x : Int) / 3 == (x : Int) % 3) = true := by simp; omega
            go_wp2_with fail
            go_round
            case rel => exact ⟨x + 1, by omega, by go_num, fun x' hx' => by
              by_cases e : x' = x
              · subst e; exact fun h => absurd hxy h
              · exact unhide HX x' (by omega)⟩
            case measure => simp [intOf]; omega
          · have hxi : ((x : Int) / 3 == (x : Int) % 3) = false := by simp; omega
            cases t1 with
            | false =>
              go_wp2_with fail
              go_round
              case rel => exact ⟨x + 1, by omega, by go_num, fun x' hx' => by
                by_cases e : x' = x
                · subst e; exact fun _ h => by rw [unhide E1] at h; cases h
                · exact unhide HX x' (by omega)⟩
              case measure => simp [intOf]; omega
            | true =>
              cases t2 with
              | false =>
                go_wp2_with fail
                go_round
                case rel => exact ⟨x + 1, by omega, by go_num, fun x' hx' => by
                  by_cases e : x' = x
                  · subst e; exact fun _ _ h => by rw [unhide E2] at h; cases h
                  · exact unhide HX x' (by omega)⟩
                case measure => simp [intOf]; omega
              | true =>
                cases t3 with
                | true =>
                  go_wp2_with fail
                  go_round
                  case rel => exact ⟨x + 1, by omega, by go_num, fun x' hx' => by
                    by_cases e : x' = x
                    · subst e; exact fun _ _ _ => unhide E3
                    · exact unhide HX x' (by omega)⟩
                  case measure => simp [intOf]; omega
                | false =>
                  go_wp2_with fail
                  go_ret
                  exact ⟨⟨false, rfl, (fun h => by cases h), fun h => by
                    have := h p hlp x hlx hxy (unhide E1) (unhide E2)
                    rw [unhide E3] at this
                    cases this⟩, (unhide HO).2.2⟩
        · obtain rfl : x = 9 := by omega
          go_wp2_with fail
          go_round
          case rel => exact ⟨p + 1, by omega, by go_num, fun p' hp' => by
            by_cases e : p' = p
            · subst e; exact unhide HX
            · exact unhide HA p' (by omega)⟩
          case measure => simp [intOf]; omega
    · obtain rfl : p = 36 := by omega
      go_wp2_with fail
      go_ret
      exact ⟨⟨true, rfl, fun _ => unhide HA, fun _ => rfl⟩, (unhide HO).2.2⟩
end Go.Proofs.Ytbbbjpkomnhofaa
