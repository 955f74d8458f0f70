import Derived.Test.YtajdijjecojdhaaDoorWCC
namespace Go.Proofs.YtajdijjecojdhaaDoor
open Go.RowKit
set_option maxRecDepth 100000 in
set_option maxHeartbeats 4000000 in
theorem take_word (R b off n c : Nat) (x0 : ByteArray) (t : List ByteArray) (w : World) (h : Strz w (some ⟨b, off, none⟩) (n + 1) (c + 1) (x0 :: t)) (h0 : (x0.toList == [108, 101, 102, 116]) = false) (h0' : (x0.toList == [114, 105, 103, 104, 116]) = false) :
    Calls Tryd.prog 29 #[.pointer (some ⟨R, 0, none⟩), .slice (some ⟨b, off, none⟩) (n + 1) (c + 1)] w fun e w' => e = .panicked [{ v := thrown 3, recovered := false }] ∧ Below w.heap.size w w' := by
  obtain ⟨hn, hc, hm, hs, hh⟩ := h
  unfold maxLen at hm
  rcases hh with hz | ⟨b', off', e, hlt, hcell⟩
  · omega
  cases e
  have q0 : w.cell? ⟨b, off, none⟩ = some (.string x0) := hcell 0 (by omega)
  clear hcell hn hs
  go_enter Tryd.func29, Tryd.ntmps29
  go_wp2_with fail
  refine (need_no 3 _).mono ?_
  rintro e w1 ⟨rfl, hw⟩
  subst w1
  go_wp2
  exact ⟨rfl, rfl, Below.refl _ _⟩
set_option maxRecDepth 100000 in
set_option maxHeartbeats 4000000 in
theorem take_short (R b off c : Nat) (x0 : ByteArray) (w : World) (h : Strz w (some ⟨b, off, none⟩) 1 (c + 1) [x0]) (h0 : (x0.toList == [108, 101, 102, 116]) = true ∨ (x0.toList == [114, 105, 103, 104, 116]) = true) :
    Calls Tryd.prog 29 #[.pointer (some ⟨R, 0, none⟩), .slice (some ⟨b, off, none⟩) 1 (c + 1)] w fun e w' => e = .panicked [{ v := thrown 4, recovered := false }] ∧ Below w.heap.size w w' := by
  obtain ⟨hn, hc, hm, hs, hh⟩ := h
  unfold maxLen at hm
  rcases hh with hz | ⟨b', off', e, hlt, hcell⟩
  · omega
  cases e
  have q0 : w.cell? ⟨b, off, none⟩ = some (.string x0) := hcell 0 (by omega)
  clear hcell hn hs
  cases k0 : (x0.toList == [108, 101, 102, 116]) with
  | true =>
    clear h0
    cases k1 : (x0.toList == [114, 105, 103, 104, 116]) with
    | true =>
      go_enter Tryd.func29, Tryd.ntmps29
      go_wp2_with fail
      refine (need_yes 3 _).mono ?_
      rintro e w1 ⟨rfl, hw⟩
      subst w1
      go_wp2_with fail
      refine (need_no 4 _).mono ?_
      rintro e w1 ⟨rfl, hw⟩
      subst w1
      go_wp2
      exact ⟨rfl, rfl, Below.refl _ _⟩
    | false =>
      go_enter Tryd.func29, Tryd.ntmps29
      go_wp2_with fail
      refine (need_yes 3 _).mono ?_
      rintro e w1 ⟨rfl, hw⟩
      subst w1
      go_wp2_with fail
      refine (need_no 4 _).mono ?_
      rintro e w1 ⟨rfl, hw⟩
      subst w1
      go_wp2
      exact ⟨rfl, rfl, Below.refl _ _⟩
  | false =>
    have k1 : (x0.toList == [114, 105, 103, 104, 116]) = true := by
      rcases h0 with h0 | h0
      · rw [k0] at h0; cases h0
      · exact h0
    clear h0
    go_enter Tryd.func29, Tryd.ntmps29
    go_wp2_with fail
    refine (need_yes 3 _).mono ?_
    rintro e w1 ⟨rfl, hw⟩
    subst w1
    go_wp2_with fail
    refine (need_no 4 _).mono ?_
    rintro e w1 ⟨rfl, hw⟩
    subst w1
    go_wp2
    exact ⟨rfl, rfl, Below.refl _ _⟩
end Go.Proofs.YtajdijjecojdhaaDoor
