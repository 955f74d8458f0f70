import Derived.Test.YtbcchbhchfdbiaaK
namespace Go.Proofs.Ytbcchbhchfdbiaa
open Go.RowKit Go.Shelf
/-- byChoices$1: the choice that was handed in. -/
theorem by49 (bx : Nat) (qa : Option Addr) (n qc : Nat) (q : List Int) (j : Nat) (kv : Value) (W : World) (hbx : W.cell? ⟨bx, 0, none⟩ = some (.slice qa n qc)) (hq : Ints W qa n qc q) (hj : j < n) :
    Calls Try.prog 49 #[.int .i64 (j : Int), kv, .pointer (some ⟨bx, 0, none⟩)] W fun e w' => e = .returned (.int .i64 (nth q j)) ∧ w' = W := by
  obtain ⟨b, off, rfl, hb, hcell⟩ := hq.nth (by omega)
  have hc := hcell j hj
  have h1 := hq.2.1
  have h2 := hq.2.2.1
  unfold maxLen at h2
  clear hq hcell
  go_enter Try.func49, Try.ntmps49
  go_wp2
  go_ret
  exact ⟨rfl, rfl⟩
/-- Backward$1: the place from which the node's player gets the most. -/
theorem back26 (bx : Nat) (a : Option Addr) (n c : Nat) (L : List Nd) (j : Nat) (ka : Option Addr) (kn kc : Nat) (KL : List Sl) (W : World) (h0 : W.cell? ⟨bx, 1, none⟩ = some (.slice a n c)) (hN : Nodes W a n c L) (hj : j < n) (who : Nat) (hw : (ndAt L j).pl = who) (hK : Lsts W ka kn kc KL) (k1 : 1 ≤ kn) (hl : ∀ i, i < kn → who < (slAt KL i).ln) :
    Calls Try.prog 26 #[.int .i64 (j : Int), .slice ka kn kc, .pointer (some ⟨bx, 0, none⟩)] W fun e w' => e = .returned (.int .i64 (mst (fun i => nth (slAt KL i).ints who) kn)) ∧ Below W.heap.size W w' := by
  have CM := hide (most_any ka kn kc KL who W hK k1 hl)
  obtain ⟨b, off, rfl, hb, hcell⟩ := hN.cellAt (by omega)
  have hc := (hcell W (Below.refl _ _) j hj).1
  rw [hw] at hc
  have h1 := hN.2.1
  have h2 := hN.2.2.1
  unfold maxLen at h2
  clear hN hcell hK hl hw
  go_enter Try.func26, Try.ntmps26
  go_wp2_with fail
  refine (unhide CM).mono ?_
  rintro e w' ⟨rfl, hb'⟩
  have HB := hide hb'
  clear hb'
  go_wp2
  go_ret
  exact ⟨rfl, unhide HB⟩
end Go.Proofs.Ytbcchbhchfdbiaa
