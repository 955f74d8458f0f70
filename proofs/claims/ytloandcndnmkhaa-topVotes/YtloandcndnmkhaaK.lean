import Derived.Test.YtloandcndnmkhaaJ
namespace Go.Proofs.Ytloandcndnmkhaa
open Go.RowKit
/-- Which of n things a raw number speaks of. -/
def pk (c : Int) (n : Nat) : Nat := ((if c < 0 then -(c + 1) else c) % (n : Int)).toNat
theorem pk_lt (c : Int) {n : Nat} (hn : 0 < n) : pk c n < n := by
  unfold pk
  have := Int.emod_lt_of_pos (if c < 0 then -(c + 1) else c) (show (0 : Int) < n by omega)
  have := Int.emod_nonneg (if c < 0 then -(c + 1) else c) (show (n : Int) ≠ 0 by omega)
  omega
set_option maxHeartbeats 400000 in
theorem pick_val (c : Int) (n : Nat) (hc : InR c) (hn : 0 < n) (hm : n ≤ 1000) (w : World) :
    Calls Try.prog 23 #[.int .i64 c, .int .i64 n] w fun e w' => e = .returned (.int .i64 (pk c n)) ∧ w' = w := by
  obtain ⟨h1, h2⟩ := hc
  have hnz : ((n : Int) == 0) = false := by simp; omega
  unfold pk
  by_cases hneg : c < 0
  · rw [if_pos hneg]
    go_enter Try.func23, Try.ntmps23
    go_wp2
    go_ret
    refine ⟨ret_int ?_, rfl⟩
    have h0 := Int.emod_nonneg (-(c + 1)) (show (n : Int) ≠ 0 by omega)
    rw [← Int.neg_tmod, Int.tmod_eq_emod_of_nonneg (by omega)]
    omega
  · rw [if_neg hneg]
    go_enter Try.func23, Try.ntmps23
    go_wp2
    go_ret
    refine ⟨ret_int ?_, rfl⟩
    have h0 := Int.emod_nonneg c (show (n : Int) ≠ 0 by omega)
    omega
theorem in_any (a : Option Addr) (n c : Nat) (l : List Int) (x : Int) (w : World) (h : Ints w a n c l) :
    Calls Try.prog 25 #[.int .i64 x, .slice a n c] w fun e w' => e = .returned (.bool (decide (0 ≤ idxFrom l x 0))) ∧ w' = w := by
  go_enter Try.func25, Try.ntmps25
  go_wp2_with (go_at_call 28; refine (place_any _ _ _ l _ _ h).mono ?_; rintro e w' ⟨rfl, rfl⟩)
  go_ret
  exact ⟨rfl, rfl⟩
/-- One ballot of a row of one's own is changed for another. -/
theorem Bals.set {w0 w : World} {wa : Option Addr} {wc g n c i0 : Nat} {L : List Bal} {s : Bal} (h : Bals w0 wa n wc L) (hb : Below w0.heap.size w0 w) (hg : w0.heap.size ≤ g) (hgs : g < w.heap.size)
    (hc : ∀ j, j < n → w.cell? ⟨g, j * 2, none⟩ = some (.int .i64 (balAt L j).count) ∧ w.cell? ⟨g, j * 2 + 1, none⟩ = some (.slice (balAt L j).oa (balAt L j).on (balAt L j).oc)) (hnc : n ≤ c) (hcm : c ≤ maxLen) (hi : i0 < n)
    (hs : Ints w s.oa s.on s.oc s.order) (hsa : s.on = 0 ∨ ∃ b off, s.oa = some ⟨b, off, none⟩ ∧ b ≠ g) :
    Bals ((w.setCell ⟨g, i0 * 2, none⟩ (.int .i64 s.count)).setCell ⟨g, i0 * 2 + 1, none⟩ (.slice s.oa s.on s.oc)) (some ⟨g, 0, none⟩) n c (L.set i0 s) := by
  have hl := h.1
  have hbW := (hb.setCell (p := ⟨g, i0 * 2, none⟩) hg (.int .i64 s.count)).setCell (p := ⟨g, i0 * 2 + 1, none⟩) hg (.slice s.oa s.on s.oc)
  have hsW : Ints ((w.setCell ⟨g, i0 * 2, none⟩ (.int .i64 s.count)).setCell ⟨g, i0 * 2 + 1, none⟩ (.slice s.oa s.on s.oc)) s.oa s.on s.oc s.order := by
    obtain ⟨h1, h2, h3, h4⟩ := hs
    refine ⟨h1, h2, h3, ?_⟩
    rcases hsa with h0 | ⟨b, off, e, hne⟩
    · exact .inl h0
    · rcases h4 with h0 | ⟨b', off', e', hlt, hcell⟩
      · exact .inl h0
      · rw [e] at e'
        cases e'
        exact .inr ⟨b, off, e, by simpa using hlt, fun j hj => by rw [World.cell?_setCell_other _ _ _ _ (fun hh => hne (congrArg Addr.block hh).symm), World.cell?_setCell_other _ _ _ _ (fun hh => hne (congrArg Addr.block hh).symm)]; exact hcell j hj⟩
  refine ⟨by simp [hl], hnc, hcm, fun t ht => ?_, .inr ⟨g, 0, rfl, by simpa using hgs, fun j hj => ?_⟩⟩
  · rcases List.mem_or_eq_of_mem_set ht with h1 | h1
    · exact (h.2.2.2.1 t h1).later hbW
    · subst h1; exact hsW
  · rw [Nat.zero_add, balAt_set (by omega)]
    obtain ⟨c1, c2⟩ := hc j hj
    by_cases e : j = i0
    · subst e
      rw [if_pos rfl]
      refine ⟨?_, ?_⟩
      · rw [World.cell?_setCell_other _ _ _ _ (fun hh => by have := congrArg Addr.off hh; simp at this)]
        exact World.cell?_setCell_same' _ _ _ (by rw [c1]; rfl)
      · exact World.cell?_setCell_same' _ _ _ (by rw [World.cell?_setCell_other _ _ _ _ (fun hh => by have := congrArg Addr.off hh; simp at this), c2]; rfl)
    · rw [if_neg e]
      refine ⟨?_, ?_⟩
      · rw [World.cell?_setCell_other _ _ _ _ (fun hh => by have := congrArg Addr.off hh; simp at this; omega), World.cell?_setCell_other _ _ _ _ (fun hh => by have := congrArg Addr.off hh; simp at this; omega)]
        exact c1
      · rw [World.cell?_setCell_other _ _ _ _ (fun hh => by have := congrArg Addr.off hh; simp at this; omega), World.cell?_setCell_other _ _ _ _ (fun hh => by have := congrArg Addr.off hh; simp at this; omega)]
        exact c2
theorem good_made {n : Nat} {L : List Bal} (h1 : 0 < n) (h6 : n ≤ 6) (hk : L.length ≤ 30) (h : ∀ g ∈ L, g.on = n ∧ g.order.Perm (upL n) ∧ 0 ≤ g.count ∧ g.count ≤ 6) : Good n L := by
  refine ⟨h1, h6, hk, fun j hj => ?_⟩
  have hm : balAt L j ∈ L := by
    unfold balAt
    rw [List.getElem?_eq_getElem hj]
    exact List.getElem_mem hj
  obtain ⟨_, g2, g3, g4⟩ := h _ hm
  exact ⟨ord_up g2, g3, by omega⟩
end Go.Proofs.Ytloandcndnmkhaa
