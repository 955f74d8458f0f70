import Derived.Test.YtodbnjainpjkcaaQQ
namespace Go.Proofs.Ytodbnjainpjkcaa
open Go.RowKit
def AllFound (lL lR : List Ag) (w : World) (e : Ending) (w' : World) : Prop :=
  ∃ a n c L, e = .returned (two (.slice a n c) 0) ∧ Lsts w' a n c L ∧ lists L = progF lL lR lL.length [] ∧ Below w.heap.size w w'
set_option maxRecDepth 100000 in
set_option maxHeartbeats 4000000 in
theorem all_ok (aL : Option Addr) (nL cL : Nat) (lL : List Ag) (aR : Option Addr) (nR cR : Nat) (lR : List Ag) (w : World) (hL : Ags w aL nL cL lL) (hR : Ags w aR nR cR lR) (hfL : ∀ g ∈ lL, g.ln ≤ 500) (hfR : ∀ g ∈ lR, g.ln ≤ 500) (hz : matchE lL lR = 0) :
    Calls Try.prog 15 #[.agg #[.slice aL nL cL, .slice aR nR cR]] w fun e w' => AllFound lL lR w e w' := by
  have hmf : ∀ (fn : Fn) (first cap : Array Value) (w : World), (Instr.makeFunc fn first cap).run Try.prog w = .ok (.func fn first cap) w := fun _ _ _ _ => rfl
  have h6 := may_six (match_may hz)
  have hsix : nL ≤ 6 := by have := hL.1; omega
  have hsixR : nR ≤ 6 := by have := hR.1; omega
  obtain ⟨wA, hwA⟩ : ∃ y, y = w.alloc (.cells #[.slice aL nL cL, .slice aR nR cR] 26) := ⟨_, rfl⟩
  have hbA : Below w.heap.size w wA := by rw [hwA]; go_grown
  have p0a : wA.cell? ⟨w.heap.size, 0, none⟩ = some (.slice aL nL cL) := by rw [hwA]; simp
  have p1a : wA.cell? ⟨w.heap.size, 1, none⟩ = some (.slice aR nR cR) := by rw [hwA]; simp
  have HW := hide hwA
  clear hwA
  go_enter Try.func15, Try.ntmps15
  go_wp2_with fail
  rw [← unhide HW]
  refine (mmay_any aL nL cL lL aR nR cR lR wA (hL.later hbA) (hR.later hbA)).mono ?_
  rintro e w1 ⟨rfl, hb1⟩
  rw [hz]
  clear hz
  have hbw1 := hbA.trans (hb1.mono hbA.size)
  have p0b := (hb1.cell (p := ⟨w.heap.size, 0, none⟩) (World.block_lt_of_cell? wA _ p0a)).trans p0a
  have p1b := (hb1.cell (p := ⟨w.heap.size, 1, none⟩) (World.block_lt_of_cell? wA _ p1a)).trans p1a
  have hBp : w.heap.size < w1.heap.size := World.block_lt_of_cell? w1 _ p0b
  clear p0a p1a
  go_wp2_with fail
  obtain ⟨w2, hw2⟩ : ∃ y, y = w1.alloc (.cells #[.slice none 0 0] 39) := ⟨_, rfl⟩
  have hb2 : Below w1.heap.size w1 w2 := by rw [hw2]; go_grown
  have ca2 : w2.cell? ⟨w1.heap.size, 0, none⟩ = some (.slice none 0 0) := by rw [hw2]; simp
  have fa2 : w2.frozen? ⟨w1.heap.size, 0, none⟩ = false := by rw [hw2]; simp
  have hs2 : w1.heap.size < w2.heap.size := World.block_lt_of_cell? w2 _ ca2
  rw [← hw2]
  clear hw2
  refine (alone_lt aL nL cL aR nR cR w2 hsix).mono ?_
  rintro e w3 ⟨g, rfl, hrow, hg, hgl, hb3⟩
  have hb13 := hb2.trans (hb3.mono hb2.size)
  have ca3 := (hb3.cell (p := ⟨w1.heap.size, 0, none⟩) hs2).trans ca2
  have fa3 := (hb3.frozen (p := ⟨w1.heap.size, 0, none⟩) hs2).trans fa2
  go_wp2_with fail
  obtain ⟨w4, hw4⟩ : ∃ y, y = (w3.alloc (.cells #[.slice (some ⟨g, 0, none⟩) nL nL] 22)).alloc (.cells #[.nilFunc] 65) := ⟨_, rfl⟩
  have hb4 : Below w3.heap.size w3 w4 := by rw [hw4]; go_grown
  have cw4 : w4.cell? ⟨w3.heap.size, 0, none⟩ = some (.slice (some ⟨g, 0, none⟩) nL nL) := by rw [hw4]; simp
  have cs4 : w4.cell? ⟨w3.heap.size + 1, 0, none⟩ = some .nilFunc := by rw [hw4]; simp
  have fs4 : w4.frozen? ⟨w3.heap.size + 1, 0, none⟩ = false := by rw [hw4]; simp
  have hz4 : w4.heap.size = w3.heap.size + 2 := by rw [hw4]; simp
  rw [← hw4]
  clear hw4
  rw [run_store _ _ _ _ _ (by rfl), cs4]
  simp only [fs4]
  rw [if_neg (by decide)]
  simp only [Result.andThen_ok]
  have hb14 := hb13.trans (hb4.mono hb13.size)
  have hr3 : Row w1.heap.size w3 (some ⟨g, 0, none⟩) nL (atL (fullOf nL [])) := by
    rcases hrow with h | ⟨q, r1, r2, r3, r4, r5⟩
    · exact .inl h
    · cases r1
      refine .inr ⟨g, rfl, by omega, r3, fun j hj => ?_, r5⟩
      rw [r4 j hj]
      unfold fullOf atL
      simp [hj]
  have hS : St w1 nL g w3.heap.size w.heap.size w1.heap.size (w3.heap.size + 1) (w3.heap.size + 2) (w4.setCell ⟨w3.heap.size + 1, 0, none⟩ (.func (.func 39) #[] #[.pointer (some ⟨w3.heap.size, 0, none⟩), .pointer (some ⟨w.heap.size, 0, none⟩), .pointer (some ⟨w1.heap.size, 0, none⟩), .pointer (some ⟨w3.heap.size + 1, 0, none⟩)])) (fullOf nL []) (.slice none 0 0) [] := by
    have h13 := hb13.size
    refine ⟨hb14.setCell (by show _ ≤ w3.heap.size + 1; omega) _, ?_, World.cell?_setCell_same' _ _ _ (by rw [cs4]; rfl), (hr3.later hb4).far (grownBy_set w4 (w3.heap.size + 1) 0 _) (by omega), ?_, ?_, World.ownsRow_nil _ _ _ _, by simp [World.setCell]; omega, fun s hs => by cases hs⟩
    · rw [World.cell?_setCell_far _ _ _ _ (by simp)]; exact cw4
    · rw [World.cell?_setCell_far _ _ _ _ (by simp; omega)]; exact (hb4.cell (p := ⟨w1.heap.size, 0, none⟩) (by show w1.heap.size < w3.heap.size; omega)).trans ca3
    · rw [World.frozen?_setCell]; exact (hb4.frozen (p := ⟨w1.heap.size, 0, none⟩) (by show w1.heap.size < w3.heap.size; omega)).trans fa3
  have cs5 := hS.cs
  generalize w4.setCell ⟨w3.heap.size + 1, 0, none⟩ (.func (.func 39) #[] #[.pointer (some ⟨w3.heap.size, 0, none⟩), .pointer (some ⟨w.heap.size, 0, none⟩), .pointer (some ⟨w1.heap.size, 0, none⟩), .pointer (some ⟨w3.heap.size + 1, 0, none⟩)]) = w5 at *
  have hpw : 0 + 7 ^ lL.length ≤ 1000000 := Nat.le_trans (Nat.le_of_eq (Nat.zero_add _)) (Nat.le_trans (Nat.pow_le_pow_right (by omega) h6.1) (by decide))
  have hcall := settle_any lL lR w1 aL nL cL aR nR cR (hL.later hbw1) (hR.later hbw1) hfL hfR hsix hsixR g w3.heap.size w.heap.size w1.heap.size (w3.heap.size + 1) (w3.heap.size + 2) p0b p1b (by omega) (by have := hb13.size; omega) (by omega) (by omega) (by omega) (by omega) (by have := hb13.size; omega) (Nat.le_refl _) (by omega) (by omega) (by omega) lL.length 0 [] w5 (.slice none 0 0) [] rfl (by omega) hS hpw
  have HC := hide hcall
  clear hcall hS ca2 fa2 ca3 fa3 cw4 cs4 fs4 hrow hr3
  go_wp2_with fail
  refine (unhide HC).mono ?_
  rintro e w6 ⟨rfl, v, L, hS6, hl6⟩
  obtain ⟨a, c, hv⟩ := owns_form hS6.own
  subst hv
  have ca6 := hS6.ca
  have hLs := Lsts.of_owns hS6.own (fun s hs => (hS6.lst s hs).1)
  obtain ⟨a', c', hv', hLs'⟩ := hLs
  cases hv'
  have hb6 := hS6.below
  have HL6 := hide hl6
  clear hS6 hl6
  go_wp2
  go_ret2
  exact ⟨a, _, c, L, rfl, hLs', by rw [unhide HL6]; rfl, hbw1.trans (hb6.mono hbw1.size)⟩
end Go.Proofs.Ytodbnjainpjkcaa
