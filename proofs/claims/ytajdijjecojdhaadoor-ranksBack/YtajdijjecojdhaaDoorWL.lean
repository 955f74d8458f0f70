import Derived.Test.YtajdijjecojdhaaDoorWK
namespace Go.Proofs.YtajdijjecojdhaaDoor
open Go.RowKit
theorem likesFrom_zero (l : List Int) (o : Int) : ∀ d k, l.length - k = d → likesFrom l o k = 0 → ∀ i, k ≤ i → i < l.length → 0 ≤ l[i]?.getD 0 ∧ l[i]?.getD 0 < o := by
  intro d
  induction d with
  | zero => intro k hk _ i h1 h2; omega
  | succ d ih =>
    intro k hk h i h1 h2
    rw [likesFrom_step (by omega)] at h
    split at h
    · omega
    · rename_i hc
      split at h
      · omega
      · by_cases e : i = k
        · rw [e]; omega
        · exact ih (k+1) (by omega) h i (by omega) h2
theorem mayFrom_zero (all : List Ag) (nL nR : Nat) : ∀ d k, all.length - k = d → mayFrom all nL nR k = 0 → ∀ i, k ≤ i → i < all.length → agE (agAt all i) (all.take i) (if i < nL then (nR : Int) else nL) = 0 := by
  intro d
  induction d with
  | zero => intro k hk _ i h1 h2; omega
  | succ d ih =>
    intro k hk h i h1 h2
    rw [mayFrom_step (by omega)] at h
    by_cases hc : agE (agAt all k) (all.take k) (if k < nL then (nR : Int) else nL) = 0
    · rw [if_pos hc] at h
      by_cases e : i = k
      · rw [e]; exact hc
      · exact ih (k+1) (by omega) h i (by omega) h2
    · rw [if_neg hc] at h
      exact absurd h hc
theorem agE_zero {g : Ag} {ahead : List Ag} {o : Int} (h : agE g ahead o = 0) : nameB g.name = true ∧ aidxFrom ahead g.name 0 < 0 ∧ 1 ≤ g.room ∧ g.room ≤ 4 ∧ likesFrom g.likes o 0 = 0 := by
  unfold agE at h
  split at h
  · omega
  · rename_i h1
    split at h
    · omega
    · split at h
      · omega
      · exact ⟨by simpa using h1, by omega, by omega, by omega, h⟩
theorem nameB_size {s : ByteArray} (h : nameB s = true) : s.size ≤ 12 := by
  unfold nameB at h
  simp at h
  omega
theorem agAt_left (lL lR : List Ag) {k : Nat} (h : k < lL.length) : agAt (lL ++ lR) k = lL[k] := by
  unfold agAt; rw [List.getElem?_append_left h, List.getElem?_eq_getElem h]; rfl
theorem agAt_right (lL lR : List Ag) {k : Nat} (h : k < lR.length) : agAt (lL ++ lR) (lL.length + k) = lR[k] := by
  unfold agAt; rw [List.getElem?_append_right (by omega)]; simp [List.getElem?_eq_getElem h]
theorem fair_of {g : Ag} {ahead others : List Ag} (h : agE g ahead (others.length : Int) = 0) (hl : g.likes.length ≤ 500) : Fair others g := by
  obtain ⟨h1, _, h2, h3, h4⟩ := agE_zero h
  have := nameB_size h1
  refine ⟨h2, h3, by omega, hl, fun k hk => ?_⟩
  obtain ⟨i, hi, rfl⟩ := List.getElem_of_mem hk
  have := likesFrom_zero g.likes _ _ 0 rfl h4 i (Nat.zero_le _) hi
  rw [List.getElem?_eq_getElem hi] at this
  simpa using this
theorem may_zero {lL lR : List Ag} (h : mayE lL lR = 0) : lL.length ≤ 6 ∧ lR.length ≤ 6 ∧ mayFrom (lL ++ lR) lL.length lR.length 0 = 0 := by
  unfold mayE at h
  split at h
  · omega
  · exact ⟨by omega, by omega, h⟩
theorem fair_left {lL lR : List Ag} (h : mayE lL lR = 0) (hl : ∀ g ∈ lL, g.likes.length ≤ 500) : ∀ g ∈ lL, Fair lR g := by
  intro g hg
  obtain ⟨i, hi, rfl⟩ := List.getElem_of_mem hg
  have h1 := mayFrom_zero _ _ _ _ 0 rfl (may_zero h).2.2 i (Nat.zero_le _) (by simp; omega)
  rw [if_pos hi, agAt_left lL lR hi] at h1
  exact fair_of h1 (hl _ hg)
theorem fair_right {lL lR : List Ag} (h : mayE lL lR = 0) (hl : ∀ g ∈ lR, g.likes.length ≤ 500) : ∀ g ∈ lR, Fair lL g := by
  intro g hg
  obtain ⟨i, hi, rfl⟩ := List.getElem_of_mem hg
  have h1 := mayFrom_zero _ _ _ _ 0 rfl (may_zero h).2.2 (lL.length + i) (Nat.zero_le _) (by simp; omega)
  rw [if_neg (by omega), agAt_right lL lR hi] at h1
  exact fair_of h1 (hl _ hg)
def leftW : List UInt8 := [108, 101, 102, 116]
def rightW : List UInt8 := [114, 105, 103, 104, 116]
def textB (lL lR : List Ag) : List UInt8 := sideB leftW lR lL ++ sideB rightW lL lR
def printB (lL lR : List Ag) : List UInt8 := if mayE lL lR = 0 then textB lL lR else []
theorem new_builder (w : World) : Lib.IsBuilderF 43 5 w.heap.size w.heap.size (Lib.byteCells []) (w.alloc (.cells #[.pointer none, .slice none 0 0] 43)) :=
  .inl ⟨Nat.le_refl _, _, heap_alloc_new _ _, World.ownsRowF_of (World.ownsRow_nil _ _ _ _), by simp [Value.ownBlock]⟩
theorem ret_text {a b : List UInt8} {x y : Int} (h : a = b) (g : x = y) : Ending.returned (.tuple #[.string ⟨a.toArray⟩, .int .i64 x]) = .returned (.tuple #[.string ⟨b.toArray⟩, .int .i64 y]) := by rw [h, g]
set_option maxRecDepth 100000 in
set_option maxHeartbeats 2000000 in
theorem print_any (aL : Option Addr) (nL cL : Nat) (lL : List Ag) (aR : Option Addr) (nR cR : Nat) (lR : List Ag) (w : World) (hL : Ags w aL nL cL lL) (hR : Ags w aR nR cR lR)
    (hlL : ∀ g ∈ lL, g.likes.length ≤ 500) (hlR : ∀ g ∈ lR, g.likes.length ≤ 500) :
    Calls Tryd.prog 7 #[.agg #[.slice aL nL cL, .slice aR nR cR]] w fun e w' => e = .returned (.tuple #[.string ⟨(printB lL lR).toArray⟩, .int .i64 (mayE lL lR)]) ∧ Below w.heap.size w w' := by
  have hb0 : Below w.heap.size w (w.alloc (.cells #[.slice aL nL cL, .slice aR nR cR] 24)) := by go_grown
  by_cases hz : mayE lL lR = 0
  · have hfL := fair_left hz hlL
    have hfR := fair_right hz hlR
    have hn := may_zero hz
    have HZ := hide hz
    have hnL : nL ≤ 500 := by have := hL.1; omega
    have hnR : nR ≤ 500 := by have := hR.1; omega
    have HFIN : Hid (printB lL lR = textB lL lR) := by unfold printB Hid; rw [if_pos hz]
    clear hz hn
    go_enter Tryd.func7, Tryd.ntmps7
    go_wp2_with fail
    refine (may_any aL nL cL lL aR nR cR lR _ (hL.later hb0) (hR.later hb0)).mono ?_
    rintro e w1 ⟨rfl, hb1⟩
    rw [unhide HZ]
    have hbw : Below w.heap.size w w1 := hb0.trans (hb1.mono hb0.size)
    have e0 : w1.cell? ⟨w.heap.size, 0, none⟩ = some (.slice aL nL cL) := (hb1.cell (p := ⟨w.heap.size, 0, none⟩) (by simp)).trans (by simp)
    have e1 : w1.cell? ⟨w.heap.size, 1, none⟩ = some (.slice aR nR cR) := (hb1.cell (p := ⟨w.heap.size, 1, none⟩) (by simp)).trans (by simp)
    have hsz1 : w.heap.size < w1.heap.size := by have := hb1.size; simp at this; omega
    have hL1 := hL.later hbw
    have hR1 := hR.later hbw
    have hI0 := new_builder w1
    have hb2 : Below w1.heap.size w1 (w1.alloc (.cells #[.pointer none, .slice none 0 0] 43)) := by go_grown
    have hoL : ∀ g ∈ lL, g.name.size ≤ 500 := fun g hg => (hfL g hg).2.2.1
    have hoR : ∀ g ∈ lR, g.name.size ≤ 500 := fun g hg => (hfR g hg).2.2.1
    have hsl := sideB_length leftW (by decide) lR hoR lL hfL
    have hll : lL.length ≤ 500 := by have := hL.1; omega
    go_wp2_with fail
    refine (printSide_any w1.heap.size [] _ aL nL cL lL aR nR cR lR w1 _ hb2 hL1 hR1 hI0 hnL (by decide) (by decide) hfL hoR).mono ?_
    rintro e w3 ⟨rfl, hI3, hb3⟩
    have d0 := (hb3.cell (p := ⟨w.heap.size, 0, none⟩) hsz1).trans e0
    have d1 := (hb3.cell (p := ⟨w.heap.size, 1, none⟩) hsz1).trans e1
    go_wp2_with fail
    refine (printSide_any w1.heap.size _ _ aR nR cR lR aL nL cL lL w1 _ hb3 hR1 hL1 hI3 hnR (by rw [List.nil_append]; exact Nat.le_trans hsl (by omega)) (by decide) hfR hoL).mono ?_
    rintro e w4 ⟨rfl, hI4, hb4⟩
    go_wp2_with fail
    refine (Tryd.Builder_String_any_k w1.heap.size w1.heap.size _ _ hI4 hb4.size).mono ?_
    rintro e w5 ⟨rfl, _, hb5, _⟩
    go_wp2
    go_ret2
    refine ⟨ret_text ?_ (unhide HZ).symm, hbw.trans ((hb4.trans hb5).mono hbw.size)⟩
    rw [unhide HFIN]
    rfl
  · have hzb : (mayE lL lR != 0) = true := by simpa using hz
    have HFIN : Hid (printB lL lR = []) := by unfold printB Hid; rw [if_neg hz]
    go_enter Tryd.func7, Tryd.ntmps7
    go_wp2_with fail
    refine (may_any aL nL cL lL aR nR cR lR _ (hL.later hb0) (hR.later hb0)).mono ?_
    rintro e w1 ⟨rfl, hb1⟩
    go_wp2
    go_ret2
    exact ⟨ret_text (unhide HFIN).symm rfl, hb0.trans (hb1.mono hb0.size)⟩
end Go.Proofs.YtajdijjecojdhaaDoor
