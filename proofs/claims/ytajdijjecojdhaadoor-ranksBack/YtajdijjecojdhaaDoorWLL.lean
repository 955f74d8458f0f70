import Derived.Test.YtajdijjecojdhaaDoorWCC
namespace Go.Proofs.YtajdijjecojdhaaDoor
open Go.RowKit
theorem Strz.rest2 {w : World} {b off n c : Nat} {x y : ByteArray} {t : List ByteArray} (h : Strz w (some ⟨b, off, none⟩) (n + 2) (c + 2) (x :: y :: t)) (a' : Option Addr) (ha : n = 0 ∨ a' = some ⟨b, off + 2, none⟩) : Strz w a' n c t :=
  (h.rest (some ⟨b, off + 1, none⟩) (Or.inr rfl)).rest a' ha
set_option maxRecDepth 100000 in
set_option maxHeartbeats 8000000 in
theorem take0_name (R b off n c : Nat) (x0 x1 : ByteArray) (t : List ByteArray) (aL : Option Addr) (nL cL : Nat) (aR : Option Addr) (nR cR : Nat) (vN : Value) (w : World)
    (h : Strz w (some ⟨b, off, none⟩) (n + 2) (c + 2) (x0 :: x1 :: t)) (h0 : (x0.toList == [108, 101, 102, 116]) = true) (h0' : (x0.toList == [114, 105, 103, 104, 116]) = false)
    (hR : w.heap[R]? = some (.cells #[.slice aL nL cL, .slice aR nR cR, vN] 58 (0, 0))) (h1 : nameB x1 = false) :
    Calls Tryd.prog 29 #[.pointer (some ⟨R, 0, none⟩), .slice (some ⟨b, off, none⟩) (n + 2) (c + 2)] w fun e w' => e = .panicked [{ v := thrown 3, recovered := false }] ∧ Below w.heap.size w w' := by
  have HST := hide h
  obtain ⟨hn, hc, hm, hs, hh⟩ := h
  unfold maxLen at hm
  rcases hh with hz | ⟨b', off', e, hlt, hcell⟩
  · omega
  cases e
  have q0 : w.cell? ⟨b, off, none⟩ = some (.string x0) := hcell 0 (by omega)
  have q1 : w.cell? ⟨b, off + 1, none⟩ = some (.string x1) := hcell 1 (by omega)
  have hs1 : x1.size ≤ maxLen := hs x1 (by simp)
  have hRlt : R < w.heap.size := (Array.getElem?_eq_some_iff.1 hR).1
  have r0 : w.cell? ⟨R, 0, none⟩ = some (.slice aL nL cL) := by unfold World.cell?; simp [hR]
  have r1 : w.cell? ⟨R, 1, none⟩ = some (.slice aR nR cR) := by unfold World.cell?; simp [hR]
  clear hcell hn hs
  have H1 := hide h1
  clear h1
  go_enter Tryd.func29, Tryd.ntmps29
  go_wp2_with fail
  refine (need_yes 3 _).mono ?_
  rintro e wk1 ⟨rfl, hw⟩
  subst wk1
  have hd2 : decide ((1 : Int) < (n : Int) + 2) = true := decide_eq_true (by omega)
  go_wp2_with fail
  refine (need_yes 4 _).mono ?_
  rintro e wk2 ⟨rfl, hw⟩
  subst wk2
  go_wp2_with fail
  refine (isName_any x1 _ hs1).mono ?_
  rintro e wn ⟨rfl, hw⟩
  subst wn
  rw [unhide H1]
  go_wp2_with fail
  refine (need_no 3 _).mono ?_
  rintro e wk3 ⟨rfl, hw⟩
  subst wk3
  go_wp2
  exact ⟨rfl, rfl, Below.refl _ _⟩
set_option maxRecDepth 100000 in
set_option maxHeartbeats 8000000 in
theorem take1_name (R b off n c : Nat) (x0 x1 : ByteArray) (t : List ByteArray) (aL : Option Addr) (nL cL : Nat) (aR : Option Addr) (nR cR : Nat) (vN : Value) (w : World)
    (h : Strz w (some ⟨b, off, none⟩) (n + 2) (c + 2) (x0 :: x1 :: t)) (h0 : (x0.toList == [108, 101, 102, 116]) = false) (h0' : (x0.toList == [114, 105, 103, 104, 116]) = true)
    (hR : w.heap[R]? = some (.cells #[.slice aL nL cL, .slice aR nR cR, vN] 58 (0, 0))) (h1 : nameB x1 = false) :
    Calls Tryd.prog 29 #[.pointer (some ⟨R, 0, none⟩), .slice (some ⟨b, off, none⟩) (n + 2) (c + 2)] w fun e w' => e = .panicked [{ v := thrown 3, recovered := false }] ∧ Below w.heap.size w w' := by
  have HST := hide h
  obtain ⟨hn, hc, hm, hs, hh⟩ := h
  unfold maxLen at hm
  rcases hh with hz | ⟨b', off', e, hlt, hcell⟩
  · omega
  cases e
  have q0 : w.cell? ⟨b, off, none⟩ = some (.string x0) := hcell 0 (by omega)
  have q1 : w.cell? ⟨b, off + 1, none⟩ = some (.string x1) := hcell 1 (by omega)
  have hs1 : x1.size ≤ maxLen := hs x1 (by simp)
  have hRlt : R < w.heap.size := (Array.getElem?_eq_some_iff.1 hR).1
  have r0 : w.cell? ⟨R, 0, none⟩ = some (.slice aL nL cL) := by unfold World.cell?; simp [hR]
  have r1 : w.cell? ⟨R, 1, none⟩ = some (.slice aR nR cR) := by unfold World.cell?; simp [hR]
  clear hcell hn hs
  have H1 := hide h1
  clear h1
  go_enter Tryd.func29, Tryd.ntmps29
  go_wp2_with fail
  refine (need_yes 3 _).mono ?_
  rintro e wk1 ⟨rfl, hw⟩
  subst wk1
  have hd2 : decide ((1 : Int) < (n : Int) + 2) = true := decide_eq_true (by omega)
  go_wp2_with fail
  refine (need_yes 4 _).mono ?_
  rintro e wk2 ⟨rfl, hw⟩
  subst wk2
  go_wp2_with fail
  refine (isName_any x1 _ hs1).mono ?_
  rintro e wn ⟨rfl, hw⟩
  subst wn
  rw [unhide H1]
  go_wp2_with fail
  refine (need_no 3 _).mono ?_
  rintro e wk3 ⟨rfl, hw⟩
  subst wk3
  go_wp2
  exact ⟨rfl, rfl, Below.refl _ _⟩
set_option maxRecDepth 100000 in
set_option maxHeartbeats 8000000 in
theorem take0_left (R b off n c : Nat) (x0 x1 : ByteArray) (t : List ByteArray) (aL : Option Addr) (nL cL : Nat) (lL : List Ag) (aR : Option Addr) (nR cR : Nat) (vN : Value) (w : World)
    (h : Strz w (some ⟨b, off, none⟩) (n + 2) (c + 2) (x0 :: x1 :: t)) (h0 : (x0.toList == [108, 101, 102, 116]) = true) (h0' : (x0.toList == [114, 105, 103, 104, 116]) = false)
    (hR : w.heap[R]? = some (.cells #[.slice aL nL cL, .slice aR nR cR, vN] 58 (0, 0))) (hL : Ags w aL nL cL lL) (h1 : nameB x1 = true) (g1 : ¬ aidxFrom lL x1 0 < 0) :
    Calls Tryd.prog 29 #[.pointer (some ⟨R, 0, none⟩), .slice (some ⟨b, off, none⟩) (n + 2) (c + 2)] w fun e w' => e = .panicked [{ v := thrown 6, recovered := false }] ∧ Below w.heap.size w w' := by
  have HST := hide h
  obtain ⟨hn, hc, hm, hs, hh⟩ := h
  unfold maxLen at hm
  rcases hh with hz | ⟨b', off', e, hlt, hcell⟩
  · omega
  cases e
  have q0 : w.cell? ⟨b, off, none⟩ = some (.string x0) := hcell 0 (by omega)
  have q1 : w.cell? ⟨b, off + 1, none⟩ = some (.string x1) := hcell 1 (by omega)
  have hs1 : x1.size ≤ maxLen := hs x1 (by simp)
  have hRlt : R < w.heap.size := (Array.getElem?_eq_some_iff.1 hR).1
  have r0 : w.cell? ⟨R, 0, none⟩ = some (.slice aL nL cL) := by unfold World.cell?; simp [hR]
  have r1 : w.cell? ⟨R, 1, none⟩ = some (.slice aR nR cR) := by unfold World.cell?; simp [hR]
  clear hcell hn hs
  have H1 := hide h1
  clear h1
  go_enter Tryd.func29, Tryd.ntmps29
  go_wp2_with fail
  refine (need_yes 3 _).mono ?_
  rintro e wk1 ⟨rfl, hw⟩
  subst wk1
  have hd2 : decide ((1 : Int) < (n : Int) + 2) = true := decide_eq_true (by omega)
  go_wp2_with fail
  refine (need_yes 4 _).mono ?_
  rintro e wk2 ⟨rfl, hw⟩
  subst wk2
  go_wp2_with fail
  refine (isName_any x1 _ hs1).mono ?_
  rintro e wn ⟨rfl, hw⟩
  subst wn
  rw [unhide H1]
  go_wp2_with fail
  refine (need_yes 3 _).mono ?_
  rintro e wk3 ⟨rfl, hw⟩
  subst wk3
  go_wp2_with fail
  refine (placeN_any aL nL cL lL x1 _ hL).mono ?_
  rintro e w5 ⟨rfl, hb5⟩
  have s0 := (hb5.cell (p := ⟨R, 0, none⟩) hRlt).trans r0
  have s1 := (hb5.cell (p := ⟨R, 1, none⟩) hRlt).trans r1
  have gd1 : decide (aidxFrom lL x1 0 < 0) = false := decide_eq_false (by omega)
  go_wp2_with fail
  refine (need_no 6 _).mono ?_
  rintro e wk4 ⟨rfl, hw⟩
  subst wk4
  go_wp2
  exact ⟨rfl, rfl, hb5⟩
set_option maxRecDepth 100000 in
set_option maxHeartbeats 8000000 in
theorem take1_left (R b off n c : Nat) (x0 x1 : ByteArray) (t : List ByteArray) (aL : Option Addr) (nL cL : Nat) (lL : List Ag) (aR : Option Addr) (nR cR : Nat) (vN : Value) (w : World)
    (h : Strz w (some ⟨b, off, none⟩) (n + 2) (c + 2) (x0 :: x1 :: t)) (h0 : (x0.toList == [108, 101, 102, 116]) = false) (h0' : (x0.toList == [114, 105, 103, 104, 116]) = true)
    (hR : w.heap[R]? = some (.cells #[.slice aL nL cL, .slice aR nR cR, vN] 58 (0, 0))) (hL : Ags w aL nL cL lL) (h1 : nameB x1 = true) (g1 : ¬ aidxFrom lL x1 0 < 0) :
    Calls Tryd.prog 29 #[.pointer (some ⟨R, 0, none⟩), .slice (some ⟨b, off, none⟩) (n + 2) (c + 2)] w fun e w' => e = .panicked [{ v := thrown 6, recovered := false }] ∧ Below w.heap.size w w' := by
  have HST := hide h
  obtain ⟨hn, hc, hm, hs, hh⟩ := h
  unfold maxLen at hm
  rcases hh with hz | ⟨b', off', e, hlt, hcell⟩
  · omega
  cases e
  have q0 : w.cell? ⟨b, off, none⟩ = some (.string x0) := hcell 0 (by omega)
  have q1 : w.cell? ⟨b, off + 1, none⟩ = some (.string x1) := hcell 1 (by omega)
  have hs1 : x1.size ≤ maxLen := hs x1 (by simp)
  have hRlt : R < w.heap.size := (Array.getElem?_eq_some_iff.1 hR).1
  have r0 : w.cell? ⟨R, 0, none⟩ = some (.slice aL nL cL) := by unfold World.cell?; simp [hR]
  have r1 : w.cell? ⟨R, 1, none⟩ = some (.slice aR nR cR) := by unfold World.cell?; simp [hR]
  clear hcell hn hs
  have H1 := hide h1
  clear h1
  go_enter Tryd.func29, Tryd.ntmps29
  go_wp2_with fail
  refine (need_yes 3 _).mono ?_
  rintro e wk1 ⟨rfl, hw⟩
  subst wk1
  have hd2 : decide ((1 : Int) < (n : Int) + 2) = true := decide_eq_true (by omega)
  go_wp2_with fail
  refine (need_yes 4 _).mono ?_
  rintro e wk2 ⟨rfl, hw⟩
  subst wk2
  go_wp2_with fail
  refine (isName_any x1 _ hs1).mono ?_
  rintro e wn ⟨rfl, hw⟩
  subst wn
  rw [unhide H1]
  go_wp2_with fail
  refine (need_yes 3 _).mono ?_
  rintro e wk3 ⟨rfl, hw⟩
  subst wk3
  go_wp2_with fail
  refine (placeN_any aL nL cL lL x1 _ hL).mono ?_
  rintro e w5 ⟨rfl, hb5⟩
  have s0 := (hb5.cell (p := ⟨R, 0, none⟩) hRlt).trans r0
  have s1 := (hb5.cell (p := ⟨R, 1, none⟩) hRlt).trans r1
  have gd1 : decide (aidxFrom lL x1 0 < 0) = false := decide_eq_false (by omega)
  go_wp2_with fail
  refine (need_no 6 _).mono ?_
  rintro e wk4 ⟨rfl, hw⟩
  subst wk4
  go_wp2
  exact ⟨rfl, rfl, hb5⟩
set_option maxRecDepth 100000 in
set_option maxHeartbeats 8000000 in
theorem take0_right (R b off n c : Nat) (x0 x1 : ByteArray) (t : List ByteArray) (aL : Option Addr) (nL cL : Nat) (lL : List Ag) (aR : Option Addr) (nR cR : Nat) (lR : List Ag) (vN : Value) (w : World)
    (h : Strz w (some ⟨b, off, none⟩) (n + 2) (c + 2) (x0 :: x1 :: t)) (h0 : (x0.toList == [108, 101, 102, 116]) = true) (h0' : (x0.toList == [114, 105, 103, 104, 116]) = false)
    (hR : w.heap[R]? = some (.cells #[.slice aL nL cL, .slice aR nR cR, vN] 58 (0, 0))) (hL : Ags w aL nL cL lL) (hRt : Ags w aR nR cR lR) (h1 : nameB x1 = true) (g1 : aidxFrom lL x1 0 < 0) (g2 : ¬ aidxFrom lR x1 0 < 0) :
    Calls Tryd.prog 29 #[.pointer (some ⟨R, 0, none⟩), .slice (some ⟨b, off, none⟩) (n + 2) (c + 2)] w fun e w' => e = .panicked [{ v := thrown 6, recovered := false }] ∧ Below w.heap.size w w' := by
  have HST := hide h
  obtain ⟨hn, hc, hm, hs, hh⟩ := h
  unfold maxLen at hm
  rcases hh with hz | ⟨b', off', e, hlt, hcell⟩
  · omega
  cases e
  have q0 : w.cell? ⟨b, off, none⟩ = some (.string x0) := hcell 0 (by omega)
  have q1 : w.cell? ⟨b, off + 1, none⟩ = some (.string x1) := hcell 1 (by omega)
  have hs1 : x1.size ≤ maxLen := hs x1 (by simp)
  have hRlt : R < w.heap.size := (Array.getElem?_eq_some_iff.1 hR).1
  have r0 : w.cell? ⟨R, 0, none⟩ = some (.slice aL nL cL) := by unfold World.cell?; simp [hR]
  have r1 : w.cell? ⟨R, 1, none⟩ = some (.slice aR nR cR) := by unfold World.cell?; simp [hR]
  clear hcell hn hs
  have H1 := hide h1
  clear h1
  go_enter Tryd.func29, Tryd.ntmps29
  go_wp2_with fail
  refine (need_yes 3 _).mono ?_
  rintro e wk1 ⟨rfl, hw⟩
  subst wk1
  have hd2 : decide ((1 : Int) < (n : Int) + 2) = true := decide_eq_true (by omega)
  go_wp2_with fail
  refine (need_yes 4 _).mono ?_
  rintro e wk2 ⟨rfl, hw⟩
  subst wk2
  go_wp2_with fail
  refine (isName_any x1 _ hs1).mono ?_
  rintro e wn ⟨rfl, hw⟩
  subst wn
  rw [unhide H1]
  go_wp2_with fail
  refine (need_yes 3 _).mono ?_
  rintro e wk3 ⟨rfl, hw⟩
  subst wk3
  go_wp2_with fail
  refine (placeN_any aL nL cL lL x1 _ hL).mono ?_
  rintro e w5 ⟨rfl, hb5⟩
  have s0 := (hb5.cell (p := ⟨R, 0, none⟩) hRlt).trans r0
  have s1 := (hb5.cell (p := ⟨R, 1, none⟩) hRlt).trans r1
  go_wp2_with fail
  refine (placeN_any aR nR cR lR x1 _ (hRt.later hb5)).mono ?_
  rintro e w6 ⟨rfl, hb6⟩
  have hRlt5 : R < w5.heap.size := Nat.lt_of_lt_of_le hRlt hb5.size
  have u0 := (hb6.cell (p := ⟨R, 0, none⟩) hRlt5).trans s0
  have u1 := (hb6.cell (p := ⟨R, 1, none⟩) hRlt5).trans s1
  clear s0 s1
  have hb6w : Below w.heap.size w w6 := hb5.trans (hb6.mono hb5.size)
  have gd2 : decide (aidxFrom lR x1 0 < 0) = false := decide_eq_false (by omega)
  go_wp2_with fail
  refine (need_no 6 _).mono ?_
  rintro e wk4 ⟨rfl, hw⟩
  subst wk4
  go_wp2
  exact ⟨rfl, rfl, hb6w⟩
set_option maxRecDepth 100000 in
set_option maxHeartbeats 8000000 in
theorem take1_right (R b off n c : Nat) (x0 x1 : ByteArray) (t : List ByteArray) (aL : Option Addr) (nL cL : Nat) (lL : List Ag) (aR : Option Addr) (nR cR : Nat) (lR : List Ag) (vN : Value) (w : World)
    (h : Strz w (some ⟨b, off, none⟩) (n + 2) (c + 2) (x0 :: x1 :: t)) (h0 : (x0.toList == [108, 101, 102, 116]) = false) (h0' : (x0.toList == [114, 105, 103, 104, 116]) = true)
    (hR : w.heap[R]? = some (.cells #[.slice aL nL cL, .slice aR nR cR, vN] 58 (0, 0))) (hL : Ags w aL nL cL lL) (hRt : Ags w aR nR cR lR) (h1 : nameB x1 = true) (g1 : aidxFrom lL x1 0 < 0) (g2 : ¬ aidxFrom lR x1 0 < 0) :
    Calls Tryd.prog 29 #[.pointer (some ⟨R, 0, none⟩), .slice (some ⟨b, off, none⟩) (n + 2) (c + 2)] w fun e w' => e = .panicked [{ v := thrown 6, recovered := false }] ∧ Below w.heap.size w w' := by
  have HST := hide h
  obtain ⟨hn, hc, hm, hs, hh⟩ := h
  unfold maxLen at hm
  rcases hh with hz | ⟨b', off', e, hlt, hcell⟩
  · omega
  cases e
  have q0 : w.cell? ⟨b, off, none⟩ = some (.string x0) := hcell 0 (by omega)
  have q1 : w.cell? ⟨b, off + 1, none⟩ = some (.string x1) := hcell 1 (by omega)
  have hs1 : x1.size ≤ maxLen := hs x1 (by simp)
  have hRlt : R < w.heap.size := (Array.getElem?_eq_some_iff.1 hR).1
  have r0 : w.cell? ⟨R, 0, none⟩ = some (.slice aL nL cL) := by unfold World.cell?; simp [hR]
  have r1 : w.cell? ⟨R, 1, none⟩ = some (.slice aR nR cR) := by unfold World.cell?; simp [hR]
  clear hcell hn hs
  have H1 := hide h1
  clear h1
  go_enter Tryd.func29, Tryd.ntmps29
  go_wp2_with fail
  refine (need_yes 3 _).mono ?_
  rintro e wk1 ⟨rfl, hw⟩
  subst wk1
  have hd2 : decide ((1 : Int) < (n : Int) + 2) = true := decide_eq_true (by omega)
  go_wp2_with fail
  refine (need_yes 4 _).mono ?_
  rintro e wk2 ⟨rfl, hw⟩
  subst wk2
  go_wp2_with fail
  refine (isName_any x1 _ hs1).mono ?_
  rintro e wn ⟨rfl, hw⟩
  subst wn
  rw [unhide H1]
  go_wp2_with fail
  refine (need_yes 3 _).mono ?_
  rintro e wk3 ⟨rfl, hw⟩
  subst wk3
  go_wp2_with fail
  refine (placeN_any aL nL cL lL x1 _ hL).mono ?_
  rintro e w5 ⟨rfl, hb5⟩
  have s0 := (hb5.cell (p := ⟨R, 0, none⟩) hRlt).trans r0
  have s1 := (hb5.cell (p := ⟨R, 1, none⟩) hRlt).trans r1
  go_wp2_with fail
  refine (placeN_any aR nR cR lR x1 _ (hRt.later hb5)).mono ?_
  rintro e w6 ⟨rfl, hb6⟩
  have hRlt5 : R < w5.heap.size := Nat.lt_of_lt_of_le hRlt hb5.size
  have u0 := (hb6.cell (p := ⟨R, 0, none⟩) hRlt5).trans s0
  have u1 := (hb6.cell (p := ⟨R, 1, none⟩) hRlt5).trans s1
  clear s0 s1
  have hb6w : Below w.heap.size w w6 := hb5.trans (hb6.mono hb5.size)
  have gd2 : decide (aidxFrom lR x1 0 < 0) = false := decide_eq_false (by omega)
  go_wp2_with fail
  refine (need_no 6 _).mono ?_
  rintro e wk4 ⟨rfl, hw⟩
  subst wk4
  go_wp2
  exact ⟨rfl, rfl, hb6w⟩
set_option maxRecDepth 100000 in
set_option maxHeartbeats 8000000 in
theorem take0_full (R b off n c : Nat) (x0 x1 : ByteArray) (t : List ByteArray) (aL : Option Addr) (nL cL : Nat) (lL : List Ag) (aR : Option Addr) (nR cR : Nat) (lR : List Ag) (vN : Value) (w : World)
    (h : Strz w (some ⟨b, off, none⟩) (n + 2) (c + 2) (x0 :: x1 :: t)) (h0 : (x0.toList == [108, 101, 102, 116]) = true) (h0' : (x0.toList == [114, 105, 103, 104, 116]) = false)
    (hR : w.heap[R]? = some (.cells #[.slice aL nL cL, .slice aR nR cR, vN] 58 (0, 0))) (hL : Ags w aL nL cL lL) (hRt : Ags w aR nR cR lR) (h1 : nameB x1 = true) (g1 : aidxFrom lL x1 0 < 0) (g2 : aidxFrom lR x1 0 < 0) (g3 : ¬ nL < 6) :
    Calls Tryd.prog 29 #[.pointer (some ⟨R, 0, none⟩), .slice (some ⟨b, off, none⟩) (n + 2) (c + 2)] w fun e w' => e = .panicked [{ v := thrown 2, recovered := false }] ∧ Below w.heap.size w w' := by
  have HST := hide h
  obtain ⟨hn, hc, hm, hs, hh⟩ := h
  unfold maxLen at hm
  rcases hh with hz | ⟨b', off', e, hlt, hcell⟩
  · omega
  cases e
  have q0 : w.cell? ⟨b, off, none⟩ = some (.string x0) := hcell 0 (by omega)
  have q1 : w.cell? ⟨b, off + 1, none⟩ = some (.string x1) := hcell 1 (by omega)
  have hs1 : x1.size ≤ maxLen := hs x1 (by simp)
  have hRlt : R < w.heap.size := (Array.getElem?_eq_some_iff.1 hR).1
  have r0 : w.cell? ⟨R, 0, none⟩ = some (.slice aL nL cL) := by unfold World.cell?; simp [hR]
  have r1 : w.cell? ⟨R, 1, none⟩ = some (.slice aR nR cR) := by unfold World.cell?; simp [hR]
  clear hcell hn hs
  have H1 := hide h1
  clear h1
  go_enter Tryd.func29, Tryd.ntmps29
  go_wp2_with fail
  refine (need_yes 3 _).mono ?_
  rintro e wk1 ⟨rfl, hw⟩
  subst wk1
  have hd2 : decide ((1 : Int) < (n : Int) + 2) = true := decide_eq_true (by omega)
  go_wp2_with fail
  refine (need_yes 4 _).mono ?_
  rintro e wk2 ⟨rfl, hw⟩
  subst wk2
  go_wp2_with fail
  refine (isName_any x1 _ hs1).mono ?_
  rintro e wn ⟨rfl, hw⟩
  subst wn
  rw [unhide H1]
  go_wp2_with fail
  refine (need_yes 3 _).mono ?_
  rintro e wk3 ⟨rfl, hw⟩
  subst wk3
  go_wp2_with fail
  refine (placeN_any aL nL cL lL x1 _ hL).mono ?_
  rintro e w5 ⟨rfl, hb5⟩
  have s0 := (hb5.cell (p := ⟨R, 0, none⟩) hRlt).trans r0
  have s1 := (hb5.cell (p := ⟨R, 1, none⟩) hRlt).trans r1
  go_wp2_with fail
  refine (placeN_any aR nR cR lR x1 _ (hRt.later hb5)).mono ?_
  rintro e w6 ⟨rfl, hb6⟩
  have hRlt5 : R < w5.heap.size := Nat.lt_of_lt_of_le hRlt hb5.size
  have u0 := (hb6.cell (p := ⟨R, 0, none⟩) hRlt5).trans s0
  have u1 := (hb6.cell (p := ⟨R, 1, none⟩) hRlt5).trans s1
  clear s0 s1
  have hb6w : Below w.heap.size w w6 := hb5.trans (hb6.mono hb5.size)
  have gd2 : decide (aidxFrom lR x1 0 < 0) = true := decide_eq_true g2
  go_wp2_with fail
  refine (need_yes 6 _).mono ?_
  rintro e wk4 ⟨rfl, hw⟩
  subst wk4
  have gd3 : decide ((nL : Int) < 6) = false := decide_eq_false (by omega)
  go_wp2_with fail
  refine (need_no 2 _).mono ?_
  rintro e wk5 ⟨rfl, hw⟩
  subst wk5
  go_wp2
  exact ⟨rfl, rfl, hb6w⟩
set_option maxRecDepth 100000 in
set_option maxHeartbeats 8000000 in
theorem take1_full (R b off n c : Nat) (x0 x1 : ByteArray) (t : List ByteArray) (aL : Option Addr) (nL cL : Nat) (lL : List Ag) (aR : Option Addr) (nR cR : Nat) (lR : List Ag) (vN : Value) (w : World)
    (h : Strz w (some ⟨b, off, none⟩) (n + 2) (c + 2) (x0 :: x1 :: t)) (h0 : (x0.toList == [108, 101, 102, 116]) = false) (h0' : (x0.toList == [114, 105, 103, 104, 116]) = true)
    (hR : w.heap[R]? = some (.cells #[.slice aL nL cL, .slice aR nR cR, vN] 58 (0, 0))) (hL : Ags w aL nL cL lL) (hRt : Ags w aR nR cR lR) (h1 : nameB x1 = true) (g1 : aidxFrom lL x1 0 < 0) (g2 : aidxFrom lR x1 0 < 0) (g3 : ¬ nR < 6) :
    Calls Tryd.prog 29 #[.pointer (some ⟨R, 0, none⟩), .slice (some ⟨b, off, none⟩) (n + 2) (c + 2)] w fun e w' => e = .panicked [{ v := thrown 2, recovered := false }] ∧ Below w.heap.size w w' := by
  have HST := hide h
  obtain ⟨hn, hc, hm, hs, hh⟩ := h
  unfold maxLen at hm
  rcases hh with hz | ⟨b', off', e, hlt, hcell⟩
  · omega
  cases e
  have q0 : w.cell? ⟨b, off, none⟩ = some (.string x0) := hcell 0 (by omega)
  have q1 : w.cell? ⟨b, off + 1, none⟩ = some (.string x1) := hcell 1 (by omega)
  have hs1 : x1.size ≤ maxLen := hs x1 (by simp)
  have hRlt : R < w.heap.size := (Array.getElem?_eq_some_iff.1 hR).1
  have r0 : w.cell? ⟨R, 0, none⟩ = some (.slice aL nL cL) := by unfold World.cell?; simp [hR]
  have r1 : w.cell? ⟨R, 1, none⟩ = some (.slice aR nR cR) := by unfold World.cell?; simp [hR]
  clear hcell hn hs
  have H1 := hide h1
  clear h1
  go_enter Tryd.func29, Tryd.ntmps29
  go_wp2_with fail
  refine (need_yes 3 _).mono ?_
  rintro e wk1 ⟨rfl, hw⟩
  subst wk1
  have hd2 : decide ((1 : Int) < (n : Int) + 2) = true := decide_eq_true (by omega)
  go_wp2_with fail
  refine (need_yes 4 _).mono ?_
  rintro e wk2 ⟨rfl, hw⟩
  subst wk2
  go_wp2_with fail
  refine (isName_any x1 _ hs1).mono ?_
  rintro e wn ⟨rfl, hw⟩
  subst wn
  rw [unhide H1]
  go_wp2_with fail
  refine (need_yes 3 _).mono ?_
  rintro e wk3 ⟨rfl, hw⟩
  subst wk3
  go_wp2_with fail
  refine (placeN_any aL nL cL lL x1 _ hL).mono ?_
  rintro e w5 ⟨rfl, hb5⟩
  have s0 := (hb5.cell (p := ⟨R, 0, none⟩) hRlt).trans r0
  have s1 := (hb5.cell (p := ⟨R, 1, none⟩) hRlt).trans r1
  go_wp2_with fail
  refine (placeN_any aR nR cR lR x1 _ (hRt.later hb5)).mono ?_
  rintro e w6 ⟨rfl, hb6⟩
  have hRlt5 : R < w5.heap.size := Nat.lt_of_lt_of_le hRlt hb5.size
  have u0 := (hb6.cell (p := ⟨R, 0, none⟩) hRlt5).trans s0
  have u1 := (hb6.cell (p := ⟨R, 1, none⟩) hRlt5).trans s1
  clear s0 s1
  have hb6w : Below w.heap.size w w6 := hb5.trans (hb6.mono hb5.size)
  have gd2 : decide (aidxFrom lR x1 0 < 0) = true := decide_eq_true g2
  go_wp2_with fail
  refine (need_yes 6 _).mono ?_
  rintro e wk4 ⟨rfl, hw⟩
  subst wk4
  have gd3 : decide ((nR : Int) < 6) = false := decide_eq_false (by omega)
  go_wp2_with fail
  refine (need_no 2 _).mono ?_
  rintro e wk5 ⟨rfl, hw⟩
  subst wk5
  go_wp2
  exact ⟨rfl, rfl, hb6w⟩
set_option maxRecDepth 100000 in
set_option maxHeartbeats 8000000 in
theorem take0_room (R b off n c : Nat) (x0 x1 : ByteArray) (t : List ByteArray) (aL : Option Addr) (nL cL : Nat) (lL : List Ag) (aR : Option Addr) (nR cR : Nat) (lR : List Ag) (vN : Value) (w : World)
    (h : Strz w (some ⟨b, off, none⟩) (n + 2) (c + 2) (x0 :: x1 :: t)) (hne : ∀ x ∈ t, 0 < x.size ∧ x.size ≤ 281474976710656) (hg : Glob w) (h0 : (x0.toList == [108, 101, 102, 116]) = true) (h0' : (x0.toList == [114, 105, 103, 104, 116]) = false)
    (hR : w.heap[R]? = some (.cells #[.slice aL nL cL, .slice aR nR cR, vN] 58 (0, 0))) (hL : Ags w aL nL cL lL) (hRt : Ags w aR nR cR lR) (h1 : nameB x1 = true) (g1 : aidxFrom lL x1 0 < 0) (g2 : aidxFrom lR x1 0 < 0) (g3 : nL < 6) (k : Int) (hroom : roomP t = .error k) :
    Calls Tryd.prog 29 #[.pointer (some ⟨R, 0, none⟩), .slice (some ⟨b, off, none⟩) (n + 2) (c + 2)] w fun e w' => e = .panicked [{ v := thrown k, recovered := false }] ∧ Below w.heap.size w w' := by
  have HST := hide h
  obtain ⟨hn, hc, hm, hs, hh⟩ := h
  unfold maxLen at hm
  rcases hh with hz | ⟨b', off', e, hlt, hcell⟩
  · omega
  cases e
  have q0 : w.cell? ⟨b, off, none⟩ = some (.string x0) := hcell 0 (by omega)
  have q1 : w.cell? ⟨b, off + 1, none⟩ = some (.string x1) := hcell 1 (by omega)
  have hs1 : x1.size ≤ maxLen := hs x1 (by simp)
  have hRlt : R < w.heap.size := (Array.getElem?_eq_some_iff.1 hR).1
  have r0 : w.cell? ⟨R, 0, none⟩ = some (.slice aL nL cL) := by unfold World.cell?; simp [hR]
  have r1 : w.cell? ⟨R, 1, none⟩ = some (.slice aR nR cR) := by unfold World.cell?; simp [hR]
  clear hcell hn hs
  have H1 := hide h1
  clear h1
  go_enter Tryd.func29, Tryd.ntmps29
  go_wp2_with fail
  refine (need_yes 3 _).mono ?_
  rintro e wk1 ⟨rfl, hw⟩
  subst wk1
  have hd2 : decide ((1 : Int) < (n : Int) + 2) = true := decide_eq_true (by omega)
  go_wp2_with fail
  refine (need_yes 4 _).mono ?_
  rintro e wk2 ⟨rfl, hw⟩
  subst wk2
  go_wp2_with fail
  refine (isName_any x1 _ hs1).mono ?_
  rintro e wn ⟨rfl, hw⟩
  subst wn
  rw [unhide H1]
  go_wp2_with fail
  refine (need_yes 3 _).mono ?_
  rintro e wk3 ⟨rfl, hw⟩
  subst wk3
  go_wp2_with fail
  refine (placeN_any aL nL cL lL x1 _ hL).mono ?_
  rintro e w5 ⟨rfl, hb5⟩
  have s0 := (hb5.cell (p := ⟨R, 0, none⟩) hRlt).trans r0
  have s1 := (hb5.cell (p := ⟨R, 1, none⟩) hRlt).trans r1
  go_wp2_with fail
  refine (placeN_any aR nR cR lR x1 _ (hRt.later hb5)).mono ?_
  rintro e w6 ⟨rfl, hb6⟩
  have hRlt5 : R < w5.heap.size := Nat.lt_of_lt_of_le hRlt hb5.size
  have u0 := (hb6.cell (p := ⟨R, 0, none⟩) hRlt5).trans s0
  have u1 := (hb6.cell (p := ⟨R, 1, none⟩) hRlt5).trans s1
  clear s0 s1
  have hb6w : Below w.heap.size w w6 := hb5.trans (hb6.mono hb5.size)
  have gd2 : decide (aidxFrom lR x1 0 < 0) = true := decide_eq_true g2
  go_wp2_with fail
  refine (need_yes 6 _).mono ?_
  rintro e wk4 ⟨rfl, hw⟩
  subst wk4
  have gd3 : decide ((nL : Int) < 6) = true := decide_eq_true (by omega)
  go_wp2_with fail
  refine (need_yes 2 _).mono ?_
  rintro e wk5 ⟨rfl, hw⟩
  subst wk5
  have HSR : Hid (∀ a', (n = 0 ∨ a' = some ⟨b, off + 2, none⟩) → Strz w6 a' n c t) := fun a' ha => ((unhide HST).rest2 a' ha).later hb6w
  have HGL := hide (hg.later hb6w)
  have HNE := hide hne
  have HRO := hide hroom
  clear hne hroom HST hg
  go_wp2_with fail
  · have X1 : Strz w6 (some ⟨b, off, none⟩) n 0 t := by
      have X := unhide HSR (some ⟨b, off, none⟩) (Or.inl (by omega))
      rw [h] at X
      exact X
    refine (takeRoom_any (some ⟨b, off, none⟩) n 0 t w6 X1 (unhide HNE) (unhide HGL)).mono ?_
    clear X1
    rintro e w9 ⟨hb9, ⟨k', hk, rfl⟩ | ⟨r', t', a3, n3, c3, hk, _, _⟩⟩
    · obtain rfl : k' = k := by
        have hk' := (unhide HRO).symm.trans hk
        injection hk' with hk'
        exact hk'.symm
      clear hk
      go_wp2
      exact ⟨rfl, rfl, hb6w.trans (hb9.mono hb6w.size)⟩
    · have := (unhide HRO).symm.trans hk
      cases this
  · have X1 := unhide HSR (some ⟨b, off + 2, none⟩) (Or.inr rfl)
    refine (takeRoom_any (some ⟨b, off + 2, none⟩) n c t w6 X1 (unhide HNE) (unhide HGL)).mono ?_
    clear X1
    rintro e w9 ⟨hb9, ⟨k', hk, rfl⟩ | ⟨r', t', a3, n3, c3, hk, _, _⟩⟩
    · obtain rfl : k' = k := by
        have hk' := (unhide HRO).symm.trans hk
        injection hk' with hk'
        exact hk'.symm
      clear hk
      go_wp2
      exact ⟨rfl, rfl, hb6w.trans (hb9.mono hb6w.size)⟩
    · have := (unhide HRO).symm.trans hk
      cases this
set_option maxRecDepth 100000 in
set_option maxHeartbeats 8000000 in
theorem take1_room (R b off n c : Nat) (x0 x1 : ByteArray) (t : List ByteArray) (aL : Option Addr) (nL cL : Nat) (lL : List Ag) (aR : Option Addr) (nR cR : Nat) (lR : List Ag) (vN : Value) (w : World)
    (h : Strz w (some ⟨b, off, none⟩) (n + 2) (c + 2) (x0 :: x1 :: t)) (hne : ∀ x ∈ t, 0 < x.size ∧ x.size ≤ 281474976710656) (hg : Glob w) (h0 : (x0.toList == [108, 101, 102, 116]) = false) (h0' : (x0.toList == [114, 105, 103, 104, 116]) = true)
    (hR : w.heap[R]? = some (.cells #[.slice aL nL cL, .slice aR nR cR, vN] 58 (0, 0))) (hL : Ags w aL nL cL lL) (hRt : Ags w aR nR cR lR) (h1 : nameB x1 = true) (g1 : aidxFrom lL x1 0 < 0) (g2 : aidxFrom lR x1 0 < 0) (g3 : nR < 6) (k : Int) (hroom : roomP t = .error k) :
    Calls Tryd.prog 29 #[.pointer (some ⟨R, 0, none⟩), .slice (some ⟨b, off, none⟩) (n + 2) (c + 2)] w fun e w' => e = .panicked [{ v := thrown k, recovered := false }] ∧ Below w.heap.size w w' := by
  have HST := hide h
  obtain ⟨hn, hc, hm, hs, hh⟩ := h
  unfold maxLen at hm
  rcases hh with hz | ⟨b', off', e, hlt, hcell⟩
  · omega
  cases e
  have q0 : w.cell? ⟨b, off, none⟩ = some (.string x0) := hcell 0 (by omega)
  have q1 : w.cell? ⟨b, off + 1, none⟩ = some (.string x1) := hcell 1 (by omega)
  have hs1 : x1.size ≤ maxLen := hs x1 (by simp)
  have hRlt : R < w.heap.size := (Array.getElem?_eq_some_iff.1 hR).1
  have r0 : w.cell? ⟨R, 0, none⟩ = some (.slice aL nL cL) := by unfold World.cell?; simp [hR]
  have r1 : w.cell? ⟨R, 1, none⟩ = some (.slice aR nR cR) := by unfold World.cell?; simp [hR]
  clear hcell hn hs
  have H1 := hide h1
  clear h1
  go_enter Tryd.func29, Tryd.ntmps29
  go_wp2_with fail
  refine (need_yes 3 _).mono ?_
  rintro e wk1 ⟨rfl, hw⟩
  subst wk1
  have hd2 : decide ((1 : Int) < (n : Int) + 2) = true := decide_eq_true (by omega)
  go_wp2_with fail
  refine (need_yes 4 _).mono ?_
  rintro e wk2 ⟨rfl, hw⟩
  subst wk2
  go_wp2_with fail
  refine (isName_any x1 _ hs1).mono ?_
  rintro e wn ⟨rfl, hw⟩
  subst wn
  rw [unhide H1]
  go_wp2_with fail
  refine (need_yes 3 _).mono ?_
  rintro e wk3 ⟨rfl, hw⟩
  subst wk3
  go_wp2_with fail
  refine (placeN_any aL nL cL lL x1 _ hL).mono ?_
  rintro e w5 ⟨rfl, hb5⟩
  have s0 := (hb5.cell (p := ⟨R, 0, none⟩) hRlt).trans r0
  have s1 := (hb5.cell (p := ⟨R, 1, none⟩) hRlt).trans r1
  go_wp2_with fail
  refine (placeN_any aR nR cR lR x1 _ (hRt.later hb5)).mono ?_
  rintro e w6 ⟨rfl, hb6⟩
  have hRlt5 : R < w5.heap.size := Nat.lt_of_lt_of_le hRlt hb5.size
  have u0 := (hb6.cell (p := ⟨R, 0, none⟩) hRlt5).trans s0
  have u1 := (hb6.cell (p := ⟨R, 1, none⟩) hRlt5).trans s1
  clear s0 s1
  have hb6w : Below w.heap.size w w6 := hb5.trans (hb6.mono hb5.size)
  have gd2 : decide (aidxFrom lR x1 0 < 0) = true := decide_eq_true g2
  go_wp2_with fail
  refine (need_yes 6 _).mono ?_
  rintro e wk4 ⟨rfl, hw⟩
  subst wk4
  have gd3 : decide ((nR : Int) < 6) = true := decide_eq_true (by omega)
  go_wp2_with fail
  refine (need_yes 2 _).mono ?_
  rintro e wk5 ⟨rfl, hw⟩
  subst wk5
  have HSR : Hid (∀ a', (n = 0 ∨ a' = some ⟨b, off + 2, none⟩) → Strz w6 a' n c t) := fun a' ha => ((unhide HST).rest2 a' ha).later hb6w
  have HGL := hide (hg.later hb6w)
  have HNE := hide hne
  have HRO := hide hroom
  clear hne hroom HST hg
  go_wp2_with fail
  · have X1 : Strz w6 (some ⟨b, off, none⟩) n 0 t := by
      have X := unhide HSR (some ⟨b, off, none⟩) (Or.inl (by omega))
      rw [h] at X
      exact X
    refine (takeRoom_any (some ⟨b, off, none⟩) n 0 t w6 X1 (unhide HNE) (unhide HGL)).mono ?_
    clear X1
    rintro e w9 ⟨hb9, ⟨k', hk, rfl⟩ | ⟨r', t', a3, n3, c3, hk, _, _⟩⟩
    · obtain rfl : k' = k := by
        have hk' := (unhide HRO).symm.trans hk
        injection hk' with hk'
        exact hk'.symm
      clear hk
      go_wp2
      exact ⟨rfl, rfl, hb6w.trans (hb9.mono hb6w.size)⟩
    · have := (unhide HRO).symm.trans hk
      cases this
  · have X1 := unhide HSR (some ⟨b, off + 2, none⟩) (Or.inr rfl)
    refine (takeRoom_any (some ⟨b, off + 2, none⟩) n c t w6 X1 (unhide HNE) (unhide HGL)).mono ?_
    clear X1
    rintro e w9 ⟨hb9, ⟨k', hk, rfl⟩ | ⟨r', t', a3, n3, c3, hk, _, _⟩⟩
    · obtain rfl : k' = k := by
        have hk' := (unhide HRO).symm.trans hk
        injection hk' with hk'
        exact hk'.symm
      clear hk
      go_wp2
      exact ⟨rfl, rfl, hb6w.trans (hb9.mono hb6w.size)⟩
    · have := (unhide HRO).symm.trans hk
      cases this
set_option maxRecDepth 100000 in
set_option maxHeartbeats 8000000 in
theorem take0_likes (R b off n c : Nat) (x0 x1 : ByteArray) (t : List ByteArray) (aL : Option Addr) (nL cL : Nat) (lL : List Ag) (aR : Option Addr) (nR cR : Nat) (lR : List Ag) (vN : Value) (w : World)
    (h : Strz w (some ⟨b, off, none⟩) (n + 2) (c + 2) (x0 :: x1 :: t)) (hne : ∀ x ∈ t, 0 < x.size ∧ x.size ≤ 281474976710656) (hg : Glob w) (h0 : (x0.toList == [108, 101, 102, 116]) = true) (h0' : (x0.toList == [114, 105, 103, 104, 116]) = false)
    (hR : w.heap[R]? = some (.cells #[.slice aL nL cL, .slice aR nR cR, vN] 58 (0, 0))) (hL : Ags w aL nL cL lL) (hRt : Ags w aR nR cR lR) (h1 : nameB x1 = true) (g1 : aidxFrom lL x1 0 < 0) (g2 : aidxFrom lR x1 0 < 0) (g3 : nL < 6) (r k : Int) (t2 : List ByteArray) (hroom : roomP t = .ok (r, t2)) (hlikes : likesP t2 = .error k) :
    Calls Tryd.prog 29 #[.pointer (some ⟨R, 0, none⟩), .slice (some ⟨b, off, none⟩) (n + 2) (c + 2)] w fun e w' => e = .panicked [{ v := thrown k, recovered := false }] ∧ Below w.heap.size w w' := by
  have HST := hide h
  obtain ⟨hn, hc, hm, hs, hh⟩ := h
  unfold maxLen at hm
  rcases hh with hz | ⟨b', off', e, hlt, hcell⟩
  · omega
  cases e
  have q0 : w.cell? ⟨b, off, none⟩ = some (.string x0) := hcell 0 (by omega)
  have q1 : w.cell? ⟨b, off + 1, none⟩ = some (.string x1) := hcell 1 (by omega)
  have hs1 : x1.size ≤ maxLen := hs x1 (by simp)
  have hRlt : R < w.heap.size := (Array.getElem?_eq_some_iff.1 hR).1
  have r0 : w.cell? ⟨R, 0, none⟩ = some (.slice aL nL cL) := by unfold World.cell?; simp [hR]
  have r1 : w.cell? ⟨R, 1, none⟩ = some (.slice aR nR cR) := by unfold World.cell?; simp [hR]
  clear hcell hn hs
  have H1 := hide h1
  clear h1
  go_enter Tryd.func29, Tryd.ntmps29
  go_wp2_with fail
  refine (need_yes 3 _).mono ?_
  rintro e wk1 ⟨rfl, hw⟩
  subst wk1
  have hd2 : decide ((1 : Int) < (n : Int) + 2) = true := decide_eq_true (by omega)
  go_wp2_with fail
  refine (need_yes 4 _).mono ?_
  rintro e wk2 ⟨rfl, hw⟩
  subst wk2
  go_wp2_with fail
  refine (isName_any x1 _ hs1).mono ?_
  rintro e wn ⟨rfl, hw⟩
  subst wn
  rw [unhide H1]
  go_wp2_with fail
  refine (need_yes 3 _).mono ?_
  rintro e wk3 ⟨rfl, hw⟩
  subst wk3
  go_wp2_with fail
  refine (placeN_any aL nL cL lL x1 _ hL).mono ?_
  rintro e w5 ⟨rfl, hb5⟩
  have s0 := (hb5.cell (p := ⟨R, 0, none⟩) hRlt).trans r0
  have s1 := (hb5.cell (p := ⟨R, 1, none⟩) hRlt).trans r1
  go_wp2_with fail
  refine (placeN_any aR nR cR lR x1 _ (hRt.later hb5)).mono ?_
  rintro e w6 ⟨rfl, hb6⟩
  have hRlt5 : R < w5.heap.size := Nat.lt_of_lt_of_le hRlt hb5.size
  have u0 := (hb6.cell (p := ⟨R, 0, none⟩) hRlt5).trans s0
  have u1 := (hb6.cell (p := ⟨R, 1, none⟩) hRlt5).trans s1
  clear s0 s1
  have hb6w : Below w.heap.size w w6 := hb5.trans (hb6.mono hb5.size)
  have gd2 : decide (aidxFrom lR x1 0 < 0) = true := decide_eq_true g2
  go_wp2_with fail
  refine (need_yes 6 _).mono ?_
  rintro e wk4 ⟨rfl, hw⟩
  subst wk4
  have gd3 : decide ((nL : Int) < 6) = true := decide_eq_true (by omega)
  go_wp2_with fail
  refine (need_yes 2 _).mono ?_
  rintro e wk5 ⟨rfl, hw⟩
  subst wk5
  have HSR : Hid (∀ a', (n = 0 ∨ a' = some ⟨b, off + 2, none⟩) → Strz w6 a' n c t) := fun a' ha => ((unhide HST).rest2 a' ha).later hb6w
  have HGL := hide (hg.later hb6w)
  have HNE := hide hne
  have HRO := hide hroom
  clear hne hroom HST hg
  have HLI := hide hlikes
  clear hlikes
  go_wp2_with fail
  · have X1 : Strz w6 (some ⟨b, off, none⟩) n 0 t := by
      have X := unhide HSR (some ⟨b, off, none⟩) (Or.inl (by omega))
      rw [h] at X
      exact X
    refine (takeRoom_any (some ⟨b, off, none⟩) n 0 t w6 X1 (unhide HNE) (unhide HGL)).mono ?_
    clear X1
    rintro e w9 ⟨hb9, ⟨k', hk, _⟩ | ⟨r', t', a3, n3, c3, hk, rfl, hst3⟩⟩
    · have := (unhide HRO).symm.trans hk
      cases this
    obtain ⟨rfl, rfl⟩ : r' = r ∧ t' = t2 := by
      have hk' := (unhide HRO).symm.trans hk
      injection hk' with hk'
      injection hk' with hk1 hk2
      exact ⟨hk1.symm, hk2.symm⟩
    have HS9 := hide (hst3.later hb9)
    clear hst3 hk u0 u1
    go_wp2_with fail
    refine (takeLikes_any a3 n3 c3 _ w9 (unhide HS9)).mono ?_
    rintro e w10 ⟨hw10, ⟨k', hk, rfl⟩ | ⟨t', a4, n4, c4, hk, _, _⟩⟩
    · obtain rfl : k' = k := by
        have hk' := (unhide HLI).symm.trans hk
        injection hk' with hk'
        exact hk'.symm
      clear hk
      subst w10
      go_wp2
      exact ⟨rfl, rfl, hb6w.trans (hb9.mono hb6w.size)⟩
    · have := (unhide HLI).symm.trans hk
      cases this
  · have X1 := unhide HSR (some ⟨b, off + 2, none⟩) (Or.inr rfl)
    refine (takeRoom_any (some ⟨b, off + 2, none⟩) n c t w6 X1 (unhide HNE) (unhide HGL)).mono ?_
    clear X1
    rintro e w9 ⟨hb9, ⟨k', hk, _⟩ | ⟨r', t', a3, n3, c3, hk, rfl, hst3⟩⟩
    · have := (unhide HRO).symm.trans hk
      cases this
    obtain ⟨rfl, rfl⟩ : r' = r ∧ t' = t2 := by
      have hk' := (unhide HRO).symm.trans hk
      injection hk' with hk'
      injection hk' with hk1 hk2
      exact ⟨hk1.symm, hk2.symm⟩
    have HS9 := hide (hst3.later hb9)
    clear hst3 hk u0 u1
    go_wp2_with fail
    refine (takeLikes_any a3 n3 c3 _ w9 (unhide HS9)).mono ?_
    rintro e w10 ⟨hw10, ⟨k', hk, rfl⟩ | ⟨t', a4, n4, c4, hk, _, _⟩⟩
    · obtain rfl : k' = k := by
        have hk' := (unhide HLI).symm.trans hk
        injection hk' with hk'
        exact hk'.symm
      clear hk
      subst w10
      go_wp2
      exact ⟨rfl, rfl, hb6w.trans (hb9.mono hb6w.size)⟩
    · have := (unhide HLI).symm.trans hk
      cases this
set_option maxRecDepth 100000 in
set_option maxHeartbeats 8000000 in
theorem take1_likes (R b off n c : Nat) (x0 x1 : ByteArray) (t : List ByteArray) (aL : Option Addr) (nL cL : Nat) (lL : List Ag) (aR : Option Addr) (nR cR : Nat) (lR : List Ag) (vN : Value) (w : World)
    (h : Strz w (some ⟨b, off, none⟩) (n + 2) (c + 2) (x0 :: x1 :: t)) (hne : ∀ x ∈ t, 0 < x.size ∧ x.size ≤ 281474976710656) (hg : Glob w) (h0 : (x0.toList == [108, 101, 102, 116]) = false) (h0' : (x0.toList == [114, 105, 103, 104, 116]) = true)
    (hR : w.heap[R]? = some (.cells #[.slice aL nL cL, .slice aR nR cR, vN] 58 (0, 0))) (hL : Ags w aL nL cL lL) (hRt : Ags w aR nR cR lR) (h1 : nameB x1 = true) (g1 : aidxFrom lL x1 0 < 0) (g2 : aidxFrom lR x1 0 < 0) (g3 : nR < 6) (r k : Int) (t2 : List ByteArray) (hroom : roomP t = .ok (r, t2)) (hlikes : likesP t2 = .error k) :
    Calls Tryd.prog 29 #[.pointer (some ⟨R, 0, none⟩), .slice (some ⟨b, off, none⟩) (n + 2) (c + 2)] w fun e w' => e = .panicked [{ v := thrown k, recovered := false }] ∧ Below w.heap.size w w' := by
  have HST := hide h
  obtain ⟨hn, hc, hm, hs, hh⟩ := h
  unfold maxLen at hm
  rcases hh with hz | ⟨b', off', e, hlt, hcell⟩
  · omega
  cases e
  have q0 : w.cell? ⟨b, off, none⟩ = some (.string x0) := hcell 0 (by omega)
  have q1 : w.cell? ⟨b, off + 1, none⟩ = some (.string x1) := hcell 1 (by omega)
  have hs1 : x1.size ≤ maxLen := hs x1 (by simp)
  have hRlt : R < w.heap.size := (Array.getElem?_eq_some_iff.1 hR).1
  have r0 : w.cell? ⟨R, 0, none⟩ = some (.slice aL nL cL) := by unfold World.cell?; simp [hR]
  have r1 : w.cell? ⟨R, 1, none⟩ = some (.slice aR nR cR) := by unfold World.cell?; simp [hR]
  clear hcell hn hs
  have H1 := hide h1
  clear h1
  go_enter Tryd.func29, Tryd.ntmps29
  go_wp2_with fail
  refine (need_yes 3 _).mono ?_
  rintro e wk1 ⟨rfl, hw⟩
  subst wk1
  have hd2 : decide ((1 : Int) < (n : Int) + 2) = true := decide_eq_true (by omega)
  go_wp2_with fail
  refine (need_yes 4 _).mono ?_
  rintro e wk2 ⟨rfl, hw⟩
  subst wk2
  go_wp2_with fail
  refine (isName_any x1 _ hs1).mono ?_
  rintro e wn ⟨rfl, hw⟩
  subst wn
  rw [unhide H1]
  go_wp2_with fail
  refine (need_yes 3 _).mono ?_
  rintro e wk3 ⟨rfl, hw⟩
  subst wk3
  go_wp2_with fail
  refine (placeN_any aL nL cL lL x1 _ hL).mono ?_
  rintro e w5 ⟨rfl, hb5⟩
  have s0 := (hb5.cell (p := ⟨R, 0, none⟩) hRlt).trans r0
  have s1 := (hb5.cell (p := ⟨R, 1, none⟩) hRlt).trans r1
  go_wp2_with fail
  refine (placeN_any aR nR cR lR x1 _ (hRt.later hb5)).mono ?_
  rintro e w6 ⟨rfl, hb6⟩
  have hRlt5 : R < w5.heap.size := Nat.lt_of_lt_of_le hRlt hb5.size
  have u0 := (hb6.cell (p := ⟨R, 0, none⟩) hRlt5).trans s0
  have u1 := (hb6.cell (p := ⟨R, 1, none⟩) hRlt5).trans s1
  clear s0 s1
  have hb6w : Below w.heap.size w w6 := hb5.trans (hb6.mono hb5.size)
  have gd2 : decide (aidxFrom lR x1 0 < 0) = true := decide_eq_true g2
  go_wp2_with fail
  refine (need_yes 6 _).mono ?_
  rintro e wk4 ⟨rfl, hw⟩
  subst wk4
  have gd3 : decide ((nR : Int) < 6) = true := decide_eq_true (by omega)
  go_wp2_with fail
  refine (need_yes 2 _).mono ?_
  rintro e wk5 ⟨rfl, hw⟩
  subst wk5
  have HSR : Hid (∀ a', (n = 0 ∨ a' = some ⟨b, off + 2, none⟩) → Strz w6 a' n c t) := fun a' ha => ((unhide HST).rest2 a' ha).later hb6w
  have HGL := hide (hg.later hb6w)
  have HNE := hide hne
  have HRO := hide hroom
  clear hne hroom HST hg
  have HLI := hide hlikes
  clear hlikes
  go_wp2_with fail
  · have X1 : Strz w6 (some ⟨b, off, none⟩) n 0 t := by
      have X := unhide HSR (some ⟨b, off, none⟩) (Or.inl (by omega))
      rw [h] at X
      exact X
    refine (takeRoom_any (some ⟨b, off, none⟩) n 0 t w6 X1 (unhide HNE) (unhide HGL)).mono ?_
    clear X1
    rintro e w9 ⟨hb9, ⟨k', hk, _⟩ | ⟨r', t', a3, n3, c3, hk, rfl, hst3⟩⟩
    · have := (unhide HRO).symm.trans hk
      cases this
    obtain ⟨rfl, rfl⟩ : r' = r ∧ t' = t2 := by
      have hk' := (unhide HRO).symm.trans hk
      injection hk' with hk'
      injection hk' with hk1 hk2
      exact ⟨hk1.symm, hk2.symm⟩
    have HS9 := hide (hst3.later hb9)
    clear hst3 hk u0 u1
    go_wp2_with fail
    refine (takeLikes_any a3 n3 c3 _ w9 (unhide HS9)).mono ?_
    rintro e w10 ⟨hw10, ⟨k', hk, rfl⟩ | ⟨t', a4, n4, c4, hk, _, _⟩⟩
    · obtain rfl : k' = k := by
        have hk' := (unhide HLI).symm.trans hk
        injection hk' with hk'
        exact hk'.symm
      clear hk
      subst w10
      go_wp2
      exact ⟨rfl, rfl, hb6w.trans (hb9.mono hb6w.size)⟩
    · have := (unhide HLI).symm.trans hk
      cases this
  · have X1 := unhide HSR (some ⟨b, off + 2, none⟩) (Or.inr rfl)
    refine (takeRoom_any (some ⟨b, off + 2, none⟩) n c t w6 X1 (unhide HNE) (unhide HGL)).mono ?_
    clear X1
    rintro e w9 ⟨hb9, ⟨k', hk, _⟩ | ⟨r', t', a3, n3, c3, hk, rfl, hst3⟩⟩
    · have := (unhide HRO).symm.trans hk
      cases this
    obtain ⟨rfl, rfl⟩ : r' = r ∧ t' = t2 := by
      have hk' := (unhide HRO).symm.trans hk
      injection hk' with hk'
      injection hk' with hk1 hk2
      exact ⟨hk1.symm, hk2.symm⟩
    have HS9 := hide (hst3.later hb9)
    clear hst3 hk u0 u1
    go_wp2_with fail
    refine (takeLikes_any a3 n3 c3 _ w9 (unhide HS9)).mono ?_
    rintro e w10 ⟨hw10, ⟨k', hk, rfl⟩ | ⟨t', a4, n4, c4, hk, _, _⟩⟩
    · obtain rfl : k' = k := by
        have hk' := (unhide HLI).symm.trans hk
        injection hk' with hk'
        exact hk'.symm
      clear hk
      subst w10
      go_wp2
      exact ⟨rfl, rfl, hb6w.trans (hb9.mono hb6w.size)⟩
    · have := (unhide HLI).symm.trans hk
      cases this
end Go.Proofs.YtajdijjecojdhaaDoor
