import Derived.Test.YtfknnededkdodaaJ
namespace Go.Proofs.Ytfknnededkdodaa
open Go.RowKit
def upd (v : Nat → Int) (i : Nat) (b : Int) (j : Nat) : Int := if j = i then b else v j
theorem upd_at (v : Nat → Int) (i : Nat) (b : Int) : upd v i b i = b := if_pos rfl
theorem upd_ne {v : Nat → Int} {i j : Nat} {b : Int} (h : j ≠ i) : upd v i b j = v j := if_neg h
theorem upd_bl {v : Nat → Int} {n i : Nat} {b : Int} (h : Bl n v) (h1 : 0 ≤ b) (h2 : b ≤ 1000) : Bl n (upd v i b) := fun j hj => by
  by_cases e : j = i
  · subst e; rw [upd_at]; exact ⟨h1, h2⟩
  · rw [upd_ne e]; exact h j hj
def lF (n : Nat) (f : Nat → Int) : List Int := (List.range n).map f
theorem lF_len (n : Nat) (f : Nat → Int) : (lF n f).length = n := by simp [lF]
theorem lF_at {n j : Nat} {f : Nat → Int} (h : j < n) : nth (lF n f) j = f j := by
  unfold nth lF
  rw [List.getElem?_map, List.getElem?_range h]
  rfl
theorem Bl.congr {n : Nat} {v v' : Nat → Int} (h : Bl n v) (e : ∀ j, j < n → v' j = v j) : Bl n v' := fun j hj => by rw [e j hj]; exact h j hj
/-- Does one win, with this bid? -/
def wns (v : Nat → Int) (n : Nat) (S : Nat → Nat) (m i : Nat) (b : Int) : Bool := hs (wS (upd v i b) n S m).2 i
/-- The least bid with which one would win (no more than its bid). -/
def LB (v : Nat → Int) (n : Nat) (S : Nat → Nat) (m i : Nat) (p : Int) : Prop := 0 ≤ p ∧ p ≤ v i ∧ (∀ b : Int, 0 ≤ b → b < p → wns v n S m i b = false) ∧ (p = v i ∨ wns v n S m i p = true)
theorem LB.uniq {v : Nat → Int} {n : Nat} {S : Nat → Nat} {m i : Nat} {p q : Int} (h : LB v n S m i p) (g : LB v n S m i q) : p = q := by
  obtain ⟨h1, h2, h3, h4⟩ := h
  obtain ⟨g1, g2, g3, g4⟩ := g
  rcases Int.lt_trichotomy p q with e | e | e
  · rcases h4 with h4 | h4
    · omega
    · rw [g3 p h1 e] at h4; cases h4
  · exact e
  · rcases g4 with g4 | g4
    · omega
    · rw [h3 q g1 e] at g4; cases g4
set_option maxRecDepth 100000 in
set_option maxHeartbeats 2000000 in
theorem leastBid_any (a : Option Addr) (n c : Nat) (l : List Int) (sa : Option Addr) (m sc : Nat) (sl : List Int) (i : Nat) (w : World) (h : Ints w a n c l) (hS : Ints w sa m sc sl) (hn1 : 1 ≤ n) (hn4 : n ≤ 4) (hB : Bl n (nth l)) (hT : Sts n m sl) (hi : i < n) :
    Calls Try.prog 26 #[.slice a n c, .slice sa m sc, .int .i64 i] w fun e w' => ∃ p, LB (nth l) n (sN sl) m i p ∧ e = .returned (.int .i64 p) ∧ Below w.heap.size w w' := by
  have CC := hide (clone_any a n c l w h (by omega))
  have h3 := h.2.1
  have h4 := h.2.2.1
  unfold maxLen at h4
  obtain ⟨b, off, rfl, hb, hcell⟩ := h.nth hn1
  have hci := hcell i hi
  have hvi := hB i hi
  have HW : Hid (∀ (W : World) (ba : Option Addr) (bc : Nat) (x : Int), Below w.heap.size w W → Row w.heap.size W ba n (upd (nth l) i x) → n ≤ bc → bc ≤ maxLen → 0 ≤ x → x ≤ 1000 → Calls Try.prog 24 #[.slice ba n bc, .slice sa m sc] W fun e w' => e = .returned (.int .i64 (wS (upd (nth l) i x) n (sN sl) m).2) ∧ w' = W) := fun W ba bc x hW hR h1 h2 hx0 hx1 => by
    have hI := hR.ints (l := lF n (upd (nth l) i x)) (lF_len _ _).symm h1 h2 (fun j hj => (lF_at hj).symm)
    have := wins_any ba n bc _ sa m sc sl W hI (hS.later hW) hn1 hn4 ((upd_bl hB hx0 hx1).congr (fun j hj => lF_at hj)) hT
    rw [wS_congr (v := nth (lF n (upd (nth l) i x))) (v' := upd (nth l) i x) (fun j hj => lF_at hj)] at this
    exact this
  have HS : Hid (∀ x, (wS (upd (nth l) i x) n (sN sl) m).2 < 16) := fun x => Nat.lt_of_lt_of_le (wS_lt (m := m) (fun j hj => (hT.nat hj).2) m (Nat.le_refl _)) (pow_le hn4)
  have HL : Hid (∀ p, LB (nth l) n (sN sl) m i p ↔ (0 ≤ p ∧ p ≤ nth l i ∧ (∀ b : Int, 0 ≤ b → b < p → wns (nth l) n (sN sl) m i b = false) ∧ (p = nth l i ∨ wns (nth l) n (sN sl) m i p = true))) := fun p => Iff.rfl
  have HN : Hid (∀ x, wns (nth l) n (sN sl) m i x = hs (wS (upd (nth l) i x) n (sN sl) m).2 i) := fun x => rfl
  have hi4 : i < 4 := by omega
  have HO : Hid (∀ (W : World) (v' : Value), W.ownsRow w.heap.size 3 1 v' n (intVals l) → ∃ g bc, v' = .slice (some ⟨g, 0, none⟩) n bc ∧ n ≤ bc ∧ bc ≤ maxLen ∧ Row w.heap.size W (some ⟨g, 0, none⟩) n (upd (nth l) i (nth l i))) := fun W v' ho => by
    obtain ⟨va, bc, e1, e2, e3, hR⟩ := Row.of_owns ho
    have hR2 : Row w.heap.size W va n (upd (nth l) i (nth l i)) := hR.same (fun j _ => by
      by_cases e : j = i
      · subst e; rw [upd_at]; rfl
      · rw [upd_ne e]; rfl)
    rcases hR2 with h0 | ⟨g, k1, k2⟩
    · omega
    · subst k1
      exact ⟨g, bc, e1, e2, e3, .inr ⟨g, rfl, k2⟩⟩
  clear h hS hcell hB hT
  generalize LB (nth l) n (sN sl) m i = LBp at *
  generalize wns (nth l) n (sN sl) m i = wn at *
  generalize hwf : (fun x => (wS (upd (nth l) i x) n (sN sl) m).2) = wf at *
  have hwf2 : ∀ x, (wS (upd (nth l) i x) n (sN sl) m).2 = wf x := fun x => by rw [← hwf]
  simp only [hwf2] at HW HS HN
  clear hwf hwf2
  generalize nth l = v at *
  go_enter Try.func26, Try.ntmps26
  go_wp2_with fail
  refine (unhide CC).mono ?_
  rintro e w1 ⟨v1, rfl, ho1, hb1⟩
  obtain ⟨g, bc, hv1, hbc, hbm, hR1⟩ := unhide HO w1 v1 ho1
  subst hv1
  have hci1 := (hb1.cell (p := ⟨b, off + i, none⟩) hb).trans hci
  have HBM := hide hbm
  unfold maxLen at hbm
  have HR1 := hide hR1
  clear ho1 hR1
  go_wp2
  go_loopw [15, 8] (fun k _ wr => Below w.heap.size w wr ∧ ∃ (x : Nat) (z : Int), (x : Int) ≤ v i ∧ k = .int .i64 x ∧ Row w.heap.size wr (some ⟨g, 0, none⟩) n (upd v i z) ∧ ∀ y : Int, 0 ≤ y → y < x → wn y = false) (fun k _ _ => ((v i) - (intOf k)).toNat)
  case atStart => exact ⟨hb1, 0, v i, by omega, rfl, unhide HR1, fun y _ _ => by omega⟩
  case round =>
    obtain ⟨hbr, x, z, hx, rfl, hR, hno⟩ := hrel
    have HNO := hide hno
    clear hno
    by_cases hlt : (x : Int) < v i
    · obtain ⟨hc, hf, hsz, hge⟩ := hR.at hi
      have HR2 : Hid (Row w.heap.size (wr.setCell ⟨g, i, none⟩ (.int .i64 (x : Int))) (some ⟨g, 0, none⟩) n (upd v i (x : Int))) := hR.set hi (fun j _ hj => by rw [upd_ne hj, upd_ne hj]) (upd_at _ _ _).symm
      have hbr2 : Below w.heap.size w (wr.setCell ⟨g, i, none⟩ (.int .i64 (x : Int))) := hbr.setCell (p := ⟨g, i, none⟩) hge _
      have C24 := hide (unhide HW _ _ bc (x : Int) hbr2 (unhide HR2) hbc (unhide HBM) (by omega) (by omega))
      have hS16 := unhide HS (x : Int)
      have HNx := hide (unhide HN (x : Int))
      generalize wf (x : Int) = q at *
      have C25 := hide (has_any q i hS16 hi4 (wr.setCell ⟨g, i, none⟩ (.int .i64 (x : Int))))
      have HBR := hide hbr2
      clear hR hbr2
      generalize v i = y at *
      generalize upd v i z i = y0 at *
      go_wp2_with fail
      refine (unhide C24).mono ?_
      rintro e w2 ⟨rfl, hw2⟩
      subst w2
      go_wp2_with fail
      refine (unhide C25).mono ?_
      rintro e w2 ⟨rfl, hw2⟩
      subst w2
      cases hh : hs q i
      · have HX : Hid (∀ y : Int, 0 ≤ y → y < ((x + 1 : Nat) : Int) → wn y = false) := fun y h0 h1 => by
          by_cases e : y = (x : Int)
          · subst e; rw [unhide HNx, hh]
          · exact unhide HNO y h0 (by omega)
        go_wp2_with fail
        go_roundw
        case rel => exact ⟨unhide HBR, x + 1, (x : Int), by omega, by go_num, unhide HR2, unhide HX⟩
        case measure => simp [intOf]; omega
      · have HX : Hid (LBp (x : Int)) := (unhide HL _).2 ⟨by omega, by omega, unhide HNO, .inr (by rw [unhide HNx, hh])⟩
        go_wp2
        go_ret
        exact ⟨_, unhide HX, rfl, unhide HBR⟩
    · have hxe : (x : Int) = v i := by omega
      have hci2 := (hbr.cell (p := ⟨b, off + i, none⟩) hb).trans hci
      have HX : Hid (LBp (v i)) := (unhide HL _).2 ⟨by omega, by omega, by rw [← hxe]; exact unhide HNO, .inl rfl⟩
      clear hR hci hci1
      generalize v i = y at *
      go_wp2
      go_ret
      exact ⟨_, unhide HX, rfl, hbr⟩
end Go.Proofs.Ytfknnededkdodaa
