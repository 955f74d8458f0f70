import Derived.Test.YtfknnededkdodaaK
namespace Go.Proofs.Ytfknnededkdodaa
open Go.RowKit
/-- What one pays. -/
def PayP (v : Nat → Int) (n : Nat) (S : Nat → Nat) (m i : Nat) (p : Int) : Prop := (hs (wS v n S m).2 i = true → LB v n S m i p) ∧ (hs (wS v n S m).2 i = false → p = 0)
theorem PayP.uniq {v : Nat → Int} {n : Nat} {S : Nat → Nat} {m i : Nat} {p q : Int} (h : PayP v n S m i p) (g : PayP v n S m i q) : p = q := by
  cases e : hs (wS v n S m).2 i
  · rw [h.2 e, g.2 e]
  · exact (h.1 e).uniq (g.1 e)
theorem rem2 {q P : Nat} (hq : q < 16) : (wrap64 ((q : Int) / (P : Int))).tmod 2 = ((q / P % 2 : Nat) : Int) := by
  have e1 : (q : Int) / (P : Int) = ((q / P : Nat) : Int) := by simp
  have hq : q / P < 16 := Nat.lt_of_le_of_lt (Nat.div_le_self _ _) hq
  rw [e1]
  generalize q / P = x at *
  rw [wrap64_in (x : Int) (by omega) (by omega), Int.tmod_eq_emod_of_nonneg (by omega)]
  simp
theorem rem_yes {q i P : Nat} (hP : P = 2 ^ i) (hq : q < 16) (h : hs q i = true) : (wrap64 ((q : Int) / (P : Int))).tmod 2 = 1 := by
  rw [rem2 hq, hP]
  have : q / 2 ^ i % 2 = 1 := by unfold hs at h; simpa using h
  rw [this]; rfl
theorem rem_no {q i P : Nat} (hP : P = 2 ^ i) (hq : q < 16) (h : hs q i = false) : (wrap64 ((q : Int) / (P : Int))).tmod 2 = 0 := by
  rw [rem2 hq, hP]
  have : ¬ q / 2 ^ i % 2 = 1 := by unfold hs at h; simpa using h
  have : q / 2 ^ i % 2 = 0 := by omega
  rw [this]; rfl
set_option maxRecDepth 100000 in
set_option maxHeartbeats 2000000 in
theorem slotsPay_any (a : Option Addr) (n c : Nat) (l : List Int) (sa : Option Addr) (m sc : Nat) (sl : List Int) (i : Nat) (w : World) (h : Ints w a n c l) (hS : Ints w sa m sc sl) (hn1 : 1 ≤ n) (hn4 : n ≤ 4) (hB : Bl n (nth l)) (hT : Sts n m sl) (hi : i < n) :
    Calls Try.prog 14 #[.slice a n c, .slice sa m sc, .int .i64 i] w fun e w' => ∃ p, PayP (nth l) n (sN sl) m i p ∧ e = .returned (.int .i64 p) ∧ Below w.heap.size w w' := by
  have CW := hide (slotsWin_any a n c l sa m sc sl w h hS hn1 hn4 hB hT)
  have h3 := h.2.1
  have h4 := h.2.2.1
  unfold maxLen at h4
  have HI := hide h
  obtain ⟨b, off, rfl, hb, hcell⟩ := h.nth hn1
  have hci := hcell i hi
  have hvi := hB i hi
  have HW : Hid (∀ (W : World) (ba : Option Addr) (bc : Nat) (x : Int) (B : Nat), Below w.heap.size w W → Row B W ba n (upd (nth l) i x) → n ≤ bc → bc ≤ maxLen → 0 ≤ x → x ≤ 1000 → Calls Try.prog 13 #[.slice ba n bc, .slice sa m sc] W fun e w' => e = .returned (.int .i64 (wS (upd (nth l) i x) n (sN sl) m).2) ∧ Below W.heap.size W w') := fun W ba bc x B hW hR h1 h2 hx0 hx1 => by
    have hI := hR.ints (l := lF n (upd (nth l) i x)) (lF_len _ _).symm h1 h2 (fun j hj => (lF_at hj).symm)
    have := slotsWin_any ba n bc _ sa m sc sl W hI (hS.later hW) hn1 hn4 ((upd_bl hB hx0 hx1).congr (fun j hj => lF_at hj)) hT
    rw [wS_congr (v := nth (lF n (upd (nth l) i x))) (v' := upd (nth l) i x) (fun j hj => lF_at hj)] at this
    exact this
  have HS : Hid (∀ x, (wS (upd (nth l) i x) n (sN sl) m).2 < 16) := fun x => Nat.lt_of_lt_of_le (wS_lt (m := m) (fun j hj => (hT.nat hj).2) m (Nat.le_refl _)) (pow_le hn4)
  have hS0 : (wS (nth l) n (sN sl) m).2 < 16 := Nat.lt_of_lt_of_le (wS_lt (m := m) (fun j hj => (hT.nat hj).2) m (Nat.le_refl _)) (pow_le hn4)
  have HL : Hid (∀ p, LB (nth l) n (sN sl) m i p ↔ (0 ≤ p ∧ p ≤ nth l i ∧ (∀ b : Int, 0 ≤ b → b < p → wns (nth l) n (sN sl) m i b = false) ∧ (p = nth l i ∨ wns (nth l) n (sN sl) m i p = true))) := fun p => Iff.rfl
  have HN : Hid (∀ x, wns (nth l) n (sN sl) m i x = hs (wS (upd (nth l) i x) n (sN sl) m).2 i) := fun x => rfl
  have HPY : Hid (∀ p, hs (wS (nth l) n (sN sl) m).2 i = true → LB (nth l) n (sN sl) m i p → PayP (nth l) n (sN sl) m i p) := fun p hy hp => ⟨fun _ => hp, fun hn => by rw [hy] at hn; cases hn⟩
  have HPN : Hid (hs (wS (nth l) n (sN sl) m).2 i = false → PayP (nth l) n (sN sl) m i 0) := fun hn => ⟨fun hy => (by rw [hy] at hn; cases hn), fun _ => rfl⟩
  have hi4 : i < 4 := by omega
  have HO : Hid (∀ (W : World) (B : Nat) (v' : Value), W.ownsRow B 3 1 v' n (intVals l) → ∃ g bc, v' = .slice (some ⟨g, 0, none⟩) n bc ∧ n ≤ bc ∧ bc ≤ maxLen ∧ Row B W (some ⟨g, 0, none⟩) n (upd (nth l) i (nth l i))) := fun W B v' ho => by
    obtain ⟨va, bc, e1, e2, e3, hR⟩ := Row.of_owns ho
    have hR2 : Row B W va n (upd (nth l) i (nth l i)) := hR.same (fun j _ => by
      by_cases e : j = i
      · subst e; rw [upd_at]; rfl
      · rw [upd_ne e]; rfl)
    rcases hR2 with h0 | ⟨g, k1, k2⟩
    · omega
    · subst k1
      exact ⟨g, bc, e1, e2, e3, .inr ⟨g, rfl, k2⟩⟩
  obtain ⟨P, hP⟩ : ∃ P : Nat, P = 2 ^ i := ⟨_, rfl⟩
  have hP2 : (2 : Int) ^ i = (P : Int) := by rw [hP]; simp
  have hP1 : P ≤ 16 := by rw [hP]; exact pow_le (by omega)
  have hP0 : 0 < P := by rw [hP]; exact Nat.two_pow_pos i
  have hw : IntKind.i64.wrap ((2 : Int) ^ i) = (P : Int) := by rw [hP2]; exact wrap_in _ (by omega) (by omega)
  have hPz : ((P : Int) == 0) = false := by simp; omega
  have HP := hide hP
  clear h hS hcell hB hT hP hP2
  generalize LB (nth l) n (sN sl) m i = LBp at *
  generalize wns (nth l) n (sN sl) m i = wn at *
  generalize PayP (nth l) n (sN sl) m i = PPp at *
  generalize hwf : (fun x => (wS (upd (nth l) i x) n (sN sl) m).2) = wf at *
  have hwf2 : ∀ x, (wS (upd (nth l) i x) n (sN sl) m).2 = wf x := fun x => by rw [← hwf]
  simp only [hwf2] at HW HS HN
  clear hwf hwf2
  generalize (wS (nth l) n (sN sl) m).2 = q0 at *
  generalize nth l = v at *
  go_enter Try.func14, Try.ntmps14
  go_wp2_with fail
  refine (unhide CW).mono ?_
  rintro e w1 ⟨rfl, hb1⟩
  cases hh : hs q0 i
  · have hr := rem_no (unhide HP) hS0 hh
    have HF := hide (unhide HPN hh)
    go_wp2
    go_ret
    exact ⟨0, unhide HF, rfl, hb1⟩
  · have hr := rem_yes (unhide HP) hS0 hh
    have HY := hide (fun p => unhide HPY p hh)
    clear HPY HPN
    go_wp2
    go_loopw [8, 9, 10] (fun k _ _ wr => Below w.heap.size w wr ∧ ∃ (x : Nat), (x : Int) ≤ v i ∧ k = .int .i64 x ∧ ∀ y : Int, 0 ≤ y → y < x → wn y = false) (fun k _ _ _ => ((v i) - (intOf k)).toNat)
    case atStart => exact ⟨hb1, 0, by omega, rfl, fun y _ _ => by omega⟩
    case round =>
      obtain ⟨hbr, x, hx, rfl, hno⟩ := hrel
      have HNO := hide hno
      have hci2 := (hbr.cell (p := ⟨b, off + i, none⟩) hb).trans hci
      clear hno
      by_cases hlt : (x : Int) < v i
      · have hb0 : Below wr.heap.size wr (wr.alloc (.cells #[] 3)) := by go_grown
        have hI1 := hide (((unhide HI).later hbr).later hb0)
        have hown0 : (wr.alloc (.cells #[] 3)).ownsRow wr.heap.size 3 1 (.slice (some ⟨wr.heap.size, 0, none⟩) 0 0) 0 (intVals []) :=
          World.ownsRow_made (base := wr.heap.size) (e := 3) (size := 1) wr #[] 0 (Nat.le_refl _) (by unfold maxLen; omega) rfl
        have HOW := hide hown0
        clear hown0
        have HVI := hide hlt
        have HV2 := hide hvi
        generalize hy : v i = y at *
        go_wp2_with (at_builtin; refine wpList_append_ints _ rfl _ _ rfl wr.heap.size _ 0 [] rfl (unhide HOW) _ n c l rfl (unhide hI1) (by omega) (by simp) ?_; intro v2 w2 ho2 hg2; have ho3 : w2.ownsRow wr.heap.size 3 1 v2 n (intVals l) := (by simpa using ho2); obtain ⟨g, bc, hv2, hbc, hbm, hR2⟩ := unhide HO w2 wr.heap.size v2 ho3; subst hv2; obtain ⟨hc, hf, hsz, hge⟩ := hR2.at hi; have HR2 := hide hR2; have HBM := hide hbm; have HG2 := hide hg2; clear hR2 ho2 ho3 hg2; unfold maxLen at hbm; generalize upd v i y i = y0 at *)
        have hbA : Below wr.heap.size wr w2 := hb0.trans ((Below.refl wr.heap.size _).grown (unhide HG2) (by simp) (fun k hk => ((unhide HOW).lt k hk).1))
        have hbB : Below w.heap.size w (w2.setCell ⟨g, i, none⟩ (.int .i64 (x : Int))) := (hbr.trans (hbA.mono hbr.size)).setCell (p := ⟨g, i, none⟩) (Nat.le_trans hbr.size hge) _
        have HR3 : Hid (Row wr.heap.size (w2.setCell ⟨g, i, none⟩ (.int .i64 (x : Int))) (some ⟨g, 0, none⟩) n (upd v i (x : Int))) := (unhide HR2).set hi (fun j _ hj => by rw [upd_ne hj, upd_ne hj]) (upd_at _ _ _).symm
        have hS16 := unhide HS (x : Int)
        have HNx := hide (unhide HN (x : Int))
        have C13 := hide (unhide HW _ _ bc (x : Int) _ hbB (unhide HR3) hbc (unhide HBM) (by omega) (by omega))
        generalize wf (x : Int) = q at *
        refine (unhide C13).mono ?_
        rintro e w3 ⟨rfl, hb3⟩
        have hbC := hbB.trans (hb3.mono hbB.size)
        cases hh2 : hs q i
        · have hr2 := rem_no (unhide HP) hS16 hh2
          have HX : Hid (∀ y : Int, 0 ≤ y → y < ((x + 1 : Nat) : Int) → wn y = false) := fun y h0 h1 => by
            by_cases e : y = (x : Int)
            · subst e; rw [unhide HNx, hh2]
            · exact unhide HNO y h0 (by omega)
          go_wp2_with fail
          go_roundw
          case rel => exact ⟨hbC, x + 1, by omega, by go_num, unhide HX⟩
          case measure => simp [intOf]; omega
        · have hr2 := rem_yes (unhide HP) hS16 hh2
          have HX := hide (unhide HY _ ((unhide HL (x : Int)).2 ⟨by omega, by omega, unhide HNO, .inr (by rw [unhide HNx, hh2])⟩))
          go_wp2
          go_ret
          exact ⟨_, unhide HX, rfl, hbC⟩
      · have hxe : (x : Int) = v i := by omega
        have HX := hide (unhide HY _ ((unhide HL (v i)).2 ⟨by omega, by omega, by rw [← hxe]; exact unhide HNO, .inl rfl⟩))
        clear hci
        generalize v i = y at *
        go_wp2
        go_ret
        exact ⟨_, unhide HX, rfl, hbr⟩
end Go.Proofs.Ytfknnededkdodaa
