import Derived.Test.YtkeanlpgnnikjaaZF
namespace Go.Proofs.Ytkeanlpgnnikjaa
open Go.RowKit
/-- The document's: from the last on. -/
def ddB (v f : Nat → Int) (G : Nat) : Nat → Int
  | 0 => -1
  | d + 1 => if f (G - (d + 1)) = -1 ∧ (ddB v f G d < 0 ∨ v (ddB v f G d).toNat ≤ v (G - (d + 1))) then ((G - (d + 1) : Nat) : Int) else ddB v f G d
theorem dd_yes {v f : Nat → Int} {G d : Nat} (h : f (G - (d + 1)) = -1 ∧ (ddB v f G d < 0 ∨ v (ddB v f G d).toNat ≤ v (G - (d + 1)))) : ddB v f G (d + 1) = ((G - (d + 1) : Nat) : Int) := by rw [ddB, if_pos h]
theorem dd_no {v f : Nat → Int} {G d : Nat} (h : ¬ (f (G - (d + 1)) = -1 ∧ (ddB v f G d < 0 ∨ v (ddB v f G d).toNat ≤ v (G - (d + 1))))) : ddB v f G (d + 1) = ddB v f G d := by rw [ddB, if_neg h]
theorem dd_spec {v f : Nat → Int} {G : Nat} : ∀ d, d ≤ G → (ddB v f G d = -1 ∧ ∀ g, G - d ≤ g → g < G → f g ≠ -1) ∨ ∃ m : Nat, ddB v f G d = (m : Int) ∧ Dear v f (G - d) G m := by
  intro d
  induction d with
  | zero => intro _; exact .inl ⟨rfl, fun g h1 h2 => by omega⟩
  | succ d ih =>
    intro hd
    rcases ih (by omega) with ⟨h1, h2⟩ | ⟨m, h1, m1, m2, m3, m4, m5⟩
    · by_cases e : f (G - (d + 1)) = -1
      · refine .inr ⟨G - (d + 1), dd_yes ⟨e, .inl (by omega)⟩, Nat.le_refl _, by omega, e, fun g g1 g2 g3 => ?_, fun g g1 g2 => by omega⟩
        by_cases c : g = G - (d + 1)
        · rw [c]; exact Int.le_refl _
        · exact absurd g3 (h2 g (by omega) g2)
      · refine .inl ⟨by rw [dd_no (fun q => e q.1), h1], fun g g1 g2 => ?_⟩
        by_cases c : g = G - (d + 1)
        · rw [c]; exact e
        · exact h2 g (by omega) g2
    · by_cases e : f (G - (d + 1)) = -1 ∧ v m ≤ v (G - (d + 1))
      · refine .inr ⟨G - (d + 1), dd_yes ⟨e.1, .inr (by rw [h1, Int.toNat_natCast]; exact e.2)⟩, Nat.le_refl _, by omega, e.1, fun g g1 g2 g3 => ?_, fun g g1 g2 => by omega⟩
        by_cases c : g = G - (d + 1)
        · rw [c]; exact Int.le_refl _
        · have := m4 g (by omega) g2 g3; omega
      · refine .inr ⟨m, ?_, by omega, m2, m3, fun g g1 g2 g3 => ?_, fun g g1 g2 g3 => ?_⟩
        · rw [dd_no (fun q => e ⟨q.1, by rcases q.2 with r | r
                                         · rw [h1] at r; omega
                                         · rw [h1, Int.toNat_natCast] at r; exact r⟩), h1]
        · by_cases c : g = G - (d + 1)
          · rcases Int.lt_or_le (v m) (v g) with q | q
            · exact absurd ⟨by rw [← c]; exact g3, by rw [← c]; omega⟩ e
            · exact q
          · exact m4 g (by omega) g2 g3
        · by_cases c : g = G - (d + 1)
          · rcases Int.lt_or_le (v g) (v m) with q | q
            · exact q
            · exact absurd ⟨by rw [← c]; exact g3, by rw [← c]; omega⟩ e
          · exact m5 g (by omega) g2 g3
theorem dd_dr {v f : Nat → Int} {G m : Nat} (h : Dear v f 0 G m) : ddB v f G G = (m : Int) := by
  rcases dd_spec (v := v) (f := f) G (Nat.le_refl _) with ⟨-, q⟩ | ⟨m', h1, h2⟩
  · exact absurd h.2.2.1 (q m (by omega) h.2.1)
  · rw [Nat.sub_self] at h2
    rw [h1, h2.uniq h]
set_option maxRecDepth 100000 in
set_option maxHeartbeats 8000000 in
theorem turnsR_any (a : Option Addr) (n c G : Nat) (L : List Sl) (w : World) (h : Lsts w a n c L) (hV : Vals n G L) :
    Calls Try.prog 15 #[.slice a n c] w fun e w' => ∃ va cc, e = .returned (.slice va G cc) ∧ Ints w' va G cc (lF G (trF (vl L) n G G)) ∧ Below w.heap.size w w' := by
  have hn1 := hV.n1
  have hn4 := hV.n4
  have hG := hV.g8
  have d1 := h.2.1
  have d2 := h.2.2.1
  unfold maxLen at d2
  obtain ⟨b, off, rfl, hb, hcell⟩ := h.cellAt hn1
  have HC : Hid (∀ W, Below w.heap.size w W → ∀ j, j < n → W.cell? ⟨b, off + j, none⟩ = some (.slice (slAt L j).la G (slAt L j).lc)) := fun W hW j hj => by rw [hW.cell (p := ⟨b, off + j, none⟩) hb, hcell j hj, hV.row j hj]
  have HC0 : Hid (∀ W, Below w.heap.size w W → W.cell? ⟨b, off, none⟩ = some (.slice (slAt L 0).la G (slAt L 0).lc)) := fun W hW => by have := unhide HC W hW 0 hn1; rw [Nat.add_zero] at this; exact this
  have HL : Hid (∀ k, k < n → G ≤ (slAt L k).lc ∧ (slAt L k).lc ≤ 9223372036854775807) := fun k hk => by
    have := h.mem (k := k) hk
    have q := this.2.1
    have r := this.2.2.1
    rw [hV.row k hk] at q
    unfold maxLen at r
    exact ⟨q, by omega⟩
  have HI : Hid (∀ W, Below w.heap.size w W → ∀ i, i < n → 0 < G → ∃ bb oo, (slAt L i).la = some ⟨bb, oo, none⟩ ∧ ∀ g, g < G → W.cell? ⟨bb, oo + g, none⟩ = some (.int .i64 (vl L i g))) := fun W hW i hi hg => by
    have := (h.mem (k := i) hi).later hW
    rw [hV.row i hi] at this
    obtain ⟨bb, oo, e1, -, e3⟩ := this.nth hg
    exact ⟨bb, oo, e1, e3⟩
  have HT := hide (tr_step hn1 (fun i hi => hV.okF (i := i) hi))
  obtain ⟨i1, i2⟩ := unhide HL 0 hn1
  clear h hV hcell
  generalize vl L = v at *
  go_enter Try.func15, Try.ntmps15
  go_wp2
  go_loopw [4, 3] (fun i r wr => Hid (Below w.heap.size w wr) ∧ ∃ k : Nat, k ≤ G ∧ i = .int .i64 k ∧ Hid (wr.ownsRow w.heap.size 3 1 r k (intVals (List.replicate k (-1))))) (fun i _ _ => G - (intOf i).toNat)
  case atStart => exact ⟨Below.refl _ _, 0, Nat.zero_le _, rfl, World.ownsRow_nil _ _ _ _⟩
  case round =>
    obtain ⟨HB, k, hk, rfl, HR⟩ := hrel
    have hc0 := unhide HC0 _ (unhide HB)
    generalize (slAt L 0).la = la0 at *
    generalize (slAt L 0).lc = lc0 at *
    by_cases hlt : k < G
    · go_wp2_with (at_builtin; refine wpList_append_int _ rfl _ _ rfl w.heap.size _ _ _ rfl ((unhide HR).alloc _) wr.heap.size (-1) rfl (by simp) (by omega) (by have := (unhide HB).size; simp; omega) ?_; intro v2 w3 ho2 hg2)
      go_roundw
      case rel =>
        have hb5 := (((Below.refl w.heap.size wr).alloc (unhide HB).size (.cells #[.int .i64 (-1)] 3)).grown hg2 (by have := (unhide HB).size; simp; omega) (fun q hq => ((unhide HR).lt q hq).1))
        refine ⟨(unhide HB).trans hb5, k + 1, by omega, by go_num, ?_⟩
        show _root_.Go.World.ownsRow _ _ _ _ _ _ _
        rw [List.replicate_succ', intVals_append]
        exact ho2
      case measure => simp [intOf]; omega
    · obtain rfl : G = k := by omega
      obtain ⟨va, cap, hv3, e1, e2, hrow⟩ := Row.of_owns (unhide HR)
      subst hv3
      have HR0 : Hid (Row w.heap.size wr va G (trF v n G 0)) := hrow.same (fun j hj => by rw [List.getElem?_replicate, if_pos hj]; rfl)
      unfold maxLen at e2
      clear hrow HR
      go_wp2
      go_loopw [5, 6, 7, 8] (fun i _ _ _ wr => Hid (Below w.heap.size w wr) ∧ ∃ k : Nat, k ≤ G ∧ i = .int .i64 k ∧ Hid (Row w.heap.size wr va G (trF v n G k))) (fun i _ _ _ _ => G - (intOf i).toNat)
      case atStart => exact ⟨HB, 0, Nat.zero_le _, rfl, HR0⟩
      case round =>
        clear HB HR0 hc0
        obtain ⟨HB, t, ht, rfl, HR⟩ := hrel
        by_cases hlt2 : t < G
        · obtain ⟨g, hva⟩ : ∃ g, va = some ⟨g, 0, none⟩ := by
            rcases unhide HR with q | ⟨g, q, -⟩
            · omega
            · exact ⟨g, q⟩
          subst hva
          obtain ⟨m, m1, m2, m3⟩ := (unhide HT t ht).2.2 hlt2
          have hfin := (unhide HT t ht).2.1
          have hi : t % n < n := Nat.mod_lt _ (by omega)
          have hmG := m2.2.1
          have HDD := hide (dd_dr m2)
          have HNX := hide m3
          have HFI := hide hfin
          have hrem : (t : Int).tmod (n : Int) = ((t % n : Nat) : Int) := by rw [Int.tmod_eq_emod_of_nonneg (by omega)]; omega
          have hn0 : ((n : Int) == 0) = false := by simp; omega
          clear m1 m2 m3 hfin
          generalize hq : t % n = q at *
          clear hq
          obtain ⟨f, hf⟩ : ∃ f, f = trF v n G t := ⟨_, rfl⟩
          rw [← hf] at HR HDD HNX HFI
          clear hf
          go_wp2
          rename World => wq
          go_loopw [8, 7] (fun i x wr => Hid (Below wq.heap.size wq wr) ∧ ∃ d : Nat, d ≤ G ∧ i = .int .i64 ((G : Int) - 1 - d) ∧ x = .int .i64 (ddB (v q) f G d)) (fun i _ _ => (intOf i + 1).toNat)
          case atStart => exact ⟨Below.refl _ _, 0, Nat.zero_le _, by simp, rfl⟩
          case round =>
            obtain ⟨HB2, d, hd, rfl, rfl⟩ := hrel
            have HBB : Hid (Below w.heap.size w wr) := (unhide HB).trans ((unhide HB2).mono (unhide HB).size)
            by_cases hlt3 : d < G
            · obtain ⟨j, hj⟩ : ∃ j : Nat, j = G - (d + 1) := ⟨_, rfl⟩
              have hjj : (G : Int) - 1 - (d : Int) = (j : Int) := by omega
              have hjG : j < G := by omega
              have HY := hide (fun q1 => dd_yes (v := v q) (f := f) (G := G) (d := d) q1)
              have HN := hide (fun q1 => dd_no (v := v q) (f := f) (G := G) (d := d) q1)
              rw [← hj] at HY HN
              have hfin := unhide HFI j
              obtain ⟨r1, -, -, -⟩ := ((unhide HR).later (unhide HB2)).at hjG
              have hck := unhide HC _ (unhide HBB) q hi
              obtain ⟨l1, l2⟩ := unhide HL q hi
              obtain ⟨b5, o5, hla, hvc⟩ := unhide HI _ (unhide HBB) q hi (by omega)
              rw [hla] at hck
              have y1 := hvc j hjG
              rw [hjj]
              have hsp := dd_spec (v := v q) (f := f) (G := G) d hd
              generalize (slAt L q).lc = lc at *
              clear hla
              have HJ := hide hj
              clear hj hjj
              by_cases e : f j = -1
              · rw [e] at r1
                have hd0 : decide ((-1 : Int) < 0) = true := by decide
                rcases hsp with ⟨h1, -⟩ | ⟨m', h1, h2⟩
                · have HR2 := hide (unhide HY ⟨e, .inl (by omega)⟩)
                  rw [h1]
                  clear hfin HY HN h1 hvc e
                  go_wp2_with fail
                  go_quiet (fail)
                  go_wp2
                  go_roundw
                  case rel => exact ⟨(unhide HB2).trans ((below_drewN _ _ _).mono (unhide HB2).size), d + 1, by omega, by have := unhide HJ; congr 1; omega, by rw [unhide HR2]⟩
                  case measure => simp [intOf]
                · have hm'G := h2.2.1
                  have y2 := hvc m' hm'G
                  have hdm : decide ((m' : Int) < 0) = false := by simp
                  by_cases e2 : v q m' ≤ v q j
                  · have HR2 := hide (unhide HY ⟨e, .inr (by rw [h1, Int.toNat_natCast]; exact e2)⟩)
                    rw [h1]
                    clear hfin HY HN h1 hvc e h2
                    generalize v q m' = x1 at *
                    generalize v q j = x2 at *
                    go_wp2_with fail
                    go_quiet (fail)
                    go_wp2
                    go_roundw
                    case rel => exact ⟨(unhide HB2).trans ((below_drewN _ _ _).mono (unhide HB2).size), d + 1, by omega, by have := unhide HJ; congr 1; omega, by rw [unhide HR2]⟩
                    case measure => simp [intOf]
                  · have HR2 := hide (unhide HN (fun q1 => by
                      rcases q1.2 with r | r
                      · rw [h1] at r; omega
                      · rw [h1, Int.toNat_natCast] at r; exact e2 r))
                    rw [h1] at HR2
                    rw [h1]
                    clear hfin HY HN h1 hvc e h2
                    generalize v q m' = x1 at *
                    generalize v q j = x2 at *
                    go_wp2_with fail
                    go_quiet (fail)
                    go_wp2
                    go_roundw
                    case rel => exact ⟨(unhide HB2).trans ((below_drewN _ _ _).mono (unhide HB2).size), d + 1, by omega, by have := unhide HJ; congr 1; omega, by rw [unhide HR2]⟩
                    case measure => simp [intOf]
              · obtain ⟨x, hx, hfx⟩ := hfin.resolve_left e
                have HR2 := hide (unhide HN (fun q1 => e q1.1))
                rw [hfx] at r1
                have hd0 : decide ((x : Int) < 0) = false := by simp
                clear hsp HY HN hvc e hfx
                generalize ddB (v q) f G d = z at *
                go_wp2_with fail
                go_quiet (fail)
                go_wp2
                go_roundw
                case rel => exact ⟨(unhide HB2).trans ((below_drewN _ _ _).mono (unhide HB2).size), d + 1, by omega, by have := unhide HJ; congr 1; omega, by rw [unhide HR2]⟩
                case measure => simp [intOf]
            · obtain rfl : G = d := by omega
              have hjj : (G : Int) - 1 - (G : Int) = -1 := by omega
              rw [hjj, unhide HDD]
              have hRl := (unhide HR).later (unhide HB2)
              obtain ⟨r1, r2, r3, r4⟩ := hRl.at hmG
              have HRN : Hid (Row w.heap.size (wr.setCell ⟨g, m, none⟩ (.int .i64 (q : Int))) (some ⟨g, 0, none⟩) G (trF v n G (t + 1))) := hRl.set hmG (fun j hj e => by rw [unhide HNX, upd_ne e]) (by rw [unhide HNX, upd_at])
              have HB3 : Hid (Below w.heap.size w (wr.setCell ⟨g, m, none⟩ (.int .i64 (q : Int)))) := (unhide HBB).setCell (p := ⟨g, m, none⟩) r4 _
              clear hRl hjj
              go_wp2
              go_roundw
              case rel => exact ⟨HB3, t + 1, by omega, by go_num, HRN⟩
              case measure => simp [intOf]; omega
        · obtain rfl : G = t := by omega
          have HRI := hide ((unhide HR).ints (l := lF G (trF v n G G)) (cap := cap) (lF_len _ _).symm e1 (by unfold maxLen; omega) (fun j hj => (lF_at hj).symm))
          go_wp2
          go_ret
          exact ⟨va, cap, rfl, HRI, HB⟩
end Go.Proofs.Ytkeanlpgnnikjaa
