import Derived.Test.YtajdijjecojdhaaDoorF
import Derived.Deep.CutRange
namespace Go.Proofs.YtajdijjecojdhaaDoor
open Go.RowKit
theorem below_drewN (B : Nat) (w : World) (n : Nat) : Below B w (w.drewN n) := ⟨rfl, rfl, rfl, Nat.le_refl _, fun _ _ => rfl⟩
set_option maxRecDepth 100000 in
set_option maxHeartbeats 8000000 in
theorem ranksMay_main (aL : Option Addr) (nL cL : Nat) (lL : List Ag) (aR : Option Addr) (nR cR : Nat) (lR : List Ag) (w : World) (hL : Ags w aL nL cL lL) (hR : Ags w aR nR cR lR) (h1 : ¬ 6 < nL) (h2 : ¬ 6 < nR) :
    Calls Tryd.prog 10 #[.agg #[.slice aL nL cL, .slice aR nR cR]] w fun e w' => e = .returned (.int .i64 (mayFrom (lL ++ lR) nL nR 0)) ∧ Below w.heap.size w w' := by
  have g1 : decide (6 < (nL : Int)) = false := by simp; omega
  have g2 : decide (6 < (nR : Int)) = false := by simp; omega
  have hcL := hL.2.2.1
  have hcR := hR.2.2.1
  have hnL := hL.2.1
  have hnR := hR.2.1
  unfold maxLen at hcL hcR
  have hb0 : Below w.heap.size w ((w.alloc (.cells #[.slice aL nL cL, .slice aR nR cR] 24)).alloc (.cells #[] 27)).drew := by go_grown
  have hown0 : ((w.alloc (.cells #[.slice aL nL cL, .slice aR nR cR] 24)).alloc (.cells #[] 27)).drew.ownsRow (w.heap.size + 1) 27 3 (.slice (some ⟨w.heap.size + 1, 0, none⟩) 0 0) 0 (flat []) :=
    owns_drew (by
      have h := World.ownsRow_made (base := w.heap.size + 1) (e := 27) (size := 3) (w.alloc (.cells #[.slice aL nL cL, .slice aR nR cR] 24)) #[] 0 (by simp) (by unfold maxLen; omega) rfl
      rw [World.size_alloc] at h
      exact h)
  have hL1 := hL.later hb0
  have HO := hide hown0
  clear hown0
  go_enter Tryd.func10, Tryd.ntmps10
  go_wp2_with fail
  go_cut [3] from 22 to 28 (fun s3 wc => ∃ a c, s3 = .slice a (nL + nR) c ∧ Ags wc a (nL + nR) c (lL ++ lR) ∧ Below (w.heap.size + 1) (w.alloc (.cells #[.slice aL nL cL, .slice aR nR cR] 24)) wc)
  case first =>
    have hbX : Below (w.heap.size + 1) (w.alloc (.cells #[.slice aL nL cL, .slice aR nR cR] 24)) ((w.alloc (.cells #[.slice aL nL cL, .slice aR nR cR] 24)).alloc (.cells #[] 27)).drew := by go_grown
    go_region_law (first
        | (refine step_append_ags _ rfl (.tmp 22) (.tmp 24) rfl (w.heap.size + 1) _ 0 [] (by simp [Act.eval]) (unhide HO) aL nL cL lL (by simp [Act.eval]) hL1 (by omega) (by simp) ?_
           intro v2 w2 ho2 hg2
           have hb2 := (Below.refl (w.heap.size + 1) _).grown hg2 (by simp) (fun k hk => ((unhide HO).lt k hk).1)
           have d1 : w2.cell? ⟨w.heap.size, 1, none⟩ = some (.slice aR nR cR) := (hb2.cell (p := ⟨w.heap.size, 1, none⟩) (by simp)).trans (by simp)
           have hR2 := hR.later (hb0.trans (hb2.mono (by omega)))
           clear hg2)
        | (refine step_append_ags _ rfl (.tmp 25) (.tmp 27) rfl (w.heap.size + 1) _ (0 + nL) ([] ++ lL) (by simp [Act.eval]; rfl) (by assumption) aR nR cR lR (by simp [Act.eval]) (by assumption) (by omega) (by have := hb2.size; simp at this; omega) ?_
           intro v3 w3 ho3 hg3
           have hb3 := hb2.grown hg3 (by have := hb2.size; simp at this; omega) (fun k hk => (ho2.lt k hk).1)
           clear hg3))
    all_goals
      go_wp2_with fail
      go_meet
      case rel =>
        simp only [Nat.zero_add, List.nil_append] at ho3
        have hb4 : Below w.heap.size w w3 := hb0.trans (hb3.mono (by omega))
        obtain ⟨a3, c3, hv3, hA⟩ := Ags.of_owns ho3 (fun g hg => by
          rcases List.mem_append.1 hg with hg | hg
          · exact ⟨((hL.2.2.2.1 g hg).1).later hb4, (hL.2.2.2.1 g hg).2⟩
          · exact ⟨((hR.2.2.2.1 g hg).1).later hb4, (hR.2.2.2.1 g hg).2⟩)
        exact ⟨a3, c3, hv3, hA, hbX.trans hb3⟩
  case rest =>
    obtain ⟨a, c, rfl, hA, hbc⟩ := hcut
    have hA0 := hA
    obtain ⟨hAn, hAc, hAm, _, hrow⟩ := hA
    unfold maxLen at hAm
    have HA := hide hAn
    clear hAn
    have hbw : Below w.heap.size w wc := by
      have h := (Below.refl w.heap.size w).alloc (Nat.le_refl _) (.cells #[.slice aL nL cL, .slice aR nR cR] 24)
      exact h.trans (hbc.mono (by omega))
    have e0 : wc.cell? ⟨w.heap.size, 0, none⟩ = some (.slice aL nL cL) := (hbc.cell (p := ⟨w.heap.size, 0, none⟩) (by simp)).trans (by simp)
    have e1 : wc.cell? ⟨w.heap.size, 1, none⟩ = some (.slice aR nR cR) := (hbc.cell (p := ⟨w.heap.size, 1, none⟩) (by simp)).trans (by simp)
    have hsz1 : w.heap.size < wc.heap.size := by have := hbc.size; simp at this; omega
    rcases hrow with h0 | ⟨b, off, rfl, hb, hcell⟩
    · have hz : nL = 0 := by omega
      have hz' : nR = 0 := by omega
      subst hz
      subst hz'
      go_wp2_with fail
      refine wp_loop_rounds 1 ?_
      rw [rounds_succ]
      go_wp2
      go_ret
      exact ⟨ret_int (by rw [mayFrom_end (by have := unhide HA; omega)]), hbw⟩
    go_wp2_with fail
    go_loopw [5, 4] (fun i v wr => Below wc.heap.size wc wr ∧ ∃ k : Nat, k ≤ nL + nR ∧ i = .int .i64 k ∧ wr.ownsRow wc.heap.size 9 1 v k ((names ((lL ++ lR).take k)).map Value.string) ∧ mayFrom (lL ++ lR) nL nR 0 = mayFrom (lL ++ lR) nL nR k) (fun i _ _ => nL + nR - (intOf i).toNat)
    case atStart => exact ⟨Below.refl _ _, 0, Nat.zero_le _, rfl, World.ownsRow_nil _ _ _ _, rfl⟩
    case round =>
      obtain ⟨hbr, k, hk, rfl, hown, hn⟩ := hrel
      have HI := hide hn
      clear hn
      have hbwr : Below w.heap.size w wr := hbw.trans (hbr.mono (by omega))
      by_cases hlt : k < nL + nR
      · have hlen : k < (lL ++ lR).length := by have := unhide HA; omega
        have hAr := hA0.later hbr
        have hgl := hAr.mem hlt
        obtain ⟨q1, q2, q3⟩ := hcell k hlt
        have r1 := (hbr.cell (p := ⟨b, off + k * 3, none⟩) hb).trans q1
        have r2 := (hbr.cell (p := ⟨b, off + k * 3 + 1, none⟩) hb).trans q2
        have r3 := (hbr.cell (p := ⟨b, off + k * 3 + 2, none⟩) hb).trans q3
        have s0 := (hbr.cell (p := ⟨w.heap.size, 0, none⟩) hsz1).trans e0
        have s1 := (hbr.cell (p := ⟨w.heap.size, 1, none⟩) hsz1).trans e1
        have hszr : w.heap.size < wr.heap.size := Nat.lt_of_lt_of_le hsz1 hbr.size
        have hszb : b < wr.heap.size := Nat.lt_of_lt_of_le hb hbr.size
        have HT := hide (names_take (lL ++ lR) k hlen)
        have hst := hide (mayFrom_step (nL := nL) (nR := nR) hlen)
        obtain ⟨va, vc, rfl, hS⟩ := Strs.of_owns hown (by omega)
        have hSx := fun o => hS.later (w' := wr.alloc o) (by go_grown)
        have hbx : ∀ o, Below wr.heap.size wr (wr.alloc o) := fun o => by go_grown
        have HC := hide hcell
        clear q1 q2 q3 hcell hlen
        generalize hG : agAt (lL ++ lR) k = G at *
        obtain ⟨nm, room, la, ln, lc, likes⟩ := G
        have HG := hide hG
        clear hG
        obtain ⟨hI, hnm⟩ := hgl
        simp only at hI hnm r1 r2 r3 HT
        cases hnb : nameB nm with
        | false =>
          go_wp2_with (first | (go_at_call 21; refine (named_any nm _ hnm).mono ?_; rintro e w' ⟨rfl, rfl⟩) | (go_at_call 22; refine (hasText_names va k vc _ nm _ (hSx _)).mono ?_; rintro e w' ⟨rfl, rfl⟩))
          go_ret
          refine ⟨ret_int ?_, ?_⟩
          · rw [unhide HI, unhide hst]
            simp [agE, hnb]
          · exact hbwr.trans ((hbx _).mono hbwr.size)
        | true =>
        by_cases hp : 0 ≤ aidxFrom ((lL ++ lR).take k) nm 0
        · go_wp2_with (first | (go_at_call 21; refine (named_any nm _ hnm).mono ?_; rintro e w' ⟨rfl, rfl⟩) | (go_at_call 22; refine (hasText_names va k vc _ nm _ (hSx _)).mono ?_; rintro e w' ⟨rfl, rfl⟩))
          go_ret
          refine ⟨ret_int ?_, ?_⟩
          · rw [unhide HI, unhide hst]
            simp [agE, hnb, hp]
          · exact hbwr.trans ((hbx _).mono hbwr.size)
        have hp' : aidxFrom ((lL ++ lR).take k) nm 0 < 0 := by omega
        by_cases hr : room < 1 ∨ 4 < room
        · have HR := hide hr
          have HE : Hid (∀ o, agE ⟨nm, room, la, ln, lc, likes⟩ ((lL ++ lR).take k) o = 9) := fun o => by simp only [agE]; rw [hnb, if_neg (by decide), if_neg hp, if_pos hr]
          clear hr hp
          rcases unhide HR with hr | hr
          · go_wp2_with (first | (go_at_call 21; refine (named_any nm _ hnm).mono ?_; rintro e w' ⟨rfl, rfl⟩) | (go_at_call 22; refine (hasText_names va k vc _ nm _ (hSx _)).mono ?_; rintro e w' ⟨rfl, rfl⟩))
            go_ret
            refine ⟨ret_int ?_, ?_⟩
            · rw [unhide HI, unhide hst, unhide HE, if_neg (by decide)]
            · exact hbwr.trans ((hbx _).mono hbwr.size)
          · have hr2 : ¬ room < 1 := by omega
            go_wp2_with (first | (go_at_call 21; refine (named_any nm _ hnm).mono ?_; rintro e w' ⟨rfl, rfl⟩) | (go_at_call 22; refine (hasText_names va k vc _ nm _ (hSx _)).mono ?_; rintro e w' ⟨rfl, rfl⟩))
            go_ret
            refine ⟨ret_int ?_, ?_⟩
            · rw [unhide HI, unhide hst, unhide HE, if_neg (by decide)]
            · exact hbwr.trans ((hbx _).mono hbwr.size)
        have HE : Hid (∀ o, agE ⟨nm, room, la, ln, lc, likes⟩ ((lL ++ lR).take k) o = likesFrom likes o 0) := fun o => by simp only [agE]; rw [hnb, if_neg (by decide), if_neg hp, if_neg hr]
        have hd1 : decide (room < 1) = false := by simp; omega
        have hd2 : decide (4 < room) = false := by simp; omega
        have hd0 : decide (0 ≤ aidxFrom ((lL ++ lR).take k) nm 0) = false := by simpa using hp'
        clear hr hp
        have hI0 := hI
        obtain ⟨hIn, hIc, hIm, hIrow⟩ := hI
        have HN := hide hIn
        clear hIn
        unfold maxLen at hIm
        have hcase : ln = 0 ∨ ∃ lb loff, la = some ⟨lb, loff, none⟩ := by
          rcases hIrow with hz | ⟨lb, loff, hla, _⟩
          · exact Or.inl hz
          · exact Or.inr ⟨lb, loff, hla⟩
        have HR := hide hIrow
        clear hIrow
        by_cases hkL : k < nL
        · rw [if_pos hkL] at hst
          have hlk : decide ((k : Int) < (nL : Int)) = true := by simp; omega
          rcases hcase with hz | ⟨lb, loff, rfl⟩
          · subst hz
            go_wp2_with (first | (go_at_call 21; refine (named_any nm _ hnm).mono ?_; rintro e w' ⟨rfl, rfl⟩) | (go_at_call 22; refine (hasText_names va k vc _ nm _ (hSx _)).mono ?_; rintro e w' ⟨rfl, rfl⟩))
            go_loopw [10, 11] (fun j _ wq => Below (wr.heap.size + 1) (wr.alloc (.cells #[.string nm, .int .i64 room, .slice la 0 lc] 27)) wq ∧ ∃ m : Nat, m ≤ 0 ∧ j = .int .i64 m ∧ likesFrom likes (nR : Int) 0 = likesFrom likes (nR : Int) m) (fun j _ _ => 0 - (intOf j).toNat)
            case atStart => exact ⟨Below.refl _ _, 0, Nat.zero_le _, rfl, rfl⟩
            case round =>
              rename World => wq
              obtain ⟨hbq, m, hm, rfl, hjn⟩ := hrel
              have HJ := hide hjn
              clear hjn
              have f0 : wq.cell? ⟨wr.heap.size, 0, none⟩ = some (.string nm) := (hbq.cell (p := ⟨wr.heap.size, 0, none⟩) (by simp)).trans (by simp)
              have f2 : wq.cell? ⟨wr.heap.size, 2, none⟩ = some (.slice la 0 lc) := (hbq.cell (p := ⟨wr.heap.size, 2, none⟩) (by simp)).trans (by simp)
              have hszq : wr.heap.size < wq.heap.size := by have := hbq.size; simp at this; omega
              have hbz : Below w.heap.size w wq := hbwr.trans (((hbx _).trans (hbq.mono (by omega))).mono hbwr.size)
              by_cases hm2 : m < 0
              · skip
                exfalso
                omega
              · have hbo : Below wr.heap.size wr wq := (hbx _).trans (hbq.mono (by omega))
                have hownq := owns_later hown hbo
                have HO := hide hownq
                have hbB : wc.heap.size ≤ wq.heap.size := Nat.le_trans hbr.size hbo.size
                clear hownq
                go_wp2_with (at_builtin; refine wpList_append_str _ rfl _ _ rfl wc.heap.size (.slice va k vc) k _ rfl ((unhide HO).alloc _) wq.heap.size nm rfl (by simp) (by omega) (by simp; omega) ?_; intro v2 w2 ho2 hg2)
                go_roundw
                case rel =>
                  have hb5 := (((Below.refl wc.heap.size wq).alloc hbB (.cells #[.string nm] 9)).grown hg2 (by simp; omega) (fun q hq => ((unhide HO).lt q hq).1))
                  refine ⟨(hbr.trans (hbo.mono hbr.size)).trans hb5, k+1, by omega, by go_num, ?_, ?_⟩
                  · rw [← unhide HT]; exact ho2
                  · rw [unhide HI, unhide hst, unhide HE, unhide HJ, likesFrom_end (by have := unhide HN; omega), if_pos rfl]
                case measure => simp [intOf]; omega
          · skip
            go_wp2_with (first | (go_at_call 21; refine (named_any nm _ hnm).mono ?_; rintro e w' ⟨rfl, rfl⟩) | (go_at_call 22; refine (hasText_names va k vc _ nm _ (hSx _)).mono ?_; rintro e w' ⟨rfl, rfl⟩))
            go_loopw [10, 11] (fun j _ wq => Below (wr.heap.size + 1) (wr.alloc (.cells #[.string nm, .int .i64 room, .slice (some ⟨lb, loff, none⟩) ln lc] 27)) wq ∧ ∃ m : Nat, m ≤ ln ∧ j = .int .i64 m ∧ likesFrom likes (nR : Int) 0 = likesFrom likes (nR : Int) m) (fun j _ _ => ln - (intOf j).toNat)
            case atStart => exact ⟨Below.refl _ _, 0, Nat.zero_le _, rfl, rfl⟩
            case round =>
              rename World => wq
              obtain ⟨hbq, m, hm, rfl, hjn⟩ := hrel
              have HJ := hide hjn
              clear hjn
              have f0 : wq.cell? ⟨wr.heap.size, 0, none⟩ = some (.string nm) := (hbq.cell (p := ⟨wr.heap.size, 0, none⟩) (by simp)).trans (by simp)
              have f2 : wq.cell? ⟨wr.heap.size, 2, none⟩ = some (.slice (some ⟨lb, loff, none⟩) ln lc) := (hbq.cell (p := ⟨wr.heap.size, 2, none⟩) (by simp)).trans (by simp)
              have hszq : wr.heap.size < wq.heap.size := by have := hbq.size; simp at this; omega
              have hbz : Below w.heap.size w wq := hbwr.trans (((hbx _).trans (hbq.mono (by omega))).mono hbwr.size)
              by_cases hm2 : m < ln
              · skip
                have hck : wq.cell? ⟨lb, loff + m, none⟩ = some (.int .i64 (likes[m]?.getD 0)) := by
                  rcases unhide HR with hz | ⟨lb', loff', he, hlb, hcl⟩
                  · omega
                  · cases he
                    exact (hbq.cell (p := ⟨lb, loff + m, none⟩) (by show lb < wr.heap.size + 1; omega)).trans (((hbx _).cell (p := ⟨lb, loff + m, none⟩) hlb).trans (hcl m hm2))
                have hIq : Ints wq (some ⟨lb, loff, none⟩) ln lc likes := hI0.later ((hbx _).trans (hbq.mono (by omega)))
                have HL := hide (show m < likes.length by have := unhide HN; omega)
                by_cases he : likes[m]?.getD 0 < 0 ∨ (nR : Int) ≤ likes[m]?.getD 0
                · have HX := hide (likesFrom_who (unhide HL) he)
                  rcases he with he | he
                  · go_wp2
                    go_ret
                    exact ⟨ret_int (by rw [unhide HI, unhide hst, unhide HE, unhide HJ, unhide HX, if_neg (by decide)]), hbz⟩
                  · have he2 : ¬ likes[m]?.getD 0 < 0 := by omega
                    go_wp2
                    go_ret
                    exact ⟨ret_int (by rw [unhide HI, unhide hst, unhide HE, unhide HJ, unhide HX, if_neg (by decide)]), hbz⟩
                · have he1 : ¬ likes[m]?.getD 0 < 0 := by omega
                  have he2 : ¬ (nR : Int) ≤ likes[m]?.getD 0 := by omega
                  have HQ := hide (idx_take likes m (unhide HL))
                  by_cases hd : idxFrom likes (likes[m]?.getD 0) 0 < m
                  · have HX := hide (likesFrom_dbl (unhide HL) he ((unhide HQ).2 hd))
                    clear he
                    go_wp2_with fail
                    go_quiet ((go_at_call 12; exact Calls.quiet_of_same (place_any _ ln lc likes _ _ hIq)))
                    go_wp2
                    go_ret
                    exact ⟨ret_int (by rw [unhide HI, unhide hst, unhide HE, unhide HJ, unhide HX, if_neg (by decide)]), hbz.trans (below_drewN _ _ _)⟩
                  · have HX := hide (likesFrom_on (unhide HL) he (fun h => hd ((unhide HQ).1 h)))
                    clear he
                    have hd' : (m : Int) ≤ idxFrom likes (likes[m]?.getD 0) 0 := by omega
                    go_wp2_with fail
                    go_quiet ((go_at_call 12; exact Calls.quiet_of_same (place_any _ ln lc likes _ _ hIq)))
                    go_wp2
                    go_roundw
                    case rel => exact ⟨hbq.trans (below_drewN _ _ _), m+1, by omega, by go_num, by rw [unhide HJ, unhide HX]⟩
                    case measure => simp [intOf]; omega
              · have hbo : Below wr.heap.size wr wq := (hbx _).trans (hbq.mono (by omega))
                have hownq := owns_later hown hbo
                have HO := hide hownq
                have hbB : wc.heap.size ≤ wq.heap.size := Nat.le_trans hbr.size hbo.size
                clear hownq
                go_wp2_with (at_builtin; refine wpList_append_str _ rfl _ _ rfl wc.heap.size (.slice va k vc) k _ rfl ((unhide HO).alloc _) wq.heap.size nm rfl (by simp) (by omega) (by simp; omega) ?_; intro v2 w2 ho2 hg2)
                go_roundw
                case rel =>
                  have hb5 := (((Below.refl wc.heap.size wq).alloc hbB (.cells #[.string nm] 9)).grown hg2 (by simp; omega) (fun q hq => ((unhide HO).lt q hq).1))
                  refine ⟨(hbr.trans (hbo.mono hbr.size)).trans hb5, k+1, by omega, by go_num, ?_, ?_⟩
                  · rw [← unhide HT]; exact ho2
                  · rw [unhide HI, unhide hst, unhide HE, unhide HJ, likesFrom_end (by have := unhide HN; omega), if_pos rfl]
                case measure => simp [intOf]; omega
        · rw [if_neg hkL] at hst
          have hlk : decide ((k : Int) < (nL : Int)) = false := by simp; omega
          rcases hcase with hz | ⟨lb, loff, rfl⟩
          · subst hz
            go_wp2_with (first | (go_at_call 21; refine (named_any nm _ hnm).mono ?_; rintro e w' ⟨rfl, rfl⟩) | (go_at_call 22; refine (hasText_names va k vc _ nm _ (hSx _)).mono ?_; rintro e w' ⟨rfl, rfl⟩))
            go_loopw [10, 11] (fun j _ wq => Below (wr.heap.size + 1) (wr.alloc (.cells #[.string nm, .int .i64 room, .slice la 0 lc] 27)) wq ∧ ∃ m : Nat, m ≤ 0 ∧ j = .int .i64 m ∧ likesFrom likes (nL : Int) 0 = likesFrom likes (nL : Int) m) (fun j _ _ => 0 - (intOf j).toNat)
            case atStart => exact ⟨Below.refl _ _, 0, Nat.zero_le _, rfl, rfl⟩
            case round =>
              rename World => wq
              obtain ⟨hbq, m, hm, rfl, hjn⟩ := hrel
              have HJ := hide hjn
              clear hjn
              have f0 : wq.cell? ⟨wr.heap.size, 0, none⟩ = some (.string nm) := (hbq.cell (p := ⟨wr.heap.size, 0, none⟩) (by simp)).trans (by simp)
              have f2 : wq.cell? ⟨wr.heap.size, 2, none⟩ = some (.slice la 0 lc) := (hbq.cell (p := ⟨wr.heap.size, 2, none⟩) (by simp)).trans (by simp)
              have hszq : wr.heap.size < wq.heap.size := by have := hbq.size; simp at this; omega
              have hbz : Below w.heap.size w wq := hbwr.trans (((hbx _).trans (hbq.mono (by omega))).mono hbwr.size)
              by_cases hm2 : m < 0
              · skip
                exfalso
                omega
              · have hbo : Below wr.heap.size wr wq := (hbx _).trans (hbq.mono (by omega))
                have hownq := owns_later hown hbo
                have HO := hide hownq
                have hbB : wc.heap.size ≤ wq.heap.size := Nat.le_trans hbr.size hbo.size
                clear hownq
                go_wp2_with (at_builtin; refine wpList_append_str _ rfl _ _ rfl wc.heap.size (.slice va k vc) k _ rfl ((unhide HO).alloc _) wq.heap.size nm rfl (by simp) (by omega) (by simp; omega) ?_; intro v2 w2 ho2 hg2)
                go_roundw
                case rel =>
                  have hb5 := (((Below.refl wc.heap.size wq).alloc hbB (.cells #[.string nm] 9)).grown hg2 (by simp; omega) (fun q hq => ((unhide HO).lt q hq).1))
                  refine ⟨(hbr.trans (hbo.mono hbr.size)).trans hb5, k+1, by omega, by go_num, ?_, ?_⟩
                  · rw [← unhide HT]; exact ho2
                  · rw [unhide HI, unhide hst, unhide HE, unhide HJ, likesFrom_end (by have := unhide HN; omega), if_pos rfl]
                case measure => simp [intOf]; omega
          · skip
            go_wp2_with (first | (go_at_call 21; refine (named_any nm _ hnm).mono ?_; rintro e w' ⟨rfl, rfl⟩) | (go_at_call 22; refine (hasText_names va k vc _ nm _ (hSx _)).mono ?_; rintro e w' ⟨rfl, rfl⟩))
            go_loopw [10, 11] (fun j _ wq => Below (wr.heap.size + 1) (wr.alloc (.cells #[.string nm, .int .i64 room, .slice (some ⟨lb, loff, none⟩) ln lc] 27)) wq ∧ ∃ m : Nat, m ≤ ln ∧ j = .int .i64 m ∧ likesFrom likes (nL : Int) 0 = likesFrom likes (nL : Int) m) (fun j _ _ => ln - (intOf j).toNat)
            case atStart => exact ⟨Below.refl _ _, 0, Nat.zero_le _, rfl, rfl⟩
            case round =>
              rename World => wq
              obtain ⟨hbq, m, hm, rfl, hjn⟩ := hrel
              have HJ := hide hjn
              clear hjn
              have f0 : wq.cell? ⟨wr.heap.size, 0, none⟩ = some (.string nm) := (hbq.cell (p := ⟨wr.heap.size, 0, none⟩) (by simp)).trans (by simp)
              have f2 : wq.cell? ⟨wr.heap.size, 2, none⟩ = some (.slice (some ⟨lb, loff, none⟩) ln lc) := (hbq.cell (p := ⟨wr.heap.size, 2, none⟩) (by simp)).trans (by simp)
              have hszq : wr.heap.size < wq.heap.size := by have := hbq.size; simp at this; omega
              have hbz : Below w.heap.size w wq := hbwr.trans (((hbx _).trans (hbq.mono (by omega))).mono hbwr.size)
              by_cases hm2 : m < ln
              · skip
                have hck : wq.cell? ⟨lb, loff + m, none⟩ = some (.int .i64 (likes[m]?.getD 0)) := by
                  rcases unhide HR with hz | ⟨lb', loff', he, hlb, hcl⟩
                  · omega
                  · cases he
                    exact (hbq.cell (p := ⟨lb, loff + m, none⟩) (by show lb < wr.heap.size + 1; omega)).trans (((hbx _).cell (p := ⟨lb, loff + m, none⟩) hlb).trans (hcl m hm2))
                have hIq : Ints wq (some ⟨lb, loff, none⟩) ln lc likes := hI0.later ((hbx _).trans (hbq.mono (by omega)))
                have HL := hide (show m < likes.length by have := unhide HN; omega)
                by_cases he : likes[m]?.getD 0 < 0 ∨ (nL : Int) ≤ likes[m]?.getD 0
                · have HX := hide (likesFrom_who (unhide HL) he)
                  rcases he with he | he
                  · go_wp2
                    go_ret
                    exact ⟨ret_int (by rw [unhide HI, unhide hst, unhide HE, unhide HJ, unhide HX, if_neg (by decide)]), hbz⟩
                  · have he2 : ¬ likes[m]?.getD 0 < 0 := by omega
                    go_wp2
                    go_ret
                    exact ⟨ret_int (by rw [unhide HI, unhide hst, unhide HE, unhide HJ, unhide HX, if_neg (by decide)]), hbz⟩
                · have he1 : ¬ likes[m]?.getD 0 < 0 := by omega
                  have he2 : ¬ (nL : Int) ≤ likes[m]?.getD 0 := by omega
                  have HQ := hide (idx_take likes m (unhide HL))
                  by_cases hd : idxFrom likes (likes[m]?.getD 0) 0 < m
                  · have HX := hide (likesFrom_dbl (unhide HL) he ((unhide HQ).2 hd))
                    clear he
                    go_wp2_with fail
                    go_quiet ((go_at_call 12; exact Calls.quiet_of_same (place_any _ ln lc likes _ _ hIq)))
                    go_wp2
                    go_ret
                    exact ⟨ret_int (by rw [unhide HI, unhide hst, unhide HE, unhide HJ, unhide HX, if_neg (by decide)]), hbz.trans (below_drewN _ _ _)⟩
                  · have HX := hide (likesFrom_on (unhide HL) he (fun h => hd ((unhide HQ).1 h)))
                    clear he
                    have hd' : (m : Int) ≤ idxFrom likes (likes[m]?.getD 0) 0 := by omega
                    go_wp2_with fail
                    go_quiet ((go_at_call 12; exact Calls.quiet_of_same (place_any _ ln lc likes _ _ hIq)))
                    go_wp2
                    go_roundw
                    case rel => exact ⟨hbq.trans (below_drewN _ _ _), m+1, by omega, by go_num, by rw [unhide HJ, unhide HX]⟩
                    case measure => simp [intOf]; omega
              · have hbo : Below wr.heap.size wr wq := (hbx _).trans (hbq.mono (by omega))
                have hownq := owns_later hown hbo
                have HO := hide hownq
                have hbB : wc.heap.size ≤ wq.heap.size := Nat.le_trans hbr.size hbo.size
                clear hownq
                go_wp2_with (at_builtin; refine wpList_append_str _ rfl _ _ rfl wc.heap.size (.slice va k vc) k _ rfl ((unhide HO).alloc _) wq.heap.size nm rfl (by simp) (by omega) (by simp; omega) ?_; intro v2 w2 ho2 hg2)
                go_roundw
                case rel =>
                  have hb5 := (((Below.refl wc.heap.size wq).alloc hbB (.cells #[.string nm] 9)).grown hg2 (by simp; omega) (fun q hq => ((unhide HO).lt q hq).1))
                  refine ⟨(hbr.trans (hbo.mono hbr.size)).trans hb5, k+1, by omega, by go_num, ?_, ?_⟩
                  · rw [← unhide HT]; exact ho2
                  · rw [unhide HI, unhide hst, unhide HE, unhide HJ, likesFrom_end (by have := unhide HN; omega), if_pos rfl]
                case measure => simp [intOf]; omega
      · go_wp2
        go_ret
        exact ⟨ret_int (by rw [unhide HI, mayFrom_end (by have := unhide HA; omega)]), hbwr⟩
set_option maxHeartbeats 1000000 in
theorem ranksMay_any (aL : Option Addr) (nL cL : Nat) (lL : List Ag) (aR : Option Addr) (nR cR : Nat) (lR : List Ag) (w : World) (hL : Ags w aL nL cL lL) (hR : Ags w aR nR cR lR) :
    Calls Tryd.prog 10 #[.agg #[.slice aL nL cL, .slice aR nR cR]] w fun e w' => e = .returned (.int .i64 (mayE lL lR)) ∧ Below w.heap.size w w' := by
  have hlL := hide hL.1
  have hlR := hide hR.1
  by_cases h1 : 6 < nL
  · go_enter Tryd.func10, Tryd.ntmps10
    go_wp2
    go_ret
    exact ⟨ret_int (by unfold mayE; rw [if_pos (Or.inl (by have := unhide hlL; omega))]), by go_grown⟩
  by_cases h2 : 6 < nR
  · go_enter Tryd.func10, Tryd.ntmps10
    go_wp2
    go_ret
    exact ⟨ret_int (by unfold mayE; rw [if_pos (Or.inr (by have := unhide hlR; omega))]), by go_grown⟩
  refine (ranksMay_main aL nL cL lL aR nR cR lR w hL hR h1 h2).mono ?_
  rintro e w' ⟨rfl, hb⟩
  refine ⟨ret_int ?_, hb⟩
  unfold mayE
  rw [if_neg (by have := unhide hlL; have := unhide hlR; omega), ← unhide hlL, ← unhide hlR]
end Go.Proofs.YtajdijjecojdhaaDoor
