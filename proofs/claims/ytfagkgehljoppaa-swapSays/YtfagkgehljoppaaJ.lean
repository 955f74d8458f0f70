import Derived.Test.YtfagkgehljoppaaI
import Derived.Deep.RegionWith
import Derived.Deep.RegionHeld
import Derived.Deep.AppendLies
namespace Go.Proofs.Ytfagkgehljoppaa
open Go.RowKit
/-- What is said of the chains of a plan, the one behind the other; u: who is used, g: how many gifts. -/
def planR (F : List Sl) (n : Nat) (mayB : List Int → Bool) (gf : List Int → Int) : List (List Int) → List Int → Int → Int × List Int × Int
  | [], u, g => (0, u, g)
  | l :: rest, u, g => if chE F n l u ≠ 0 then (chE F n l u, u, g) else if mayB l = false then (11, u, g) else planR F n mayB gf rest (u ++ l) (g + gf l)
theorem ch_valid {F : List Sl} {n : Nat} {l u : List Int} : ∀ d k, l.length - k = d → chFrom F n l u k = 0 → ∀ j, k ≤ j → j < l.length → 0 ≤ l[j]?.getD 0 ∧ l[j]?.getD 0 < n := by
  intro d
  induction d with
  | zero => intro k hk _ j h1 h2; omega
  | succ d ih =>
    intro k hk h j h1 h2
    rw [ch_step (by omega)] at h
    by_cases c : l[k]?.getD 0 < 0 ∨ (n : Int) ≤ l[k]?.getD 0
    · rw [if_pos c] at h; omega
    rw [if_neg c] at h
    by_cases c2 : l[k]?.getD 0 ∈ u ++ l.take k
    · rw [if_pos c2] at h; omega
    rw [if_neg c2] at h
    by_cases c3 : 0 < k ∧ fitsB F (l[k - 1]?.getD 0).toNat (l[k]?.getD 0) = false
    · rw [if_pos c3] at h; omega
    rw [if_neg c3] at h
    by_cases e : j = k
    · subst e; omega
    · exact ih (k + 1) (by omega) h j (by omega) h2
theorem chE_ok {F : List Sl} {n : Nat} {l u : List Int} (h : chE F n l u = 0) : 2 ≤ l.length ∧ ∀ j, j < l.length → 0 ≤ l[j]?.getD 0 ∧ l[j]?.getD 0 < n := by
  unfold chE at h
  by_cases c : l.length < 2
  · rw [if_pos c] at h; omega
  · rw [if_neg c] at h
    exact ⟨by omega, fun j hj => ch_valid _ 0 rfl h j (Nat.zero_le _) hj⟩
theorem eight_of {l : List Int} {n : Nat} (h8 : n ≤ 8) (h : ∀ j, j < l.length → 0 ≤ l[j]?.getD 0 ∧ l[j]?.getD 0 < n) : Eight l := fun x hx => by
  obtain ⟨j, hj, e⟩ := List.getElem_of_mem hx
  have := h j hj
  rw [List.getElem?_eq_getElem hj] at this
  have t : (some l[j]).getD 0 = x := e
  rw [t] at this
  omega
/-- One int that is written. -/
structure One (W : World) (p : Nat) (x : Int) : Prop where
  c : W.cell? ⟨p, 0, none⟩ = some (.int .i64 x)
  f : W.frozen? ⟨p, 0, none⟩ = false
theorem One.lt {W : World} {p : Nat} {x : Int} (h : One W p x) : p < W.heap.size := World.block_lt_of_cell? W _ h.c
theorem One.later {W W' : World} {p : Nat} {x : Int} (h : One W p x) (hb : Below W.heap.size W W') : One W' p x := ⟨(hb.cell (p := ⟨p, 0, none⟩) h.lt).trans h.c, (hb.frozen (p := ⟨p, 0, none⟩) h.lt).trans h.f⟩
theorem One.set {W : World} {p : Nat} {x : Int} (h : One W p x) (y : Int) : One (W.setCell ⟨p, 0, none⟩ (.int .i64 y)) p y := ⟨World.cell?_setCell_same _ _ _ h.c, (World.frozen?_setCell _ _ _ _).trans h.f⟩
theorem One.apart {W : World} {p q : Nat} {x : Int} (h : One W p x) (hne : q ≠ p) (v : Value) : One (W.setCell ⟨q, 0, none⟩ v) p x := ⟨(World.cell?_setCell_far W ⟨q, 0, none⟩ ⟨p, 0, none⟩ v hne).trans h.c, (World.frozen?_setCell _ _ _ _).trans h.f⟩
theorem SBox.apart {W : World} {b : Nat} {gv rd rw : Int} {fa : Option Addr} {fn fc : Nat} (h : SBox W b gv rd rw fa fn fc) {q : Nat} (hne : q ≠ b) (v : Value) : SBox (W.setCell ⟨q, 0, none⟩ v) b gv rd rw fa fn fc :=
  ⟨(World.cell?_setCell_far W ⟨q, 0, none⟩ ⟨b, 0, none⟩ v hne).trans h.c0, (World.cell?_setCell_far W ⟨q, 0, none⟩ ⟨b, 1, none⟩ v hne).trans h.c1, (World.cell?_setCell_far W ⟨q, 0, none⟩ ⟨b, 2, none⟩ v hne).trans h.c2, (World.cell?_setCell_far W ⟨q, 0, none⟩ ⟨b, 3, none⟩ v hne).trans h.c3⟩
/-- Where Check stands: who is used, how many gifts. -/
structure CS (w0 : World) (gv rd rw : Int) (fa : Option Addr) (fn fc : Nat) (Bs Bu Bg : Nat) (W : World) (u : List Int) (g : Int) : Prop where
  bel : Below w0.heap.size w0 W
  box : SBox W Bs gv rd rw fa fn fc
  us : One W Bu (setN u)
  gi : One W Bg g
  ei : Eight u
theorem CS.later {w0 : World} {gv rd rw : Int} {fa : Option Addr} {fn fc : Nat} {Bs Bu Bg : Nat} {W W' : World} {u : List Int} {g : Int} (h : CS w0 gv rd rw fa fn fc Bs Bu Bg W u g) (hb : Below W.heap.size W W') : CS w0 gv rd rw fa fn fc Bs Bu Bg W' u g :=
  ⟨h.bel.trans (hb.mono h.bel.size), h.box.later hb, h.us.later hb, h.gi.later hb, h.ei⟩
/-- How a walk through the chains ends. -/
def TakePost (w0 : World) (gv rd rw : Int) (fa : Option Addr) (fn fc : Nat) (Bs Bu Bg : Nat) (r : Int × List Int × Int) (e : Ending) (W' : World) : Prop := e = .returned (.int .i64 r.1) ∧ CS w0 gv rd rw fa fn fc Bs Bu Bg W' r.2.1 r.2.2
theorem planR_bad {F : List Sl} {n : Nat} {mayB : List Int → Bool} {gf : List Int → Int} {l : List Int} {rest : List (List Int)} {u : List Int} {g : Int} (h : ¬ chE F n l u = 0) : planR F n mayB gf (l :: rest) u g = (chE F n l u, u, g) := by rw [planR, if_pos h]
theorem planR_no {F : List Sl} {n : Nat} {mayB : List Int → Bool} {gf : List Int → Int} {l : List Int} {rest : List (List Int)} {u : List Int} {g : Int} (h : chE F n l u = 0) (h2 : mayB l = false) : planR F n mayB gf (l :: rest) u g = (11, u, g) := by rw [planR, if_neg (by rw [h]; omega), if_pos h2]
theorem planR_on {F : List Sl} {n : Nat} {mayB : List Int → Bool} {gf : List Int → Int} {l : List Int} {rest : List (List Int)} {u : List Int} {g : Int} (h : chE F n l u = 0) (h2 : mayB l = true) : planR F n mayB gf (l :: rest) u g = planR F n mayB gf rest (u ++ l) (g + gf l) := by rw [planR, if_neg (by rw [h]; omega), if_neg (by rw [h2]; simp)]
theorem lists_drop (L : List Sl) {k : Nat} (h : k < L.length) : (lists L).drop k = (slAt L k).ints :: (lists L).drop (k + 1) := by
  unfold lists
  rw [← List.map_drop, ← List.map_drop, List.drop_eq_getElem_cons h, List.map_cons]
  unfold slAt
  rw [List.getElem?_eq_getElem h]
  rfl
set_option maxRecDepth 100000 in
set_option maxHeartbeats 8000000 in
theorem takeRound_any (w0 : World) (gv rd rw : Int) (fa : Option Addr) (fn fc : Nat) (F : List Sl) (hF : Lsts w0 fa fn fc F) (h8 : fn ≤ 8) (Bs Bu Bg : Nat) (hsu : Bu ≠ Bs) (hsg : Bg ≠ Bs) (hug : Bu ≠ Bg) (hu0 : w0.heap.size ≤ Bu) (hg0 : w0.heap.size ≤ Bg)
    (pa : Option Addr) (pn pc : Nat) (L : List Sl) (hP : Lsts w0 pa pn pc L) (hpn : pn ≤ 1024) (hln : ∀ s ∈ L, s.ln ≤ 1024) (u : List Int) (g : Int) (hg1 : 0 ≤ g) (hg2 : g ≤ 2000000) (W : World) (hS : CS w0 gv rd rw fa fn fc Bs Bu Bg W u g) :
    Calls Try.prog 9 #[.slice pa pn pc, .func (.func 13) #[] #[], .pointer (some ⟨Bs, 0, none⟩), .pointer (some ⟨Bu, 0, none⟩), .pointer (some ⟨Bg, 0, none⟩)] W fun e W' => TakePost w0 gv rd rw fa fn fc Bs Bu Bg (planR F fn (fun l => roundB gv rd F l.length l) (fun l => (l.length : Int)) (lists L) u g) e W' := by
  have HPN := hide hP.1
  have HLN := hide hln
  clear hln
  have hpc := hP.2.1
  have hpm := hP.2.2.1
  unfold maxLen at hpm
  go_enter Try.func9, Try.ntmps9
  go_wp2_with fail
  go_loopw [13] (fun i wr => ∃ (k : Nat) (uu : List Int) (gg : Int), k ≤ pn ∧ i = .int .i64 k ∧ 0 ≤ gg ∧ gg ≤ g + 1024 * k ∧ CS w0 gv rd rw fa fn fc Bs Bu Bg wr uu gg ∧ planR F fn (fun l => roundB gv rd F l.length l) (fun l => (l.length : Int)) (lists L) u g = planR F fn (fun l => roundB gv rd F l.length l) (fun l => (l.length : Int)) ((lists L).drop k) uu gg) (fun i _ => pn - (intOf i).toNat)
  case atStart => exact ⟨0, u, g, Nat.zero_le _, rfl, hg1, by omega, hS, by rw [List.drop_zero]⟩
  case round =>
    obtain ⟨k, uu, gg, hk, rfl, hgg0, hgg, hC, hpl⟩ := hrel
    have HPL := hide hpl
    clear hpl
    by_cases hlt : k < pn
    · have hdr := lists_drop L (show k < L.length by have := unhide HPN; omega)
      have hPr := hP.later hC.bel
      obtain ⟨b, off, rfl, hb, hcell⟩ := hPr.cellAt (by omega)
      have hck := hcell k hlt
      have hI := hPr.mem hlt
      have hsm := unhide HLN (slAt L k) (slAt_mem (by have := unhide HPN; omega))
      have HIX0 : Hid (∀ W', Below w0.heap.size w0 W' → Ints W' (slAt L k).la (slAt L k).ln (slAt L k).lc (slAt L k).ints) := fun W' hb => (hP.later hb).mem hlt
      rw [hdr] at HPL
      clear hcell hdr
      generalize slAt L k = S at *
      obtain ⟨la, ln, lc, ints⟩ := S
      simp only at hck hI hsm HPL
      have HIX : Hid (∀ W', Below w0.heap.size w0 W' → Ints W' la ln lc ints) := HIX0
      have s0 := hC.box.c0
      have s1 := hC.box.c1
      have s2 := hC.box.c2
      have s3 := hC.box.c3
      have su := hC.us.c
      go_wp2_with fail
      refine (mayChain_any gv rd rw fa fn fc F la ln lc ints uu wr (hF.later hC.bel) hI hsm h8 hC.ei).mono ?_
      rintro e w1 ⟨rfl, hb1⟩
      have hC1 := hC.later hb1
      have hI1 := hI.later hb1
      clear s0 s1 s2 s3 su
      by_cases hz : chE F fn ints uu = 0
      · obtain ⟨hv1, hv2⟩ := chE_ok hz
        have HL1 := hide hI.1
        have hlg : 2 ≤ ln := by have := unhide HL1; omega
        have hlast := hv2 (ln - 1) (by have := unhide HL1; omega)
        have HE8 := hide (eight_of h8 hv2)
        have HZ := hide hz
        rw [hz]
        clear hz hv1 hv2
        have s0 := hC1.box.c0
        have s1 := hC1.box.c1
        have s2 := hC1.box.c2
        have s3 := hC1.box.c3
        go_wp2_with fail
        refine (mayRound_any gv rd rw fa fn fc F la ln lc ints w1 (hF.later hC1.bel) hI1 hlg hsm hlast).mono ?_
        rintro e w2 ⟨rfl, hb2⟩
        have hC2 := hC1.later hb2
        have hI2 := hI1.later hb2
        clear s0 s1 s2 s3
        cases hmb : roundB gv rd F ln ints with
        | false =>
          have HR := hide (planR_no (mayB := fun l => roundB gv rd F l.length l) (gf := fun l => (l.length : Int)) (rest := (lists L).drop (k + 1)) (g := gg) (unhide HZ) (by show roundB gv rd F ints.length ints = false; rw [← unhide HL1]; exact hmb))
          go_wp2
          go_ret
          unfold TakePost
          rw [unhide HPL, unhide HR]
          exact ⟨rfl, hC2⟩
        | true =>
          have HR := hide (planR_on (mayB := fun l => roundB gv rd F l.length l) (gf := fun l => (l.length : Int)) (rest := (lists L).drop (k + 1)) (g := gg) (unhide HZ) (by show roundB gv rd F ints.length ints = true; rw [← unhide HL1]; exact hmb))
          have HGF : Hid ((if ints[0]?.getD 0 < gv then (ln : Int) - 1 else ln) = (ln : Int)) := by
            show _ = _
            unfold roundB at hmb
            simp only [Bool.and_eq_true, Bool.not_eq_true', decide_eq_true_eq, decide_eq_false_iff_not] at hmb
            rw [if_neg hmb.2.1]
          go_wp2_with fail
          go_cut [33] from 29 to 33 (fun s33 wc => CS w0 gv rd rw fa fn fc Bs Bu Bg wc uu (gg + (ln : Int)))
          case first =>
            have s0 := hC2.box.c0
            have s1 := hC2.box.c1
            have s2 := hC2.box.c2
            have s3 := hC2.box.c3
            have g0 := hC2.gi.c
            have s0d : w2.drew.cell? ⟨Bs, 0, none⟩ = _ := s0
            have s1d : w2.drew.cell? ⟨Bs, 1, none⟩ = _ := s1
            have s2d : w2.drew.cell? ⟨Bs, 2, none⟩ = _ := s2
            have s3d : w2.drew.cell? ⟨Bs, 3, none⟩ = _ := s3
            have g0d : w2.drew.cell? ⟨Bg, 0, none⟩ = _ := g0
            have hI2d := hI2.later (Below.refl _ _).drew
            have hC2d := hC2.later (Below.refl _ _).drew
            have CG := hide (giftsOf_any gv rd rw fa fn fc la ln lc ints w2.drew hI2d (by omega) hsm)
            rw [unhide HGF] at CG
            have zg : IntKind.i64.wrap (gg + (ln : Int)) = gg + (ln : Int) := by rw [IntKind.wrap_i64]; omega
            unfold swV at CG
            go_region_with (first | (go_at_call 11; refine (unhide CG).mono ?_; rintro e w3 ⟨rfl, hb3⟩; have hC3 := hC2d.later hb3; have gc3 := hC3.gi.c; have gf3 := hC3.gi.f))
            all_goals
              go_wp2_with fail
              go_meet
              case rel => exact ⟨hC3.bel.setCell (p := ⟨Bg, 0, none⟩) hg0 _, hC3.box.apart hsg _, hC3.us.apart (Ne.symm hug) _, hC3.gi.set _, hC3.ei⟩
          case rest =>
            have hCc := hcut
            have uc : wc.drew.cell? ⟨Bu, 0, none⟩ = _ := hCc.us.c
            have uf : wc.drew.frozen? ⟨Bu, 0, none⟩ = _ := hCc.us.f
            have CT := hide (setOf_any la ln lc ints wc.drew (unhide HIX wc.drew hCc.bel.drew) (unhide HE8))
            have hor := (or_or (setN uu) (setN_lt _ hCc.ei) (setN ints) (setN_lt _ (unhide HE8))).1
            rw [← setN_or] at hor
            have HEI : Hid (Eight (uu ++ ints)) := fun x hx => (List.mem_append.1 hx).elim (fun h => hCc.ei x h) (fun h => unhide HE8 x h)
            go_wp2_with fail
            refine wp_region_still_tail 4 (by kernel_rfl) (by kernel_rfl) ?_
            simp only [List.take_succ_cons, List.take_zero, List.drop_succ_cons, List.drop_zero]
            show wpStill Try.prog _ wc.drew (fun a' => wpList Try.prog _ _ _ a' wc.drew) _ _
            repeat (first | still_step | still_call (unhide CT))
            refine wpStill_nil ?_
            go_wp2_with fail
            go_roundw
            case rel =>
              refine ⟨k + 1, uu ++ ints, gg + (ln : Int), by omega, by go_num, by omega, by omega, ⟨?_, ?_, ?_, ?_, unhide HEI⟩, by rw [unhide HPL, unhide HR]; show planR _ _ _ _ _ _ (gg + (ints.length : Int)) = _; rw [← unhide HL1]⟩
              · exact hCc.bel.drew.setCell (p := ⟨Bu, 0, none⟩) hu0 _
              · exact (hCc.box.later (Below.refl _ _).drew).apart hsu _
              · exact (hCc.us.later (Below.refl _ _).drew).set _
              · exact (hCc.gi.later (Below.refl _ _).drew).apart hug _
            case measure => simp [intOf]; omega
      · have hzb : (chE F fn ints uu != 0) = true := by simpa using hz
        have HR := hide (planR_bad (mayB := fun l => roundB gv rd F l.length l) (gf := fun l => (l.length : Int)) (rest := (lists L).drop (k + 1)) (g := gg) hz)
        clear hz
        generalize chE F fn ints uu = E at *
        go_wp2
        go_ret
        unfold TakePost
        rw [unhide HPL, unhide HR]
        exact ⟨rfl, hC1⟩
    · have HR : Hid ((lists L).drop k = []) := List.drop_eq_nil_of_le (by unfold lists; rw [List.length_map]; have := unhide HPN; omega)
      go_wp2
      go_ret
      unfold TakePost
      rw [unhide HPL, unhide HR, planR]
      exact ⟨rfl, hC⟩
set_option maxRecDepth 100000 in
set_option maxHeartbeats 8000000 in
theorem takeRow_any (w0 : World) (gv rd rw : Int) (fa : Option Addr) (fn fc : Nat) (F : List Sl) (hF : Lsts w0 fa fn fc F) (h8 : fn ≤ 8) (Bs Bu Bg : Nat) (hsu : Bu ≠ Bs) (hsg : Bg ≠ Bs) (hug : Bu ≠ Bg) (hu0 : w0.heap.size ≤ Bu) (hg0 : w0.heap.size ≤ Bg)
    (pa : Option Addr) (pn pc : Nat) (L : List Sl) (hP : Lsts w0 pa pn pc L) (hpn : pn ≤ 1024) (hln : ∀ s ∈ L, s.ln ≤ 1024) (u : List Int) (g : Int) (hg1 : 0 ≤ g) (hg2 : g ≤ 2000000) (W : World) (hS : CS w0 gv rd rw fa fn fc Bs Bu Bg W u g) :
    Calls Try.prog 9 #[.slice pa pn pc, .func (.func 14) #[] #[], .pointer (some ⟨Bs, 0, none⟩), .pointer (some ⟨Bu, 0, none⟩), .pointer (some ⟨Bg, 0, none⟩)] W fun e W' => TakePost w0 gv rd rw fa fn fc Bs Bu Bg (planR F fn (fun l => rowB gv rw l.length l) (fun l => (l.length : Int) - 1) (lists L) u g) e W' := by
  have HPN := hide hP.1
  have HLN := hide hln
  clear hln
  have hpc := hP.2.1
  have hpm := hP.2.2.1
  unfold maxLen at hpm
  go_enter Try.func9, Try.ntmps9
  go_wp2_with fail
  go_loopw [13] (fun i wr => ∃ (k : Nat) (uu : List Int) (gg : Int), k ≤ pn ∧ i = .int .i64 k ∧ 0 ≤ gg ∧ gg ≤ g + 1024 * k ∧ CS w0 gv rd rw fa fn fc Bs Bu Bg wr uu gg ∧ planR F fn (fun l => rowB gv rw l.length l) (fun l => (l.length : Int) - 1) (lists L) u g = planR F fn (fun l => rowB gv rw l.length l) (fun l => (l.length : Int) - 1) ((lists L).drop k) uu gg) (fun i _ => pn - (intOf i).toNat)
  case atStart => exact ⟨0, u, g, Nat.zero_le _, rfl, hg1, by omega, hS, by rw [List.drop_zero]⟩
  case round =>
    obtain ⟨k, uu, gg, hk, rfl, hgg0, hgg, hC, hpl⟩ := hrel
    have HPL := hide hpl
    clear hpl
    by_cases hlt : k < pn
    · have hdr := lists_drop L (show k < L.length by have := unhide HPN; omega)
      have hPr := hP.later hC.bel
      obtain ⟨b, off, rfl, hb, hcell⟩ := hPr.cellAt (by omega)
      have hck := hcell k hlt
      have hI := hPr.mem hlt
      have hsm := unhide HLN (slAt L k) (slAt_mem (by have := unhide HPN; omega))
      have HIX0 : Hid (∀ W', Below w0.heap.size w0 W' → Ints W' (slAt L k).la (slAt L k).ln (slAt L k).lc (slAt L k).ints) := fun W' hb => (hP.later hb).mem hlt
      rw [hdr] at HPL
      clear hcell hdr
      generalize slAt L k = S at *
      obtain ⟨la, ln, lc, ints⟩ := S
      simp only at hck hI hsm HPL
      have HIX : Hid (∀ W', Below w0.heap.size w0 W' → Ints W' la ln lc ints) := HIX0
      have s0 := hC.box.c0
      have s1 := hC.box.c1
      have s2 := hC.box.c2
      have s3 := hC.box.c3
      have su := hC.us.c
      go_wp2_with fail
      refine (mayChain_any gv rd rw fa fn fc F la ln lc ints uu wr (hF.later hC.bel) hI hsm h8 hC.ei).mono ?_
      rintro e w1 ⟨rfl, hb1⟩
      have hC1 := hC.later hb1
      have hI1 := hI.later hb1
      clear s0 s1 s2 s3 su
      by_cases hz : chE F fn ints uu = 0
      · obtain ⟨hv1, hv2⟩ := chE_ok hz
        have HL1 := hide hI.1
        have hlg : 2 ≤ ln := by have := unhide HL1; omega
        have hlast := hv2 (ln - 1) (by have := unhide HL1; omega)
        have HE8 := hide (eight_of h8 hv2)
        have HZ := hide hz
        rw [hz]
        clear hz hv1 hv2
        have s0 := hC1.box.c0
        have s1 := hC1.box.c1
        have s2 := hC1.box.c2
        have s3 := hC1.box.c3
        go_wp2_with fail
        refine (mayRow_any gv rd rw fa fn fc la ln lc ints w1 hI1 hlg hsm).mono ?_
        rintro e w2 ⟨rfl, hb2⟩
        have hC2 := hC1.later hb2
        have hI2 := hI1.later hb2
        clear s0 s1 s2 s3
        cases hmb : rowB gv rw ln ints with
        | false =>
          have HR := hide (planR_no (mayB := fun l => rowB gv rw l.length l) (gf := fun l => (l.length : Int) - 1) (rest := (lists L).drop (k + 1)) (g := gg) (unhide HZ) (by show rowB gv rw ints.length ints = false; rw [← unhide HL1]; exact hmb))
          go_wp2
          go_ret
          unfold TakePost
          rw [unhide HPL, unhide HR]
          exact ⟨rfl, hC2⟩
        | true =>
          have HR := hide (planR_on (mayB := fun l => rowB gv rw l.length l) (gf := fun l => (l.length : Int) - 1) (rest := (lists L).drop (k + 1)) (g := gg) (unhide HZ) (by show rowB gv rw ints.length ints = true; rw [← unhide HL1]; exact hmb))
          have HGF : Hid ((if ints[0]?.getD 0 < gv then (ln : Int) - 1 else ln) = ((ln : Int) - 1)) := by
            show _ = _
            unfold rowB at hmb
            simp only [Bool.and_eq_true, decide_eq_true_eq] at hmb
            rw [if_pos hmb.2]
          go_wp2_with fail
          go_cut [33] from 29 to 33 (fun s33 wc => CS w0 gv rd rw fa fn fc Bs Bu Bg wc uu (gg + ((ln : Int) - 1)))
          case first =>
            have s0 := hC2.box.c0
            have s1 := hC2.box.c1
            have s2 := hC2.box.c2
            have s3 := hC2.box.c3
            have g0 := hC2.gi.c
            have s0d : w2.drew.cell? ⟨Bs, 0, none⟩ = _ := s0
            have s1d : w2.drew.cell? ⟨Bs, 1, none⟩ = _ := s1
            have s2d : w2.drew.cell? ⟨Bs, 2, none⟩ = _ := s2
            have s3d : w2.drew.cell? ⟨Bs, 3, none⟩ = _ := s3
            have g0d : w2.drew.cell? ⟨Bg, 0, none⟩ = _ := g0
            have hI2d := hI2.later (Below.refl _ _).drew
            have hC2d := hC2.later (Below.refl _ _).drew
            have CG := hide (giftsOf_any gv rd rw fa fn fc la ln lc ints w2.drew hI2d (by omega) hsm)
            rw [unhide HGF] at CG
            have zg : IntKind.i64.wrap (gg + ((ln : Int) - 1)) = gg + ((ln : Int) - 1) := by rw [IntKind.wrap_i64]; omega
            unfold swV at CG
            go_region_with (first | (go_at_call 11; refine (unhide CG).mono ?_; rintro e w3 ⟨rfl, hb3⟩; have hC3 := hC2d.later hb3; have gc3 := hC3.gi.c; have gf3 := hC3.gi.f))
            all_goals
              go_wp2_with fail
              go_meet
              case rel => exact ⟨hC3.bel.setCell (p := ⟨Bg, 0, none⟩) hg0 _, hC3.box.apart hsg _, hC3.us.apart (Ne.symm hug) _, hC3.gi.set _, hC3.ei⟩
          case rest =>
            have hCc := hcut
            have uc : wc.drew.cell? ⟨Bu, 0, none⟩ = _ := hCc.us.c
            have uf : wc.drew.frozen? ⟨Bu, 0, none⟩ = _ := hCc.us.f
            have CT := hide (setOf_any la ln lc ints wc.drew (unhide HIX wc.drew hCc.bel.drew) (unhide HE8))
            have hor := (or_or (setN uu) (setN_lt _ hCc.ei) (setN ints) (setN_lt _ (unhide HE8))).1
            rw [← setN_or] at hor
            have HEI : Hid (Eight (uu ++ ints)) := fun x hx => (List.mem_append.1 hx).elim (fun h => hCc.ei x h) (fun h => unhide HE8 x h)
            go_wp2_with fail
            refine wp_region_still_tail 4 (by kernel_rfl) (by kernel_rfl) ?_
            simp only [List.take_succ_cons, List.take_zero, List.drop_succ_cons, List.drop_zero]
            show wpStill Try.prog _ wc.drew (fun a' => wpList Try.prog _ _ _ a' wc.drew) _ _
            repeat (first | still_step | still_call (unhide CT))
            refine wpStill_nil ?_
            go_wp2_with fail
            go_roundw
            case rel =>
              refine ⟨k + 1, uu ++ ints, gg + ((ln : Int) - 1), by omega, by go_num, by omega, by omega, ⟨?_, ?_, ?_, ?_, unhide HEI⟩, by rw [unhide HPL, unhide HR]; show planR _ _ _ _ _ _ (gg + ((ints.length : Int) - 1)) = _; rw [← unhide HL1]⟩
              · exact hCc.bel.drew.setCell (p := ⟨Bu, 0, none⟩) hu0 _
              · exact (hCc.box.later (Below.refl _ _).drew).apart hsu _
              · exact (hCc.us.later (Below.refl _ _).drew).set _
              · exact (hCc.gi.later (Below.refl _ _).drew).apart hug _
            case measure => simp [intOf]; omega
      · have hzb : (chE F fn ints uu != 0) = true := by simpa using hz
        have HR := hide (planR_bad (mayB := fun l => rowB gv rw l.length l) (gf := fun l => (l.length : Int) - 1) (rest := (lists L).drop (k + 1)) (g := gg) hz)
        clear hz
        generalize chE F fn ints uu = E at *
        go_wp2
        go_ret
        unfold TakePost
        rw [unhide HPL, unhide HR]
        exact ⟨rfl, hC1⟩
    · have HR : Hid ((lists L).drop k = []) := List.drop_eq_nil_of_le (by unfold lists; rw [List.length_map]; have := unhide HPN; omega)
      go_wp2
      go_ret
      unfold TakePost
      rw [unhide HPL, unhide HR, planR]
      exact ⟨rfl, hC⟩
end Go.Proofs.Ytfagkgehljoppaa
