import Derived.Test.YtffnhflbhckhbaaDoorMF
namespace Go.Proofs.YtffnhflbhckhbaaDoor
open Go.RowKit Go.Shelf
attribute [local go_sem] Oper.semAt_some
theorem wrap64_sm (x : Int) (h : -9223372036854775808 ≤ x ∧ x ≤ 9223372036854775807) : wrap64 x = x := by unfold wrap64; omega
/-- Where swapLines stands: the lists that it has told lie in a row of its own, each in a block of ints. -/
structure SW (s : Sw) (l used : List Int) (W wr : World) (k : Nat) (v : Value) (L : List Sl) : Prop where
  bel : Below W.heap.size W wr
  own : wr.ownsRow W.heap.size 34 1 v L.length (slVals L)
  els : ∀ x ∈ L, T3 wr x.la x.ln ∧ Ints wr x.la x.ln x.lc x.ints
  sc : SC s l used k (lists L)
/-- What swapLines gives. -/
def SLP (s : Sw) (l used : List Int) (W : World) (e : Ending) (W' : World) : Prop := ∃ (v : Value) (L : List Sl), e = .returned v ∧ Below W.heap.size W W' ∧ W'.ownsRow W.heap.size 34 1 v L.length (slVals L) ∧ (∀ x ∈ L, T3 W' x.la x.ln ∧ Ints W' x.la x.ln x.lc x.ints) ∧ L.length ≤ bnd (s.n - l.length) ∧ (∀ d ∈ lists L, SLs s l used d) ∧ ∀ e, Cnd s l used e → l ++ e ∈ lists L
theorem SW.later {s : Sw} {l used : List Int} {W wr wn : World} {k : Nat} {v : Value} {L : List Sl} (h : SW s l used W wr k v L) (hb : Below wr.heap.size wr wn) : SW s l used W wn k v L :=
  ⟨h.bel.trans (hb.mono h.bel.size), owns_later h.own hb, fun x hx => ⟨(h.els x hx).1.later hb, (h.els x hx).2.later hb⟩, h.sc⟩
theorem own_mono {w : World} {B B' e z n : Nat} {v : Value} {xs : List Value} (h : w.ownsRow B e z v n xs) (hb : B' ≤ B) : w.ownsRow B' e z v n xs := by
  refine ⟨h.1, ?_⟩
  rcases h.2 with h0 | ⟨g, cap, cur, rfl, hbg, r⟩
  · exact .inl h0
  · exact .inr ⟨g, cap, cur, rfl, Nat.le_trans hb hbg, r⟩
theorem SW.fin {s : Sw} (hs : s.Ok) {l used : List Int} {W wA wr : World} {v : Value} {L : List Sl} (hb : Bg s l) (hn : s.n ≤ 6) (hnd : (s.F (lst l)).Nodup) (hbA : Below W.heap.size W wA) (h : SW s l used wA wr (s.F (lst l)).length v L) : SLP s l used W (.returned v) wr := by
  refine ⟨v, L, rfl, hbA.trans (h.bel.mono hbA.size), own_mono h.own hbA.size, h.els, ?_, h.sc.sound, fun e he => h.sc.comp e he fun y e' q => ?_⟩
  · have := h.sc.bound hs hb hn hnd
    rw [lists_len] at this
    exact this
  · subst q
    rw [List.take_length]
    have h1 := he.line.path (l.length - 1) (by have := hb.len; simp; omega)
    have h2 := hb.len
    rw [show l.length - 1 + 1 = l.length by omega, List.getElem?_append_right (Nat.le_refl _), Nat.sub_self, List.getElem?_append_left (by omega)] at h1
    exact h1
/-- What swapLines gives to itself: the lists that begin with one more. -/
def MoreP (s : Sw) (l used : List Int) (wr : World) (v : Value) (X : World) : Prop := ∃ (M : List Sl) (a : Option Addr) (c : Nat), v = .slice a M.length c ∧ Below wr.heap.size wr X ∧ Lsts X a M.length c M ∧ (∀ x ∈ M, T3 X x.la x.ln ∧ Ints X x.la x.ln x.lc x.ints) ∧ M.length ≤ bnd (s.n - l.length) ∧ (∀ d ∈ lists M, SLs s l used d) ∧ ∀ e, Cnd s l used e → l ++ e ∈ lists M
theorem lists_app (A B : List Sl) : lists (A ++ B) = lists A ++ lists B := by simp [lists]
theorem SW.more {s : Sw} {l used : List Int} {W wr w4 w5 : World} {k : Nat} {v v' : Value} {L M : List Sl} (h : SW s l used W wr k v L) (hb : Below wr.heap.size wr w4) (hM : ∀ x ∈ M, T3 w4 x.la x.ln ∧ Ints w4 x.la x.ln x.lc x.ints) (ho : w5.ownsRow W.heap.size 34 1 v' (L.length + M.length) (slVals (L ++ M))) (hg : w4.grownBy w5 v.ownBlock) (hsc : SC s l used (k + 1) (lists L ++ lists M)) : SW s l used W w5 (k + 1) v' (L ++ M) := by
  have h4 := h.later hb
  refine ⟨h4.bel.grown hg h4.bel.size (fun q hq => (h4.own.lt q hq).1), by rw [List.length_append]; exact ho, fun x hx => ?_, by rw [lists_app]; exact hsc⟩
  rcases List.mem_append.1 hx with q | q
  · exact (h4.els x q).1.grown (h4.els x q).2 h4.own hg
  · exact (hM x q).1.grown (hM x q).2 h4.own hg
theorem sl_may {gv rd rw : Int} {F : List Sl} {l : List Int} {p t : Nat} {h0 : Int} (hl : p + 1 = l.length) (hh : hd l = h0) (ht : lst l = (t : Int)) : (p = 0 → (decide (1 < l.length) && mayL (sOf gv rd rw F) l) = false) ∧ (0 < p → h0 < gv → (decide (1 < l.length) && mayL (sOf gv rd rw F) l) = decide ((p : Int) ≤ rw)) ∧ (0 < p → ¬ h0 < gv → (decide (1 < l.length) && mayL (sOf gv rd rw F) l) = (decide ((p : Int) + 1 ≤ rd) && decide (0 ≤ idxFrom (slAt F t).ints h0 0))) := by
  refine ⟨fun h => ?_, fun h h2 => ?_, fun h h2 => ?_⟩
  · rw [decide_eq_false (by omega)]; rfl
  · have e1 : isRow (sOf gv rd rw F) l = true := by unfold isRow; rw [hh]; exact decide_eq_true h2
    unfold mayL
    rw [decide_eq_true (show 1 < l.length by omega), e1, if_pos rfl, Bool.true_and]
    have : ((l.length : Int) - 1 ≤ (sOf gv rd rw F).rw) = ((p : Int) ≤ rw) := by
      show ((l.length : Int) - 1 ≤ rw) = _
      rw [← hl]
      congr 1
      omega
    simp only [this]
  · have e1 : isRow (sOf gv rd rw F) l = false := by unfold isRow; rw [hh]; exact decide_eq_false h2
    unfold mayL
    rw [decide_eq_true (show 1 < l.length by omega), e1, if_neg (by simp), Bool.true_and, hh, ht, idx_memL, ← hl]
    rfl
set_option maxRecDepth 100000 in
set_option maxHeartbeats 4000000 in
theorem swapLines_any {gv rd rw : Int} {fa : Option Addr} {fn fc : Nat} {F : List Sl} (hz : maySw gv rd rw F = 0) (h6 : F.length ≤ 6) (hfl : ∀ x ∈ F, x.ln ≤ 1024) : ∀ (f : Nat) (l : List Int), F.length - l.length < f → ∀ (W : World) (la : Option Addr) (ln lc : Nat) (ua : Option Addr) (un uc : Nat) (used : List Int), Lsts W fa fn fc F → Bg (sOf gv rd rw F) l → Ints W la ln lc l → T3 W la ln → Ints W ua un uc used →
    Calls Tryd.prog 27 #[swV gv rd rw fa fn fc, .slice la ln lc, .slice ua un uc] W (SLP (sOf gv rd rw F) l used W) := by
  obtain ⟨hs, h8, -⟩ := ok_of_may hz
  have HZ := hide hz
  clear hz
  intro f
  induction f with
  | zero => intro l hf; omega
  | succ f ih =>
    intro l hf W la ln lc ua un uc used hF hB hI hT hU
    have hlen := hB.len
    have HFN : Hid (fn = F.length) := hF.1
    have HLL : Hid (ln = l.length) := hI.1
    obtain ⟨p, rfl⟩ : ∃ p, ln = p + 1 := ⟨ln - 1, by have := hI.1; omega⟩
    obtain ⟨wA, hwA⟩ : ∃ y, y = W.alloc (.cells #[.int .i64 gv, .slice fa fn fc, .int .i64 rd, .int .i64 rw] 24) := ⟨_, rfl⟩
    have hbA : Below W.heap.size W wA := by rw [hwA]; go_grown
    have tA : SBox wA W.heap.size gv rd rw fa fn fc := by rw [hwA]; exact ⟨by simp, by simp, by simp, by simp⟩
    have HW := hide hwA
    clear hwA
    obtain ⟨b, off, rfl, hb, hcell⟩ := hI.cellAt (by omega)
    have x0 := (hbA.cell (p := ⟨b, off, none⟩) hb).trans (hcell 0 (by omega))
    obtain ⟨h0, hh0⟩ : ∃ h0 : Int, l[0]?.getD 0 = h0 := ⟨_, rfl⟩
    rw [hh0] at x0
    have HH0 : Hid (hd l = h0) := hh0
    clear hh0
    have x9 := (hbA.cell (p := ⟨b, off + p, none⟩) hb).trans (hcell p (by omega))
    have hlast : l[p]?.getD 0 = lst l := by unfold lst; rw [show l.length - 1 = p by have := unhide HLL; omega]
    rw [hlast] at x9
    have hlm : lst l ∈ l := by rw [← hlast]; exact getD_mem (by have := unhide HLL; omega)
    have hlr := hB.rng _ hlm
    obtain ⟨t, ht⟩ : ∃ t : Nat, lst l = t := ⟨(lst l).toNat, by omega⟩
    have htn : t < fn := by
      have h2 : lst l < (F.length : Int) := hlr.2
      have := unhide HFN
      omega
    rw [ht] at x9
    have HT := hide ht
    have hFA := hF.later hbA
    obtain ⟨fb, fo, rfl, hfb, hfcell⟩ := hFA.cellAt (by omega)
    have f1 := hfcell t htn
    have hIt := hFA.mem htn
    have hin := hide (in_any (slAt F t).la (slAt F t).ln (slAt F t).lc (slAt F t).ints h0 wA hIt)
    have hp6 : p + 1 ≤ 6 := by
      have h3 : l.length ≤ F.length := hlen.2
      have := unhide HLL
      omega
    have zw : wrap64 (p : Int) = (p : Int) := wrap64_sm _ (by omega)
    have zw3 : (p : Int) < (p : Int) + 1 := by omega
    have c0 := tA.c0
    have c1 := tA.c1
    have c2 := tA.c2
    have c3 := tA.c3
    have HCELL := hide hcell
    have HFC := hide hfcell
    have HIH := hide ih
    have HF0 := hide hF
    have HL0 := hide hI
    have HT0 := hide hT
    have HU0 := hide hU
    have HB0 := hide hB
    clear hcell hfcell hlast hlm hlr ht ih hF hI hT hU hB hFA hIt hlen hb hfb
    unfold swV
    go_enter Tryd.func27, Tryd.ntmps27
    go_upto_region 1 with fail
    rw [← unhide HW]
    go_upto_region 6 with (go_at_call 16; refine (unhide hin).mono ?_; rintro e w' ⟨rfl, hw'⟩; subst w')
    obtain ⟨mb, hmb⟩ : ∃ mb, (decide (1 < l.length) && mayL (sOf gv rd rw F) l) = mb := ⟨_, rfl⟩
    have HMAY := hide (sl_may (gv := gv) (rd := rd) (rw := rw) (F := F) (l := l) (unhide HLL) (unhide HH0) (unhide HT))
    rw [hmb] at HMAY
    have HMB := hide hmb
    clear hmb
    generalize decide (0 ≤ idxFrom (slAt F t).ints h0 0) = bk at *
    obtain ⟨rb, hrb⟩ : ∃ rb, decide (h0 < gv) = rb := ⟨_, rfl⟩
    have HRB := hide hrb
    rw [hrb]
    clear hrb
    go_cut [64] from 37 to 63 (fun s64 wc => s64 = .bool mb ∧ wc = wA)
    case first =>
      clear HIH HF0 HL0 HT0 HU0
      obtain ⟨m1, m2, m3⟩ := unhide HMAY
      cases p with
      | zero =>
        have HR : Hid (mb = false) := m1 rfl
        clear HMAY m1 m2 m3 HMB
        go_wp2_with fail
        go_meet
        case rel => exact ⟨by rw [unhide HR], rfl⟩
      | succ q =>
        have g2 : (0 : Int) < (q : Int) + 1 := by omega
        have g3 : (1 : Int) < (q : Int) + 1 + 1 := by omega
        have zq : wrap64 ((q : Int) + 1) = (q : Int) + 1 := wrap64_sm _ (by omega)
        cases rb with
        | true =>
          have hr' := m2 (by omega) (of_decide_eq_true (unhide HRB))
          by_cases hw : ((q : Int) + 1) ≤ rw
          · have HR : Hid (mb = true) := by show _ = _; rw [hr']; exact decide_eq_true hw
            clear hr'
            clear HMAY m1 m2 m3 HMB
            go_wp2_with fail
            go_meet
            case rel => exact ⟨by rw [unhide HR], rfl⟩
          · have HR : Hid (mb = false) := by show _ = _; rw [hr']; exact decide_eq_false hw
            clear hr'
            clear HMAY m1 m2 m3 HMB
            go_wp2_with fail
            go_meet
            case rel => exact ⟨by rw [unhide HR], rfl⟩
        | false =>
          have hr' := m3 (by omega) (of_decide_eq_false (unhide HRB))
          cases bk with
          | true =>
            rw [Bool.and_true] at hr'
            by_cases hw : ((q : Int) + 1) + 1 ≤ rd
            · have HR : Hid (mb = true) := by show _ = _; rw [hr']; exact decide_eq_true hw
              clear hr'
              clear HMAY m1 m2 m3 HMB
              go_wp2_with fail
              go_meet
              case rel => exact ⟨by rw [unhide HR], rfl⟩
            · have HR : Hid (mb = false) := by show _ = _; rw [hr']; exact decide_eq_false hw
              clear hr'
              clear HMAY m1 m2 m3 HMB
              go_wp2_with fail
              go_meet
              case rel => exact ⟨by rw [unhide HR], rfl⟩
          | false =>
            have HR : Hid (mb = false) := by show _ = _; rw [hr', Bool.and_false]
            clear hr'
            clear HMAY m1 m2 m3 HMB
            go_wp2_with fail
            go_meet
            case rel => exact ⟨by rw [unhide HR], rfl⟩
    case rest =>
      obtain ⟨rfl, hwc⟩ := hcut
      subst wc
      go_upto_if 64 with fail
      go_cut [7] from 65 to 68 (fun s7 wc => ∃ L, Hid (SW (sOf gv rd rw F) l used wA wc 0 s7 L))
      case first =>
        cases mb with
        | true =>
          have HFI : Hid (∀ v2 w3, w3.ownsRow wA.heap.size 34 1 v2 (0 + 1) (slVals ([] ++ [⟨some ⟨b, off, none⟩, p + 1, lc, l⟩])) → (wA.alloc (.cells #[.slice (some ⟨b, off, none⟩) (p + 1) lc] 34)).grownBy w3 (Value.slice none 0 0).ownBlock → SW (sOf gv rd rw F) l used wA w3 0 v2 [⟨some ⟨b, off, none⟩, p + 1, lc, l⟩]) := fun v2 w3 ho2 hg2 => by
            have hb3 : Below wA.heap.size wA w3 := ((Below.refl _ _).alloc (Nat.le_refl _) _).grown hg2 (by simp) (fun q hq => by cases hq)
            refine ⟨hb3, ho2, fun x hx => ?_, ?_⟩
            · rw [List.mem_singleton.1 hx]
              exact ⟨((unhide HT0).later hbA).later hb3, ((unhide HL0).later hbA).later hb3⟩
            · have := SC.start (used := used) (unhide HB0)
              rw [unhide HMB] at this
              exact this
          clear HMAY HMB
          go_wp2_with (at_builtin; refine wpList_append_one _ rfl _ _ rfl wA.heap.size _ 0 [] rfl (World.ownsRow_nil _ _ _ _) wA.heap.size 1 ⟨some ⟨b, off, none⟩, p + 1, lc, l⟩ rfl (by simp) (by omega) (by simp) ?_; intro v2 w3 ho2 hg2 hob2)
          go_meet
          case rel => exact ⟨_, unhide HFI _ _ ho2 hg2⟩
        | false =>
          have HFI : Hid (SW (sOf gv rd rw F) l used wA wA 0 (.slice none 0 0) []) := by
            refine ⟨Below.refl _ _, World.ownsRow_nil _ _ _ _, fun x hx => (by cases hx), ?_⟩
            have := SC.start (used := used) (unhide HB0)
            rw [unhide HMB] at this
            exact this
          clear HMAY HMB
          go_wp2_with fail
          go_meet
          case rel => exact ⟨_, unhide HFI⟩
      case rest =>
        obtain ⟨L0, HS0⟩ := hcut
        have HTF : Hid ((sOf gv rd rw F).F (lst l) = (slAt F t).ints) := by
          show (slAt F (lst l).toNat).ints = _
          rw [unhide HT, Int.toNat_natCast]
        have HLEN := hide ((unhide HF0).mem htn).1
        have hgt : ¬ (fn : Int) < (p : Int) + 1 := by
          have h3 : l.length ≤ F.length := (unhide HB0).len.2
          have := unhide HLL
          have := unhide HFN
          omega
        have tc := tA.later (unhide HS0).bel
        have d1 := tc.c1
        clear c0 c1 c2 c3 HMAY HMB x0 x9 f1 hin zw zw3
        go_wp2_with fail
        go_loopw [7, 12] (fun v i wr => ∃ (k : Nat) (L : List Sl), k ≤ (slAt F t).ln ∧ i = .int .i64 (k : Int) ∧ Hid (SW (sOf gv rd rw F) l used wA wr k v L)) (fun _ i _ => (slAt F t).ln - (intOf i).toNat)
        case atStart => exact ⟨0, L0, Nat.zero_le _, rfl, HS0⟩
        case round =>
          obtain ⟨k, L, hk, rfl, HS⟩ := hrel
          have hbr := (unhide HS).bel
          have tr := tA.later hbr
          have c0 := tr.c0
          have c1 := tr.c1
          have c2 := tr.c2
          have c3 := tr.c3
          have hFr := ((unhide HF0).later hbA).later hbr
          obtain ⟨fb2, fo2, e2, hfb2, hfcell2⟩ := hFr.cellAt (by omega)
          cases e2
          have f1 := hfcell2 t htn
          have hIt := hFr.mem htn
          clear hfcell2
          by_cases hlt : k < (slAt F t).ln
          · obtain ⟨gb, gof, ela, hgb, hgc⟩ := hIt.cellAt (by omega)
            rw [ela] at f1
            have hx := hgc k hlt
            obtain ⟨x, hxe⟩ : ∃ x, (slAt F t).ints[k]?.getD 0 = x := ⟨_, rfl⟩
            rw [hxe] at hx
            have HX := hide hxe
            clear hgc hxe
            have hlk : (k : Int) < ((slAt F t).ln : Int) := by omega
            have HIU := hide (in_any ua un uc used x wr (((unhide HU0).later hbA).later hbr))
            have HIL := hide (in_any (some ⟨b, off, none⟩) (p + 1) lc l x wr (((unhide HL0).later hbA).later hbr))
            rw [idx_memL] at HIU HIL
            have HIT := hide hIt
            have HZK : Hid (wrap64 ((k : Int) + 1) = (k : Int) + 1) := by
              have hlnb : (slAt F t).ln ≤ 1024 := hfl _ (slAt_mem (by rw [← unhide HFN]; exact htn))
              exact wrap64_sm _ (by omega)
            clear hIt ela
            go_upto_region 15 with (go_at_call 16; refine (unhide HIU).mono ?_; rintro e w' ⟨rfl, hw'⟩; subst w')
            go_upto_region 16 with (go_at_call 16; refine (unhide HIL).mono ?_; rintro e w' ⟨rfl, hw'⟩; subst w')
            obtain ⟨ub, hub⟩ : ∃ ub, decide (x ∈ used) = ub := ⟨_, rfl⟩
            obtain ⟨lb, hlb⟩ : ∃ lb, decide (x ∈ l) = lb := ⟨_, rfl⟩
            obtain ⟨xb, hxb⟩ : ∃ xb, decide (x < h0) = xb := ⟨_, rfl⟩
            rw [hub, hlb]
            have HUB := hide hub
            have HLB := hide hlb
            have HXB := hide hxb
            clear hub hlb HIU HIL
            go_cut [112] from 100 to 111 (fun s112 wc => s112 = .bool (ub || lb || (!rb && xb)) ∧ wc = wr)
            case first =>
              cases ub with
              | true =>
                clear hxb
                go_wp2_with fail
                go_meet
                case rel => exact ⟨rfl, rfl⟩
              | false =>
                cases lb with
                | true =>
                  clear hxb
                  go_wp2_with fail
                  go_meet
                  case rel => exact ⟨rfl, rfl⟩
                | false =>
                  cases rb with
                  | true =>
                    clear hxb
                    go_wp2_with fail
                    go_meet
                    case rel => exact ⟨rfl, rfl⟩
                  | false =>
                    go_wp2_with fail
                    go_meet
                    case rel => exact ⟨rfl, rfl⟩
            case rest =>
              obtain ⟨rfl, hwc⟩ := hcut
              subst wc
              have hkF : k < ((sOf gv rd rw F).F (lst l)).length := by rw [unhide HTF, ← unhide HLEN]; exact hlt
              have hxF : ((sOf gv rd rw F).F (lst l))[k]?.getD 0 = x := by rw [unhide HTF]; exact unhide HX
              cases hsk : (ub || lb || (!rb && xb)) with
              | true =>
                have HN : Hid (SW (sOf gv rd rw F) l used wA wr (k + 1) u7 L) := by
                  refine ⟨(unhide HS).bel, (unhide HS).own, (unhide HS).els, (unhide HS).sc.skip hkF ?_⟩
                  rw [hxF]
                  rcases Bool.or_eq_true_iff.1 hsk with q | q
                  · rcases Bool.or_eq_true_iff.1 q with q | q
                    · exact .inl (of_decide_eq_true ((unhide HUB).trans q))
                    · exact .inr (.inl (of_decide_eq_true ((unhide HLB).trans q)))
                  · rw [Bool.and_eq_true, Bool.not_eq_true'] at q
                    refine .inr (.inr ⟨?_, ?_⟩)
                    · unfold isRow
                      rw [unhide HH0]
                      exact (unhide HRB).trans q.1
                    · rw [unhide HH0]
                      exact of_decide_eq_true ((unhide HXB).trans q.2)
                clear hsk hkF hxF hxb
                go_wp2_with fail
                go_roundw
                case rel => exact ⟨k + 1, L, by omega, by rw [unhide HZK]; rfl, HN⟩
                case measure =>
                  rw [unhide HZK]
                  simp only [intOf, Int.toNat_natCast]
                  omega
              | false =>
                rw [Bool.or_eq_false_iff, Bool.or_eq_false_iff] at hsk
                obtain ⟨⟨q1, q2⟩, q3⟩ := hsk
                have hxu : x ∉ used := of_decide_eq_false ((unhide HUB).trans q1)
                have hxl : x ∉ l := of_decide_eq_false ((unhide HLB).trans q2)
                have hxm : x ∈ (sOf gv rd rw F).F (lst l) := by rw [← hxF]; exact getD_mem hkF
                have hB2 := (unhide HB0).snoc hs hxm hxl
                have HREC : Hid (∀ (X : World) (v2 : Value), Below wr.heap.size wr X → X.ownsRow wr.heap.size 3 1 v2 (p + 1 + 1) (intVals (l ++ [x])) → Calls Tryd.prog 27 #[swV gv rd rw (some ⟨fb, fo, none⟩) fn fc, v2, .slice ua un uc] X fun e X' => ∃ v, e = .returned v ∧ MoreP (sOf gv rd rw F) (l ++ [x]) used wr v X') := fun X v2 hX ho => by
                  obtain ⟨a2, c2, rfl, hI2, -⟩ := Ints.of_owns ho (by omega)
                  have hT2 := T3.of_owns ho
                  have hbX := hbr.trans (hX.mono hbr.size)
                  refine (unhide HIH (l ++ [x]) (by have h3 := (unhide HB0).len.2; have h4 : l.length ≤ F.length := h3; have h5 : (l ++ [x]).length ≤ F.length := hB2.len.2; rw [List.length_append] at h5 ⊢; simp only [List.length_cons, List.length_nil] at h5 ⊢; omega) X a2 _ c2 ua un uc used (((unhide HF0).later hbA).later hbX) hB2 hI2 hT2 (((unhide HU0).later hbA).later hbX)).mono ?_
                  rintro e X' ⟨v, M, rfl, m1, m2, m3, m4, m5, m6⟩
                  obtain ⟨a3, c3, rfl, hL3⟩ := Lsts.of_owns m2 (fun y hy => (m3 y hy).2)
                  exact ⟨_, rfl, M, a3, c3, rfl, hX.trans (m1.mono hX.size), hL3, m3, m4, m5, m6⟩
                have hIr := ((unhide HL0).later hbA).later hbr
                have hp9 : p + 1 ≤ 900 := by omega
                clear c0 c1 c2 c3 f1 hx hgb
                have hxg : isRow (sOf gv rd rw F) l = true ∨ hd l ≤ x := by
                  cases hrb : rb with
                  | true =>
                    left
                    unfold isRow
                    rw [unhide HH0]
                    exact (unhide HRB).trans hrb
                  | false =>
                    right
                    rw [hrb, Bool.not_false, Bool.true_and] at q3
                    rw [unhide HH0]
                    have := of_decide_eq_false ((unhide HXB).trans q3)
                    omega
                have HXF := hide (And.intro hkF (And.intro hxF (And.intro hxu (And.intro hxl hxg))))
                have HIR := hide hIr
                clear q1 q2 q3 hxb hkF hxm hxF hxu hxl hxg hB2 hIr
                go_wp2_with fail
                refine (wpIn_wide (n := 9)).1 ?_
                refine wp_region_vals (fun _ => trivial) rfl Df Sf _ (by kernel_rfl) (by kernel_rfl) (by kernel_rfl) (by kernel_rfl) (by kernel_rfl) (by kernel_rfl) (by kernel_rfl) ⟨Det.nil _, fun _ => ⟨(Below.refl _ _).drew, fun q => absurd q (by simp), fun q => absurd q (by simp), fun q => absurd q (by simp), fun q => absurd q (by simp)⟩, fun q => absurd q (by simp)⟩ (stepsf (W := wr) (Bs := W.heap.size) (li := l) (R := MoreP (sOf gv rd rw F) (l ++ [x]) used wr) rfl rfl rfl rfl tr (unhide HIR) hp9 (unhide HREC) rfl rfl rfl rfl rfl rfl rfl rfl rfl rfl rfl rfl rfl rfl rfl rfl rfl rfl rfl rfl) ?_
                rintro lv vals w4 ⟨-, hM⟩ hall
                obtain ⟨k8, k9⟩ := hM.2 (hall 8 (by decide))
                have k9 := k9 (hall 9 (by decide))
                clear hM hall
                obtain ⟨M, ma, mc, e8, n1, n2, n3, n4, n5, n6⟩ := k8
                rw [e8] at k9
                simp only [finA, Sf, Act.put, List.setIfInBounds_toArray, List.set_cons_succ, List.set_cons_zero, k9]
                have hbd : L.length ≤ 1000 ∧ M.length ≤ 1000 := by
                  have hnd : ((sOf gv rd rw F).F (lst l)).Nodup := by rw [unhide HTF]; exact fits_nodup (unhide HZ) t
                  have h1 := (unhide HS).sc.bound hs (unhide HB0) h6 hnd
                  have h2 := bnd_le ((sOf gv rd rw F).n - l.length) (by show F.length - l.length ≤ 5; have := (unhide HB0).len.1; omega)
                  have h3 := bnd_le ((sOf gv rd rw F).n - (l ++ [x]).length) (by show F.length - (l ++ [x]).length ≤ 5; rw [List.length_append]; have := (unhide HB0).len.1; omega)
                  rw [lists_len] at h1
                  exact ⟨by omega, by omega⟩
                have HN : Hid (∀ v5 w5, w5.ownsRow wA.heap.size 34 1 v5 (L.length + M.length) (slVals (L ++ M)) → w4.grownBy w5 u7.ownBlock → SW (sOf gv rd rw F) l used wA w5 (k + 1) v5 (L ++ M)) := fun v5 w5 ho5 hg5 => by
                  obtain ⟨y1, y2, y3, y4, y5⟩ := unhide HXF
                  refine (unhide HS).more n1 n3 ho5 hg5 ?_
                  refine SC.more (unhide HB0) y1 (unhide HS).sc (by rw [y2]; exact y3) (by rw [y2]; exact y4) (by rw [y2]; exact y5) ?_ ?_ ?_
                  · rw [lists_len, show (sOf gv rd rw F).n - l.length - 1 = (sOf gv rd rw F).n - (l ++ [x]).length by rw [List.length_append]; simp only [List.length_cons, List.length_nil]; omega]
                    exact n4
                  · rw [y2]; exact n5
                  · rw [y2]; exact n6
                have HO4 := hide (owns_later (unhide HS).own n1)
                have HN2 := hide n2
                have hs4 : wA.heap.size ≤ w4.heap.size := Nat.le_trans hbr.size n1.size
                clear n1 n2 n3 n4 n5 n6 k9 e8 HREC
                go_wp2_with (at_builtin; refine wpList_append_lsts _ rfl _ _ rfl wA.heap.size _ L.length L rfl (unhide HO4) ma M.length mc M rfl (unhide HN2) (by omega) hs4 ?_; intro v5 w5 ho5 hg5)
                go_roundw
                case rel => exact ⟨k + 1, L ++ M, by omega, by rw [unhide HZK]; rfl, unhide HN _ _ ho5 hg5⟩
                case measure =>
                  rw [unhide HZK]
                  simp only [intOf, Int.toNat_natCast]
                  omega
          · have hke : (slAt F t).ln = k := by omega
            have HFI : Hid (SLP (sOf gv rd rw F) l used W (.returned u7) wr) := by
              refine SW.fin (L := L) hs (unhide HB0) h6 ?_ hbA ?_
              · rw [unhide HTF]; exact fits_nodup (unhide HZ) t
              · rw [unhide HTF, ← unhide HLEN, hke]; exact unhide HS
            have hnk : ¬ (k : Int) < ((slAt F t).ln : Int) := by omega
            clear hke
            go_wp2_with fail
            go_ret
            exact unhide HFI
end Go.Proofs.YtffnhflbhckhbaaDoor
