import Derived.Test.YtffnhflbhckhbaaDoorME
import Derived.Test.YtffnhflbhckhbaaDoorE
namespace Go.Proofs.YtffnhflbhckhbaaDoor
open Go.RowKit Go.Shelf
attribute [local go_sem] Oper.semAt_some
/-- What Most gives. -/
def MostP (gv rd rw : Int) (F : List Sl) (W : World) (e : Ending) (W' : World) : Prop :=
  ∃ (ra : Option Addr) (rn rc : Nat) (R : List Sl) (qa : Option Addr) (qn qc : Nat) (Q : List Sl), e = .returned (.tuple #[.slice ra rn rc, .slice qa qn qc, .int .i64 (maySw gv rd rw F)]) ∧ Lsts W' ra rn rc R ∧ Lsts W' qa qn qc Q ∧ (rn ≤ 8 ∧ qn ≤ 8) ∧ (∀ s ∈ R, s.ln ≤ 8) ∧ (∀ s ∈ Q, s.ln ≤ 8) ∧ Below W.heap.size W W' ∧ (maySw gv rd rw F ≠ 0 → rn = 0 ∧ qn = 0) ∧ (maySw gv rd rw F = 0 → ∃ v, Opt (sOf gv rd rw F) (fun _ => False) v ∧ chkR gv rd rw F (lists R) (lists Q) = (v, 0))
/-- Where Most stands in its loop. -/
structure MW (s : Sw) (v : Int) (m : Nat → Option Value) (W5 : World) (wr : World) (u : Nat) (vR vQ : Value) (R Q : List Sl) : Prop where
  bel : Below W5.heap.size W5 wr
  oR : wr.ownsRow W5.heap.size 34 1 vR R.length (slVals R)
  oQ : wr.ownsRow W5.heap.size 34 1 vQ Q.length (slVals Q)
  ap : Ap vR vQ
  iR : ∀ x ∈ R, Ints W5 x.la x.ln x.lc x.ints
  iQ : ∀ x ∈ Q, Ints W5 x.la x.ln x.lc x.ints
  mi : MI s v u (lists R) (lists Q)
  kn : u = 2 ^ s.n - 1 ∨ (m u).isSome = true
theorem lists_len (R : List Sl) : (lists R).length = R.length := by simp [lists]
theorem lists_snoc (R : List Sl) (x : Sl) : lists (R ++ [x]) = lists R ++ [x.ints] := by simp [lists]
theorem MW.lens {s : Sw} {v : Int} {m : Nat → Option Value} {W5 wr : World} {u : Nat} {vR vQ : Value} {R Q : List Sl} (hn : s.n ≤ 8) (h : MW s v m W5 wr u vR vQ R Q) : R.length ≤ 8 ∧ Q.length ≤ 8 ∧ (∀ x ∈ R, x.ln ≤ 8) ∧ ∀ x ∈ Q, x.ln ≤ 8 := by
  obtain ⟨h1, h2⟩ := plan_len h.mi.pl
  rw [List.length_append, lists_len, lists_len] at h1
  refine ⟨by omega, by omega, fun x hx => ?_, fun x hx => ?_⟩
  · have := h2 x.ints (List.mem_append_left _ (List.mem_map.2 ⟨x, hx, rfl⟩))
    have := (h.iR x hx).1
    omega
  · have := h2 x.ints (List.mem_append_right _ (List.mem_map.2 ⟨x, hx, rfl⟩))
    have := (h.iQ x hx).1
    omega
theorem MW.later {s : Sw} {v : Int} {m : Nat → Option Value} {W5 wr wn : World} {u : Nat} {vR vQ : Value} {R Q : List Sl} (h : MW s v m W5 wr u vR vQ R Q) (hb : Below wr.heap.size wr wn) : MW s v m W5 wn u vR vQ R Q :=
  ⟨h.bel.trans (hb.mono h.bel.size), owns_later h.oR hb, owns_later h.oQ hb, h.ap, h.iR, h.iQ, h.mi, h.kn⟩
theorem MW.fin {gv rd rw v : Int} {F : List Sl} {m : Nat → Option Value} {W W5 wr : World} {vR vQ : Value} {R Q : List Sl} (hz : maySw gv rd rw F = 0) (ho : Opt (sOf gv rd rw F) (Ub 0) v) (hb : Below W.heap.size W W5) (h : MW (sOf gv rd rw F) v m W5 wr (2 ^ F.length - 1) vR vQ R Q) : MostP gv rd rw F W (.returned (.tuple #[vR, vQ, .int .i64 0])) wr := by
  obtain ⟨hs, h8, -⟩ := ok_of_may hz
  obtain ⟨l1, l2, l3, l4⟩ := h.lens h8
  obtain ⟨ra, rc, rfl, hR⟩ := Lsts.of_owns h.oR (fun x hx => (h.iR x hx).later h.bel)
  obtain ⟨qa, qc, rfl, hQ⟩ := Lsts.of_owns h.oQ (fun x hx => (h.iQ x hx).later h.bel)
  have hfin := MI.fin (s := sOf gv rd rw F) h8 h.mi
  refine ⟨ra, _, rc, R, qa, _, qc, Q, by rw [hz], hR, hQ, ⟨l1, l2⟩, l3, l4, hb.trans (h.bel.mono hb.size), fun q => absurd hz q, fun _ => ⟨v, ho.same fun x _ _ => ?_, ?_⟩⟩
  · unfold Ub
    rw [Nat.zero_testBit]
    simp
  · exact (chk_plan hz _ _ _).2 ⟨h.mi.rr, h.mi.qq, h.mi.pl, hfin.symm⟩
theorem lsts_nil (w : World) : Lsts w none 0 0 [] := ⟨rfl, Nat.le_refl _, Nat.zero_le _, fun x hx => (by cases hx), .inl rfl⟩
/-- Another row grew. -/
theorem own_apart {w : World} {w8 : World} {o : Obj} {B e z k : Nat} {va vb : Value} {xs : List Value} (h : w.ownsRow B e z vb k xs) (hap : Ap va vb) (hg : (w.alloc o).grownBy w8 va.ownBlock) : w8.ownsRow B e z vb k xs := by
  refine owns_keep (h.alloc o) fun b hb => hg.block b ?_ ?_
  · have := (h.lt b hb).2
    simp
    omega
  · rcases hap with q | q
    · rw [q] at hb; cases hb
    · rw [← hb]; exact q
theorem MW.putQ {s : Sw} (hn : s.n ≤ 8) {v : Int} {m : Nat → Option Value} {W5 wr w8 : World} {u u' : Nat} {vR vQ v2 : Value} {R Q : List Sl} {x : Sl} {g : Int} {o : Obj} (h : MW s v m W5 wr u vR vQ R Q) (ho : w8.ownsRow W5.heap.size 34 1 v2 (Q.length + 1) (slVals (Q ++ [x]))) (hg : (wr.alloc o).grownBy w8 vQ.ownBlock) (hob : v2.ownBlock = vQ.ownBlock ∨ v2.ownBlock = some (wr.alloc o).heap.size) (hI : Ints W5 x.la x.ln x.lc x.ints) (e3 : Opt s (Ub u) g) (e4 : Good s u x.ints g u') (e5 : u' = 2 ^ s.n - 1 ∨ (m u').isSome = true) (hc : x.ints ≠ []) (hr : isRow s x.ints = true) : MW s v m W5 w8 u' vR v2 R (Q ++ [x]) ∧ ∀ j, (u ||| 2 ^ lowB u).testBit j = true → u'.testBit j = true := by
  have hm := h.mi.put (R' := lists R) (Q' := lists (Q ++ [x])) hn e3 e4 hc (by rw [lists_snoc]; exact perm_mid _ _ _) h.mi.rr (fun c hc => by
    rw [lists_snoc] at hc
    rcases List.mem_append.1 hc with q | q
    · exact h.mi.qq c q
    · rw [List.mem_singleton.1 q]; exact hr)
  refine ⟨⟨?_, own_apart h.oR h.ap.sym hg, by rw [List.length_append]; exact ho, ((h.ap.sym).next (h.oR.alloc o) hob).sym, h.iR, fun y hy => ?_, hm.1, e5⟩, hm.2⟩
  · exact (h.bel.alloc h.bel.size o).grown hg (by have := h.bel.size; simp; omega) (fun q hq => (h.oQ.lt q hq).1)
  · rcases List.mem_append.1 hy with q | q
    · exact h.iQ y q
    · rw [List.mem_singleton.1 q]; exact hI
theorem MW.putR {s : Sw} (hn : s.n ≤ 8) {v : Int} {m : Nat → Option Value} {W5 wr w8 : World} {u u' : Nat} {vR vQ v2 : Value} {R Q : List Sl} {x : Sl} {g : Int} {o : Obj} (h : MW s v m W5 wr u vR vQ R Q) (ho : w8.ownsRow W5.heap.size 34 1 v2 (R.length + 1) (slVals (R ++ [x]))) (hg : (wr.alloc o).grownBy w8 vR.ownBlock) (hob : v2.ownBlock = vR.ownBlock ∨ v2.ownBlock = some (wr.alloc o).heap.size) (hI : Ints W5 x.la x.ln x.lc x.ints) (e3 : Opt s (Ub u) g) (e4 : Good s u x.ints g u') (e5 : u' = 2 ^ s.n - 1 ∨ (m u').isSome = true) (hc : x.ints ≠ []) (hr : isRow s x.ints = false) : MW s v m W5 w8 u' v2 vQ (R ++ [x]) Q ∧ ∀ j, (u ||| 2 ^ lowB u).testBit j = true → u'.testBit j = true := by
  have hm := h.mi.put (R' := lists (R ++ [x])) (Q' := lists Q) hn e3 e4 hc (by rw [lists_snoc]; exact perm_mid2 _ _ _) (fun c hc => by
    rw [lists_snoc] at hc
    rcases List.mem_append.1 hc with q | q
    · exact h.mi.rr c q
    · rw [List.mem_singleton.1 q]; exact hr) h.mi.qq
  refine ⟨⟨?_, by rw [List.length_append]; exact ho, own_apart h.oQ h.ap hg, (h.ap).next (h.oQ.alloc o) hob, fun y hy => ?_, h.iQ, hm.1, e5⟩, hm.2⟩
  · exact (h.bel.alloc h.bel.size o).grown hg (by have := h.bel.size; simp; omega) (fun q hq => (h.oR.lt q hq).1)
  · rcases List.mem_append.1 hy with q | q
    · exact h.iR y q
    · rw [List.mem_singleton.1 q]; exact hI
theorem fld0 (a : Option Addr) (n c : Nat) (g u : Int) (w : World) : (Instr.field 40 (.agg #[.slice a n c, .int .i64 g, .int .i64 u]) 0).run Tryd.prog w = .ok (.slice a n c) w := by
  kernel_rfl
theorem fld2 (a : Option Addr) (n c : Nat) (g u : Int) (w : World) : (Instr.field 40 (.agg #[.slice a n c, .int .i64 g, .int .i64 u]) 2).run Tryd.prog w = .ok (.int .i64 u) w := by
  kernel_rfl
set_option maxRecDepth 100000 in
set_option maxHeartbeats 4000000 in
theorem most_any (gv rd rw : Int) (fa : Option Addr) (fn fc : Nat) (F : List Sl) (w : World) (hF : Lsts w fa fn fc F) (hfl : ∀ s ∈ F, s.ln ≤ 1024) (hT : Tab w) : Calls Tryd.prog 6 #[swV gv rd rw fa fn fc] w (MostP gv rd rw F w) := by
  obtain ⟨wA, hwA⟩ : ∃ y, y = w.alloc (.cells #[.int .i64 gv, .slice fa fn fc, .int .i64 rd, .int .i64 rw] 24) := ⟨_, rfl⟩
  have hbA : Below w.heap.size w wA := by rw [hwA]; go_grown
  have tA : SBox wA w.heap.size gv rd rw fa fn fc := by rw [hwA]; exact ⟨by simp, by simp, by simp, by simp⟩
  have HW := hide hwA
  clear hwA
  have HFN : Hid (fn = F.length) := hF.1
  have s0 := tA.c0
  have s1 := tA.c1
  have s2 := tA.c2
  have s3 := tA.c3
  have HMAY := hide (may_any gv rd rw fa fn fc F wA (hF.later hbA) hfl)
  unfold swV at HMAY ⊢
  go_enter Tryd.func6, Tryd.ntmps6
  go_wp2_with fail
  rw [← unhide HW]
  refine (unhide HMAY).mono ?_
  rintro e w1 ⟨rfl, hb1⟩
  have hbw1 := hbA.trans (hb1.mono hbA.size)
  have t1 := tA.later hb1
  clear s0 s1 s2 s3 tA
  by_cases hz : maySw gv rd rw F = 0
  · obtain ⟨hs, h8, -⟩ := ok_of_may hz
    have h8' : fn ≤ 8 := by rw [unhide HFN]; exact h8
    have HZ := hide hz
    rw [hz]
    clear hz
    have lt1 : w.heap.size < w1.heap.size := t1.lt
    have hT1 : 1 < w.heap.size := World.block_lt_of_cell? w ⟨1, 0, none⟩ (hT 0 (by decide))
    obtain ⟨w2, hw2⟩ : ∃ y, y = w1.alloc (.map #[] 0) := ⟨_, rfl⟩
    have hb2 : Below w1.heap.size w1 w2 := by rw [hw2]; exact alloc_later _ _
    have hsz2 : w2.heap.size = w1.heap.size + 1 := by rw [hw2]; simp
    have hbw2 := hbw1.trans (hb2.mono hbw1.size)
    have t2 := t1.later hb2
    have hFd : Fnd (sOf gv rd rw F) (fun _ => False) w2 w1.heap.size 0 (fun _ => none) := by
      refine ⟨by rw [hw2]; exact fm_made w1, by decide, fun u st hu h => by cases h⟩
    have HSR := hide (search_any (fa := fa) (fn := fn) (fc := fc) hs h8 hfl w1.heap.size (by omega) (freeN F.length 0 + 1) 0 (by omega) (Nat.two_pow_pos _) w2 0 (fun _ => none) (fun _ => False) (fun _ h => h.elim) hFd (hF.later hbw2) (hT.later hbw2))
    unfold swV at HSR
    have s0 := t2.c0
    have s1 := t2.c1
    have s2 := t2.c2
    have s3 := t2.c3
    have hmk : (Instr.makeMap 37 none).run Tryd.prog w1 = .ok (.map (some w1.heap.size)) w2 := by rw [hw2]; rfl
    clear hw2 hFd
    have r0 := t1.c0
    have r1 := t1.c1
    have r2 := t1.c2
    have r3 := t1.c3
    go_wp2_with fail
    refine (unhide HSR).mono ?_
    rintro e w5 ⟨v, N', m, rfl, ho, hFd, -, -, hkn, hk⟩
    have hbw5 : Below w.heap.size w w5 := hbw2.trans (hk.sub (T := fun b => b < w.heap.size) (fun b h => ⟨by omega, by omega⟩)).below
    have t5 : SBox w5 w.heap.size gv rd rw fa fn fc := ⟨(hk.cell (p := ⟨w.heap.size, 0, none⟩) ⟨by show w.heap.size < _; omega, by show w.heap.size ≠ _; omega⟩).trans s0, (hk.cell (p := ⟨w.heap.size, 1, none⟩) ⟨by show w.heap.size < _; omega, by show w.heap.size ≠ _; omega⟩).trans s1, (hk.cell (p := ⟨w.heap.size, 2, none⟩) ⟨by show w.heap.size < _; omega, by show w.heap.size ≠ _; omega⟩).trans s2, (hk.cell (p := ⟨w.heap.size, 3, none⟩) ⟨by show w.heap.size < _; omega, by show w.heap.size ≠ _; omega⟩).trans s3⟩
    have HMAP := hide hFd.map
    have HENT := hide hFd.ent
    have hbM := hFd.lt
    have HO := hide ho
    have HKN := hide hkn
    have HB5 := hide hbw5
    clear r0 r1 r2 r3 s0 s1 s2 s3 hFd ho hk hbw5 hbw2 hkn t1 t2 hmk HSR HMAY HW
    go_wp2_with fail
    go_loopw [2, 3, 7] (fun vr vq vu wr => ∃ (u : Nat) (R Q : List Sl), vu = .int .i64 (u : Int) ∧ Hid (MW (sOf gv rd rw F) v m w5 wr u vr vq R Q)) (fun _ _ vu _ => freeN F.length (intOf vu).toNat)
    case atStart => exact ⟨0, [], [], rfl, Below.refl _ _, World.ownsRow_nil _ _ _ _, World.ownsRow_nil _ _ _ _, .inl rfl, fun x hx => (by cases hx), fun x hx => (by cases hx), MI.start (unhide HO), unhide HKN⟩
    case round =>
      obtain ⟨u, R, Q, rfl, HM⟩ := hrel
      have hu := (unhide HM).mi.ult
      have hu8 : u < 256 := pow_lt h8 hu
      have hbr := (unhide HM).bel
      have t6 := t5.later hbr
      have s0 := t6.c0
      have s1 := t6.c1
      have s2 := t6.c2
      have s3 := t6.c3
      have HEV := hide (everybody_any gv rd rw fa fn fc wr h8')
      unfold swV at HEV
      go_wp2_with fail
      refine (unhide HEV).mono ?_
      rintro e w6 ⟨rfl, hb6⟩
      by_cases hue : u = 2 ^ F.length - 1
      · subst hue
        have HFI := hide (((unhide HM).later hb6).fin (unhide HZ) (unhide HO) (unhide HB5))
        have hne : (((2 ^ F.length - 1 : Nat) : Int) != ((2 ^ fn - 1 : Nat) : Int)) = false := by rw [unhide HFN]; simp
        clear s0 s1 s2 s3
        go_wp2_with fail
        refine bodyPost_ret (v := .tuple #[u2, u3, .int .i64 0]) (by simp [results, Tryd.results6, go_sem]) rfl ?_
        exact unhide HFI
      · have hne : ((u : Int) != ((2 ^ fn - 1 : Nat) : Int)) = true := by
          rw [unhide HFN]
          simp only [bne_iff_ne, ne_eq]
          omega
        have hms : (m u).isSome = true := (unhide HM).kn.resolve_left hue
        obtain ⟨st, hst⟩ := Option.isSome_iff_exists.1 hms
        obtain ⟨la, ln, lc, c, g, u', e1, e2, e3, e4, e5⟩ := unhide HENT u st hu hst
        subst e1
        have hM6 := (unhide HM).later hb6
        have hbr6 := hM6.bel
        have hlk := ((unhide HMAP).keep (S := fun b => b < w5.heap.size) (Keep.of_below hbr6 (fun _ h => h)) hbM).look1 hu8
        rw [hst] at hlk
        simp only [Option.getD_some] at hlk
        have hlen : ln = c.length := e2.1.1
        have hf0 := fld0 la ln lc g (u' : Int)
        have hf2 := fld2 la ln lc g (u' : Int)
        have hfree : ∀ u2 : Nat, (∀ j, (u ||| 2 ^ lowB u).testBit j = true → u2.testBit j = true) → freeN F.length u2 < freeN F.length u := fun u2 h => free_next h8 hu hue h
        have HFR := hide hfree
        clear s0 s1 s2 s3 HM t6 hfree hms
        by_cases hc : c = []
        · subst hc
          have hln : ln = 0 := hlen
          subst hln
          obtain ⟨mi', hu'⟩ := hM6.mi.skip e3 e4
          have HNX : Hid (MW (sOf gv rd rw F) v m w5 w6 u' u2 u3 R Q) := ⟨hM6.bel, hM6.oR, hM6.oQ, hM6.ap, hM6.iR, hM6.iQ, mi', e5⟩
          have HU' := hide hu'
          clear e2 e3 e4 e5 hM6 mi' hu' hlen hu hu8 hue hbr hbr6 hst
          go_wp2_with fail
          go_roundw
          case rel => exact ⟨u', R, Q, rfl, HNX⟩
          case measure =>
            simp only [intOf, Int.toNat_natCast]
            exact unhide HFR u' (fun j hj => by rw [unhide HU']; exact hj)
        · have hlp : 0 < ln := by
            rw [hlen]
            exact List.length_pos_iff.2 hc
          obtain ⟨b, off, rfl, hb, hcell⟩ := e2.1.cellAt hlp
          have hx0 : w5.cell? ⟨b, off, none⟩ = some (.int .i64 (hd c)) := hcell 0 hlp
          have hl0 : ((ln : Int) == 0) = false := by simp; omega
          have hb65 : b < w6.heap.size := by have := hbr6.size; omega
          have hx6 := (hbr6.cell (p := ⟨b, off, none⟩) hb).trans hx0
          have t6 := t5.later hbr6
          have HI := hide e2.1
          have HE3 := hide e3
          have HE4 := hide e4
          have HE5 := hide e5
          have HM6 := hide hM6
          have HC := hide hc
          have HST := hide hst
          have HLEN := hide hlen
          clear e2 e3 e4 e5 hM6 hlen hcell hx0 hc hu8 hue hbr hst
          go_wp2_with fail
          refine (wpIn_wide (n := 9)).1 ?_
          refine wp_region_vals (fun _ => trivial) rfl Dd Sd _ (by kernel_rfl) (by kernel_rfl) (by kernel_rfl) (by kernel_rfl) (by kernel_rfl) (by kernel_rfl) (by kernel_rfl) ⟨Det.nil _, (Below.refl _ _).drew⟩ (stepsd (W := w6) (Bs := w.heap.size) rfl rfl hlp hb65 hx6 t6 rfl rfl rfl rfl rfl rfl rfl rfl rfl rfl rfl rfl) ?_
          rintro l vals w7 ⟨hDt, hb7⟩ hall
          have v5 := hDt 5 _ rfl (hall 5 (by decide))
          clear hDt hall
          simp only [finA, Sd, Act.put, List.setIfInBounds_toArray, List.set_cons_succ, List.set_cons_zero, v5]
          have HM7 := hide ((unhide HM6).later hb7)
          have hlk7 := ((unhide HMAP).keep (S := fun b => b < w5.heap.size) (Keep.of_below (unhide HM7).bel (fun _ h => h)) hbM)
          obtain ⟨q1, q2, -, -⟩ := (unhide HM7).lens h8
          have hsz7 := (unhide HM7).bel.size
          clear hlk t6 hx6 HM6
          by_cases hg : hd c < gv
          · have hgd : decide (hd c < gv) = true := decide_eq_true hg
            rw [hgd]
            go_wp2_with (at_builtin; refine wpList_append_one _ rfl _ _ rfl w5.heap.size _ _ _ rfl ((unhide HM7).oQ.alloc _) w7.heap.size 1 ⟨some ⟨b, off, none⟩, ln, lc, c⟩ rfl (by simp) (by omega) (by simp; omega) ?_; intro v2 w8 ho2 hg2 hob2)
            obtain ⟨mw, hfr⟩ := (unhide HM7).putQ h8 ho2 hg2 hob2 (unhide HI) (unhide HE3) (unhide HE4) (unhide HE5) (unhide HC) (decide_eq_true hg)
            have hlk8 := ((unhide HMAP).keep (S := fun b => b < w5.heap.size) (Keep.of_below mw.bel (fun _ h => h)) hbM).look1 (pow_lt h8 hu)
            rw [unhide HST] at hlk8
            simp only [Option.getD_some] at hlk8
            have HMW := hide mw
            have HFJ := hide hfr
            clear mw hfr ho2 hg2 hob2
            rw [hlk8]
            simp only [Result.andThen_ok, Oper.upon]
            go_wp2_with fail
            go_roundw
            case rel => exact ⟨u', R, Q ++ [_], rfl, HMW⟩
            case measure =>
              simp only [intOf, Int.toNat_natCast]
              exact unhide HFR u' (unhide HFJ)
          · have hgd : decide (hd c < gv) = false := decide_eq_false hg
            rw [hgd]
            go_wp2_with (at_builtin; refine wpList_append_one _ rfl _ _ rfl w5.heap.size _ _ _ rfl ((unhide HM7).oR.alloc _) w7.heap.size 1 ⟨some ⟨b, off, none⟩, ln, lc, c⟩ rfl (by simp) (by omega) (by simp; omega) ?_; intro v2 w8 ho2 hg2 hob2)
            obtain ⟨mw, hfr⟩ := (unhide HM7).putR h8 ho2 hg2 hob2 (unhide HI) (unhide HE3) (unhide HE4) (unhide HE5) (unhide HC) (decide_eq_false (show ¬ hd c < gv from by omega))
            have hlk8 := ((unhide HMAP).keep (S := fun b => b < w5.heap.size) (Keep.of_below mw.bel (fun _ h => h)) hbM).look1 (pow_lt h8 hu)
            rw [unhide HST] at hlk8
            simp only [Option.getD_some] at hlk8
            have HMW := hide mw
            have HFJ := hide hfr
            clear mw hfr ho2 hg2 hob2
            rw [hlk8]
            simp only [Result.andThen_ok, Oper.upon]
            go_wp2_with fail
            go_roundw
            case rel => exact ⟨u', R ++ [_], Q, rfl, HMW⟩
            case measure =>
              simp only [intOf, Int.toNat_natCast]
              exact unhide HFR u' (unhide HFJ)
  · have HFI : Hid (MostP gv rd rw F w (.returned (.tuple #[.slice none 0 0, .slice none 0 0, .int .i64 (maySw gv rd rw F)])) w1) := ⟨none, 0, 0, [], none, 0, 0, [], rfl, lsts_nil w1, lsts_nil w1, ⟨by omega, by omega⟩, fun x hx => (by cases hx), fun x hx => (by cases hx), hbw1, fun _ => ⟨rfl, rfl⟩, fun q => absurd q hz⟩
    have hzb : (maySw gv rd rw F != 0) = true := by simpa using hz
    generalize maySw gv rd rw F = z at *
    clear hz
    go_wp2_with fail
    refine bodyPost_ret (v := .tuple #[.slice none 0 0, .slice none 0 0, .int .i64 z]) (by simp [results, Tryd.results6, go_sem]) rfl ?_
    exact unhide HFI
end Go.Proofs.YtffnhflbhckhbaaDoor
