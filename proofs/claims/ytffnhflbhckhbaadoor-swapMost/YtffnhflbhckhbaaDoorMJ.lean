import Derived.Test.YtffnhflbhckhbaaDoorMH
namespace Go.Proofs.YtffnhflbhckhbaaDoor
open Go.RowKit Go.Shelf
attribute [local go_sem] Oper.semAt_some
theorem gift_at {s : Sw} {at0 : Nat} {d : List Int} (h : hd d = (at0 : Int)) : gift s d = if (at0 : Int) < s.gv then (d.length : Int) - 1 else d.length := by
  unfold gift isRow
  rw [h]
  simp only [decide_eq_true_eq]
theorem lists_at {L : List Sl} {k : Nat} (h : k < L.length) : ∃ h', (lists L)[k]'h' = (slAt L k).ints := by
  refine ⟨by rw [lists_len]; exact h, ?_⟩
  unfold lists slAt
  rw [List.getElem_map, List.getElem?_eq_getElem h]
  rfl
def FromP (s : Sw) (at0 : Nat) (used : List Int) (W : World) (e : Ending) (W' : World) : Prop := ∃ v, e = .returned (.int .i64 v) ∧ Opt s (Uf at0 used) v ∧ Below W.heap.size W W'
set_option maxRecDepth 100000 in
set_option maxHeartbeats 4000000 in
theorem swapFrom_any {gv rd rw : Int} {fa : Option Addr} {fn fc : Nat} {F : List Sl} (hz : maySw gv rd rw F = 0) (h6 : F.length ≤ 6) (hfl : ∀ x ∈ F, x.ln ≤ 1024) : ∀ (f at0 : Nat), F.length - at0 < f → at0 ≤ F.length → ∀ (W : World) (ua : Option Addr) (un uc : Nat) (used : List Int), Lsts W fa fn fc F → Ints W ua un uc used → Us (sOf gv rd rw F) used →
    Calls Tryd.prog 17 #[swV gv rd rw fa fn fc, .int .i64 (at0 : Int), .slice ua un uc] W (FromP (sOf gv rd rw F) at0 used W) := by
  obtain ⟨hs, h8, -⟩ := ok_of_may hz
  have HZ := hide hz
  clear hz
  intro f
  induction f with
  | zero => intro at0 hf; omega
  | succ f ih =>
    intro at0 hf hat W ua un uc used hF hU hUs
    have HFN : Hid (fn = F.length) := hF.1
    obtain ⟨wA, hwA⟩ : ∃ y, y = W.alloc (.cells #[.int .i64 gv, .slice fa fn fc, .int .i64 rd, .int .i64 rw] 24) := ⟨_, rfl⟩
    have hbA : Below W.heap.size W wA := by rw [hwA]; go_grown
    have tA : SBox wA W.heap.size gv rd rw fa fn fc := by rw [hwA]; exact ⟨by simp, by simp, by simp, by simp⟩
    have HW := hide hwA
    clear hwA
    have c0 := tA.c0
    have c1 := tA.c1
    have c2 := tA.c2
    have c3 := tA.c3
    have HIH := hide ih
    have HF0 := hide hF
    have HU0 := hide hU
    have HUS := hide hUs
    clear ih hF hU hUs
    unfold swV
    by_cases hend : at0 = F.length
    · have HFI : Hid (FromP (sOf gv rd rw F) at0 used W (.returned (.int .i64 0)) wA) := by
        refine ⟨0, rfl, opt_full fun x _ hx => .inl ?_, hbA⟩
        have : x < (F.length : Int) := hx
        omega
      have hfe : ((at0 : Int) == (fn : Int)) = true := by rw [unhide HFN, hend]; simp
      clear hend
      go_enter Tryd.func17, Tryd.ntmps17
      go_upto_region 1 with fail
      rw [← unhide HW]
      go_wp2_with fail
      go_ret
      exact unhide HFI
    · have hfe : ((at0 : Int) == (fn : Int)) = false := by
        rw [unhide HFN]
        simp only [beq_eq_false_iff_ne, ne_eq]
        omega
      have za : wrap64 ((at0 : Int) + 1) = (at0 : Int) + 1 := wrap64_sm _ (by omega)
      have HR1 := hide (unhide HIH (at0 + 1) (by omega) (by omega) wA ua un uc used ((unhide HF0).later hbA) ((unhide HU0).later hbA) (unhide HUS))
      unfold swV at HR1
      rw [show (((at0 + 1 : Nat) : Int)) = (at0 : Int) + 1 by omega] at HR1
      have HEND := hide hend
      clear hend
      go_enter Tryd.func17, Tryd.ntmps17
      go_upto_region 1 with fail
      rw [← unhide HW]
      go_upto_region 4 with (go_at_call 17; refine (unhide HR1).mono ?_; rintro e w1 ⟨v0, rfl, ho0, hb1⟩)
      have HO0 := hide ho0
      have t1 := tA.later hb1
      have hbw1 := hbA.trans (hb1.mono hbA.size)
      have HIU := hide (in_any ua un uc used (at0 : Int) w1 ((unhide HU0).later hbw1))
      rw [idx_memL] at HIU
      clear c0 c1 c2 c3 ho0 HR1
      go_upto_region 5 with (go_at_call 16; refine (unhide HIU).mono ?_; rintro e w' ⟨rfl, hw'⟩; subst w')
      by_cases hau : (at0 : Int) ∈ used
      · have HFI : Hid (FromP (sOf gv rd rw F) at0 used W (.returned (.int .i64 v0)) w1) := ⟨v0, rfl, uf_in (unhide HO0) hau, hbw1⟩
        rw [decide_eq_true hau]
        clear hau
        go_wp2_with fail
        go_ret
        exact unhide HFI
      · rw [decide_eq_false hau]
        have HAU := hide hau
        clear hau
        have c0 := t1.c0
        have c1 := t1.c1
        have c2 := t1.c2
        have c3 := t1.c3
        obtain ⟨w2, hw2⟩ : ∃ y, y = w1.alloc (.cells #[.int .i64 (at0 : Int)] 3) := ⟨_, rfl⟩
        have hb2 : Below w1.heap.size w1 w2 := by rw [hw2]; exact alloc_later _ _
        have hI2 : Ints w2 (some ⟨w1.heap.size, 0, none⟩) 1 1 [(at0 : Int)] := ints_one (by rw [hw2]; simp)
        have hT2 : T3 w2 (some ⟨w1.heap.size, 0, none⟩) 1 := .inr ⟨w1.heap.size, 0, _, _, rfl, by rw [hw2]; exact heap_alloc_new _ _⟩
        have hbw2 := hbw1.trans (hb2.mono hbw1.size)
        have hB2 : Bg (sOf gv rd rw F) [(at0 : Int)] := by
          refine ⟨by simp, fun x hx => ?_, fun i hi => ?_, by simp⟩
          · rw [List.mem_singleton.1 hx]
            have := unhide HEND
            exact ⟨by omega, by show (at0 : Int) < (F.length : Int); omega⟩
          · simp at hi
        have HSL := hide (swapLines_any (unhide HZ) h6 hfl (F.length + 1) [(at0 : Int)] (by omega) w2 _ 1 1 ua un uc used ((unhide HF0).later hbw2) hB2 hI2 hT2 ((unhide HU0).later hbw2))
        unfold swV at HSL
        have t2 := t1.later hb2
        have HW2 := hide hw2
        clear hw2 hI2 hT2 hB2
        go_wp2_with fail
        rw [← unhide HW2]
        refine (unhide HSL).mono ?_
        rintro e w3 ⟨lv, L, rfl, hb3, l2, l3, l4, l5, l6⟩
        obtain ⟨pa, pc, rfl, hL⟩ := Lsts.of_owns l2 (fun y hy => (l3 y hy).2)
        have t3 := t2.later hb3
        have hbw3 := hbw2.trans (hb3.mono hbw2.size)
        have hbd : L.length ≤ 326 := by
          have h2 := bnd_le ((sOf gv rd rw F).n - [(at0 : Int)].length) (by show F.length - 1 ≤ 5; omega)
          omega
        have HSF0 : Hid (SF (sOf gv rd rw F) at0 used v0 v0 (lists L) 0) := ⟨Int.le_refl _, by have := opt_bound (unhide HO0); have h9 : v0 ≤ (F.length : Int) := this.2; omega, fun d hd => by rw [List.take_zero] at hd; (cases hd), .inl rfl⟩
        have HLN : Hid (∀ k, k < L.length → Ln1 (sOf gv rd rw F) at0 used (slAt L k).ints) := fun k hk => ln1_of hs (unhide HAU) (l5 _ (List.mem_map.2 ⟨_, slAt_mem hk, rfl⟩))
        have HCO := hide l6
        have HL := hide hL
        have HBW3 := hide hbw3
        clear c0 c1 c2 c3 l2 l3 l4 l5 l6 hL HSL hbw2 hbw1 hb1 hb2 t1 t2 HW2 hbw3
        go_wp2_with fail
        go_loopw [7, 10] (fun bv i wr => ∃ (k : Nat) (bb : Int), k ≤ L.length ∧ i = .int .i64 (k : Int) ∧ bv = .int .i64 bb ∧ Hid (Below w3.heap.size w3 wr) ∧ Hid (SF (sOf gv rd rw F) at0 used v0 bb (lists L) k)) (fun _ i _ => L.length - (intOf i).toNat)
        case atStart => exact ⟨0, v0, Nat.zero_le _, rfl, rfl, Below.refl _ _, HSF0⟩
        case round =>
          obtain ⟨k, bb, hk, rfl, rfl, HBR, HSF⟩ := hrel
          by_cases hlt : k < L.length
          · have hLr := (unhide HL).later (unhide HBR)
            obtain ⟨pb, po, epa, hpb, hpc⟩ := hLr.cellAt (by omega)
            subst epa
            have hck := hpc k hlt
            have hId := hLr.mem hlt
            have tr := t3.later (unhide HBR)
            have c0 := tr.c0
            have c1 := tr.c1
            have c2 := tr.c2
            have c3 := tr.c3
            have hln1 := unhide HLN k hlt
            have hdn : (slAt L k).ints.length = (slAt L k).ln := hId.1.symm
            have hd6 : (slAt L k).ln ≤ 6 := by
              have h1 : (slAt L k).ints.length ≤ F.length := nodup_len8 hln1.nd hln1.line.rng
              omega
            have hd2 : 2 ≤ (slAt L k).ln := by have := hln1.line.two; omega
            have hgi := gift_at (s := sOf gv rd rw F) hln1.hdd
            rw [hdn] at hgi
            obtain ⟨rb, hrb⟩ : ∃ rb, decide ((at0 : Int) < gv) = rb := ⟨_, rfl⟩
            obtain ⟨g, hg⟩ : ∃ g, gift (sOf gv rd rw F) (slAt L k).ints = g := ⟨_, rfl⟩
            rw [hg] at hgi
            have HGI : Hid ((rb = true → g = ((slAt L k).ln : Int) - 1) ∧ (rb = false → g = ((slAt L k).ln : Int))) := by
              constructor
              · intro q
                rw [q] at hrb
                rw [hgi, if_pos (show (at0 : Int) < (sOf gv rd rw F).gv from of_decide_eq_true hrb)]
              · intro q
                rw [q] at hrb
                rw [hgi, if_neg (show ¬ (at0 : Int) < (sOf gv rd rw F).gv from of_decide_eq_false hrb)]
            have hg0 : 0 ≤ g ∧ g ≤ 6 := by
              rw [hgi]
              split <;> omega
            have hlk : (k : Int) < (L.length : Int) := by omega
            have HG := hide hg
            have HL1 := hide hln1
            have HID := hide hId
            have HCK := hide hck
            have HDN := hide hdn
            clear hpc hg hgi hln1 hdn hId
            generalize hsl : slAt L k = S at *
            obtain ⟨la, ln, lc, d⟩ := S
            simp only at hck hd6 hd2
            have HSLK := hide hsl
            have zl : wrap64 ((ln : Int) - 1) = (ln : Int) - 1 := wrap64_sm _ (by omega)
            clear hsl
            go_upto_if 46 with fail
            clear hrb
            go_cut [11] from 47 to 48 (fun s11 wc => s11 = .int .i64 g ∧ wc = wr)
            case first =>
              cases rb with
              | true =>
                have HR : Hid (g = (ln : Int) - 1) := (unhide HGI).1 rfl
                clear hg0 hd6 hd2
                go_wp2_with fail
                go_meet
                case rel => exact ⟨by rw [unhide HR], rfl⟩
              | false =>
                have HR : Hid (g = (ln : Int)) := (unhide HGI).2 rfl
                clear hg0 hd6 hd2
                go_wp2_with fail
                go_meet
                case rel => exact ⟨by rw [unhide HR], rfl⟩
            case rest =>
              obtain ⟨rfl, hwc⟩ := hcut
              subst wc
              have hbr := unhide HBR
              have hbwr := (unhide HBW3).trans (hbr.mono (unhide HBW3).size)
              have hUr := (unhide HU0).later hbwr
              have hun : un ≤ 6 := by
                have h1 := (unhide HUS).len
                have h2 : used.length ≤ F.length := h1
                have := hUr.1
                omega
              have hUs2 := us_line (unhide HUS) (unhide HL1)
              have HREC : Hid (∀ (X : World) (v2 : Value), Below wr.heap.size wr X → X.ownsRow wr.heap.size 3 1 v2 (un + ln) (intVals (used ++ d)) → Calls Tryd.prog 17 #[swV gv rd rw fa fn fc, .int .i64 ((at0 : Int) + 1), v2] X fun e X' => ∃ v, e = .returned (.int .i64 v) ∧ (0 ≤ v ∧ v ≤ 8) ∧ (Below wr.heap.size wr X' ∧ Opt (sOf gv rd rw F) (Uf (at0 + 1) (used ++ d)) v)) := fun X v2 hX ho => by
                obtain ⟨a2, c2, rfl, hI2, -⟩ := Ints.of_owns ho (by omega)
                have hbX := hbwr.trans (hX.mono hbwr.size)
                have := unhide HEND
                refine (unhide HIH (at0 + 1) (by omega) (by omega) X a2 _ c2 (used ++ d) ((unhide HF0).later hbX) hI2 hUs2).mono ?_
                rintro e X' ⟨v, rfl, o1, o2⟩
                have ob := opt_bound o1
                have ob2 : v ≤ (F.length : Int) := ob.2
                exact ⟨v, rfl, ⟨ob.1, by omega⟩, hX.trans (o2.mono hX.size), o1⟩
              have hat8 : at0 ≤ 100 := by omega
              have hul : un + ln ≤ 900 := by omega
              clear hUs2 c0 c1 c2 c3
              go_wp2_with fail
              refine (wpIn_wide (n := 9)).1 ?_
              refine wp_region_vals (fun _ => trivial) rfl Dg Sg _ (by kernel_rfl) (by kernel_rfl) (by kernel_rfl) (by kernel_rfl) (by kernel_rfl) (by kernel_rfl) (by kernel_rfl) ⟨Det.nil _, fun _ => ⟨(Below.refl _ _).drew, fun q => absurd q (by simp), fun q => absurd q (by simp), fun q => absurd q (by simp)⟩, fun q => absurd q (by simp)⟩ (stepsg (W := wr) (Bs := W.heap.size) (at0 := at0) (k := k) (n1 := g) (li := d) (ui := used) (R := fun v X' => Below wr.heap.size wr X' ∧ Opt (sOf gv rd rw F) (Uf (at0 + 1) (used ++ d)) v) rfl rfl rfl rfl rfl rfl hlt hat8 (by omega) hpb (unhide HCK) tr (unhide HID) hUr hul (unhide HREC) rfl rfl rfl rfl rfl rfl rfl rfl rfl rfl rfl rfl rfl rfl rfl rfl rfl rfl rfl rfl rfl rfl rfl rfl rfl rfl rfl rfl rfl rfl) ?_
              rintro lv vals w4 ⟨-, hM⟩ hall
              obtain ⟨v, k1, k2, ⟨k3, k4⟩, -, k5⟩ := hM.2 (hall 12 (by decide))
              have k5 := k5 (hall 14 (by decide))
              clear hM hall
              simp only [finA, Sg, Act.put, List.setIfInBounds_toArray, List.set_cons_succ, List.set_cons_zero, k5]
              have HNX : Hid (SF (sOf gv rd rw F) at0 used v0 (if bb < g + v then g + v else bb) (lists L) (k + 1)) := by
                obtain ⟨hk', ek⟩ := lists_at hlt
                rw [unhide HSLK] at ek
                have ek : (lists L)[k] = d := ek
                refine (unhide HSF).next (g := g) (v := v) hk' ?_ ?_ ?_ (by omega)
                · rw [ek]; exact unhide HL1
                · rw [ek]
                  refine uf_line k4 ?_
                  have h2 := hd_mem (d := d) (by have := unhide HDN; have h3 : d.length = ln := this; omega)
                  rw [(unhide HL1).hdd] at h2
                  exact h2
                · rw [ek]; exact unhide HG
              have HB4 : Hid (Below w3.heap.size w3 w4) := hbr.trans (k3.mono hbr.size)
              clear k1 k3 k4 k5 HREC hUr hbwr hbr
              by_cases hgt : bb < g + v
              · rw [if_pos hgt] at HNX
                go_wp2_with fail
                go_roundw
                case rel => exact ⟨k + 1, g + v, by omega, rfl, rfl, HB4, HNX⟩
                case measure =>
                  simp only [intOf, Int.toNat_natCast]
                  omega
              · rw [if_neg hgt] at HNX
                go_wp2_with fail
                go_roundw
                case rel => exact ⟨k + 1, bb, by omega, rfl, rfl, HB4, HNX⟩
                case measure =>
                  simp only [intOf, Int.toNat_natCast]
                  omega
          · have hke : k = L.length := by omega
            subst hke
            have HFI : Hid (FromP (sOf gv rd rw F) at0 used W (.returned (.int .i64 bb)) wr) := by
              have h1 := unhide HSF
              have hbr := unhide HBR
              refine ⟨bb, rfl, SF.fin hs (L := lists L) (by rw [lists_len]; exact h1) ?_ (unhide HAU) (unhide HO0) (unhide HCO), (unhide HBW3).trans (hbr.mono (unhide HBW3).size)⟩
              have := unhide HEND
              show at0 < F.length
              omega
            go_wp2_with fail
            go_ret
            exact unhide HFI
end Go.Proofs.YtffnhflbhckhbaaDoor
