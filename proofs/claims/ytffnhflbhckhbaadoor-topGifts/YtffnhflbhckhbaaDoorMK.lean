import Derived.Test.YtffnhflbhckhbaaDoorMJ
import Derived.Test.YtffnhflbhckhbaaDoorN
import Derived.Test.YtffnhflbhckhbaaDoorF
import Derived.Test.YtffnhflbhckhbaaDoorK
namespace Go.Proofs.YtffnhflbhckhbaaDoor
open Go.RowKit Go.Shelf
attribute [local go_sem] Oper.semAt_some
set_option maxHeartbeats 1000000 in
theorem most9_any {gv rd rw : Int} {fa : Option Addr} {fn fc : Nat} {F : List Sl} (hz : maySw gv rd rw F = 0) (h6 : F.length ≤ 6) (hfl : ∀ x ∈ F, x.ln ≤ 1024) (W : World) (hF : Lsts W fa fn fc F) : Calls Tryd.prog 9 #[swV gv rd rw fa fn fc] W fun e W' => ∃ v, e = .returned (.int .i64 v) ∧ Opt (sOf gv rd rw F) (fun _ => False) v ∧ Below W.heap.size W W' := by
  obtain ⟨wA, hwA⟩ : ∃ y, y = W.alloc (.cells #[.int .i64 gv, .slice fa fn fc, .int .i64 rd, .int .i64 rw] 24) := ⟨_, rfl⟩
  have hbA : Below W.heap.size W wA := by rw [hwA]; go_grown
  have tA : SBox wA W.heap.size gv rd rw fa fn fc := by rw [hwA]; exact ⟨by simp, by simp, by simp, by simp⟩
  have HW := hide hwA
  clear hwA
  have c0 := tA.c0
  have c1 := tA.c1
  have c2 := tA.c2
  have c3 := tA.c3
  have HSF := hide (swapFrom_any (fa := fa) (fn := fn) (fc := fc) hz h6 hfl (F.length + 1) 0 (by omega) (Nat.zero_le _) wA none 0 0 [] (hF.later hbA) ⟨rfl, Nat.le_refl _, Nat.zero_le _, .inl rfl⟩ ⟨List.nodup_nil, fun x hx => (by cases hx)⟩)
  unfold swV at HSF ⊢
  go_enter Tryd.func9, Tryd.ntmps9
  go_upto_region 1 with fail
  rw [← unhide HW]
  go_wp2_with fail
  refine (unhide HSF).mono ?_
  rintro e w1 ⟨v, rfl, ho, hb⟩
  have HFI : Hid (∃ v', Ending.returned (.int .i64 v) = .returned (.int .i64 v') ∧ Opt (sOf gv rd rw F) (fun _ => False) v' ∧ Below W.heap.size W w1) := by
    refine ⟨v, rfl, ho.same fun x h0 _ => ⟨fun q => ?_, fun q => q.elim⟩, hbA.trans (hb.mono hbA.size)⟩
    rcases q with q | q
    · have q : x < 0 := q
      omega
    · cases q
  clear ho c0 c1 c2 c3
  go_wp2_with fail
  go_ret
  exact unhide HFI
theorem may_big {gv rd rw : Int} {F : List Sl} (h : 8 < F.length) : maySw gv rd rw F ≠ 0 := by
  rw [swm1 h]
  omega
set_option maxRecDepth 100000 in
set_option maxHeartbeats 4000000 in
/-- The walk of SwapMost. -/
theorem swapMost_any {gv rd rw : Int} {fa : Option Addr} {fn fc : Nat} {F : List Sl} (W : World) (hF : Lsts W fa fn fc F) (hln : ∀ x ∈ F, x.ln ≤ 140737488351232) (hn : fn ≤ 140737488351232) (hT : Tab W) : Calls Tryd.prog 3 #[swV gv rd rw fa fn fc] W fun e W' => e = .returned (.bool true) ∧ Below W.heap.size W W' := by
  obtain ⟨wA, hwA⟩ : ∃ y, y = W.alloc (.cells #[.int .i64 gv, .slice fa fn fc, .int .i64 rd, .int .i64 rw] 24) := ⟨_, rfl⟩
  have hbA : Below W.heap.size W wA := by rw [hwA]; go_grown
  have tA : SBox wA W.heap.size gv rd rw fa fn fc := by rw [hwA]; exact ⟨by simp, by simp, by simp, by simp⟩
  have HW := hide hwA
  clear hwA
  have c0 := tA.c0
  have c1 := tA.c1
  have c2 := tA.c2
  have c3 := tA.c3
  have HFN : Hid (fn = F.length) := hF.1
  have HHV := hide (heavy_any fa fn fc F wA (hF.later hbA) hln hn)
  unfold swV
  go_enter Tryd.func3, Tryd.ntmps3
  go_upto_region 1 with fail
  rw [← unhide HW]
  go_cut [23] from 9 to 22 (fun s23 wc => wc = wA ∧ ∃ q : Bool, s23 = .bool q ∧ (q = false → (fn ≤ 6 ∨ 9 ≤ fn) ∧ ∀ x ∈ F, x.ln ≤ 1024))
  case first =>
    go_wp2_with fail
    refine (unhide HHV).mono ?_
    rintro e w' ⟨hv, rfl, hhv, hw'⟩
    subst w'
    clear HHV
    cases hv with
    | true =>
      clear hhv
      go_wp2_with fail
      go_meet
      case rel => exact ⟨rfl, true, rfl, fun h => by cases h⟩
    | false =>
      have HX := hide (hhv rfl).2
      clear hhv
      by_cases h6 : (6 : Int) < (fn : Int)
      · by_cases h9 : (fn : Int) < 9
        · go_wp2_with fail
          go_meet
          case rel => exact ⟨rfl, true, rfl, fun h => by cases h⟩
        · have HQ : Hid (9 ≤ fn) := by show 9 ≤ fn; omega
          have h9b : decide ((fn : Int) < 9) = false := decide_eq_false h9
          go_wp2_with fail
          go_meet
          case rel => exact ⟨rfl, false, rfl, fun _ => ⟨.inr (unhide HQ), unhide HX⟩⟩
      · have HQ : Hid (fn ≤ 6) := by show fn ≤ 6; omega
        go_wp2_with fail
        go_meet
        case rel => exact ⟨rfl, false, rfl, fun _ => ⟨.inl (unhide HQ), unhide HX⟩⟩
  case rest =>
    obtain ⟨hwc, q, rfl, hq⟩ := hcut
    subst wc
    have HQ := hide hq
    clear hq
    cases q with
    | true =>
      go_wp2_with fail
      go_ret
      exact ⟨rfl, hbA⟩
    | false =>
      obtain ⟨hf6, hfl⟩ := unhide HQ rfl
      have HF6 := hide hf6
      have HFL := hide hfl
      have HMO := hide (most_any gv rd rw fa fn fc F wA (hF.later hbA) hfl (hT.later hbA))
      unfold swV at HMO
      clear hf6 hfl HQ
      go_wp2_with fail
      refine (unhide HMO).mono ?_
      rintro e w1 ⟨ra, rn, rc, R, qa, qn, qc, Q, rfl, hR, hQ, hrq, hlR, hlQ, hb1, hno, hyes⟩
      have t1 := tA.later hb1
      have hbw1 := hbA.trans (hb1.mono hbA.size)
      have HSM := hide (swapMay_any gv rd rw fa fn fc F w1 (hF.later hbw1) (unhide HFL))
      unfold swV at HSM
      have HR := hide hR
      have HQQ := hide hQ
      have HLR := hide hlR
      have HLQ := hide hlQ
      have HNO := hide hno
      have HYES := hide hyes
      have HRQ := hide hrq
      clear c0 c1 c2 c3 hR hQ hlR hlQ hno hyes HMO
      have c0 := t1.c0
      have c1 := t1.c1
      have c2 := t1.c2
      have c3 := t1.c3
      go_wp2_with fail
      refine (unhide HSM).mono ?_
      rintro e w2 ⟨rfl, hb2⟩
      have t2 := t1.later hb2
      have hbw2 := hbw1.trans (hb2.mono hbw1.size)
      clear c0 c1 c2 c3 HSM
      by_cases hz : maySw gv rd rw F = 0
      · have h6 : F.length ≤ 6 := by
          have := (ok_of_may hz).2.1
          have := unhide HFN
          rcases unhide HF6 with q | q <;> omega
        obtain ⟨v, ho, hck⟩ := unhide HYES hz
        have HSC := hide (swapCheck_any gv rd rw fa fn fc F ra rn rc R qa qn qc Q w2 (hF.later hbw2) (unhide HFL) ((unhide HR).later hb2) (by have := (unhide HRQ).1; omega) (fun x hx => by have := unhide HLR x hx; omega) ((unhide HQQ).later hb2) (by have := (unhide HRQ).2; omega) (fun x hx => by have := unhide HLQ x hx; omega))
        rw [hck] at HSC
        unfold swV pairV at HSC
        simp only at HSC
        have HM9 := hide (fun w3 (hb3 : Below W.heap.size W w3) => most9_any (fa := fa) (fn := fn) (fc := fc) hz h6 (unhide HFL) w3 (hF.later hb3))
        unfold swV at HM9
        have HO := hide ho
        rw [hz]
        have c0 := t2.c0
        have c1 := t2.c1
        have c2 := t2.c2
        have c3 := t2.c3
        clear hz hck ho
        go_wp2_with fail
        refine (unhide HSC).mono ?_
        rintro e w3 ⟨rfl, hb3⟩
        have t3 := t2.later hb3
        have hbw3 := hbw2.trans (hb3.mono hbw2.size)
        clear c0 c1 c2 c3 HSC
        have c0 := t3.c0
        have c1 := t3.c1
        have c2 := t3.c2
        have c3 := t3.c3
        go_wp2_with fail
        refine (unhide HM9 w3 hbw3).mono ?_
        rintro e w4 ⟨v', rfl, ho', hb4⟩
        obtain rfl : v = v' := (unhide HO).uniq ho'
        clear c0 c1 c2 c3 HM9 ho'
        go_wp2_with fail
        go_ret
        exact ⟨rfl, hbw3.trans (hb4.mono hbw3.size)⟩
      · obtain ⟨hr0, hq0⟩ := unhide HNO hz
        subst hr0
        subst hq0
        have hzb : (maySw gv rd rw F != 0) = true := by simpa using hz
        generalize maySw gv rd rw F = z at *
        clear hz
        go_wp2_with fail
        go_ret
        exact ⟨rfl, hbw2⟩
end Go.Proofs.YtffnhflbhckhbaaDoor
