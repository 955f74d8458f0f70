import Derived.Test.YtffnhflbhckhbaaDoorMK
namespace Go.Proofs.YtffnhflbhckhbaaDoor
open Go.RowKit Go.Shelf
attribute [local go_sem] Oper.semAt_some
/-- Two whose gifts fit each other. -/
def F2 (b : Nat) : List Sl := [⟨some ⟨b, 0, none⟩, 1, 1, [1]⟩, ⟨some ⟨b + 1, 0, none⟩, 1, 1, [0]⟩]
theorem may2 (b : Nat) : maySw 0 2 0 (F2 b) = 0 := rfl
theorem opt2 {b : Nat} {v : Int} (h : Opt (sOf 0 2 0 (F2 b)) (fun _ => False) v) : v = 2 := by
  have h1 := (opt_bound h).2
  have h1 : v ≤ 2 := h1
  have hp : Plan (sOf 0 2 0 (F2 b)) (fun _ => False) [[0, 1]] := by
    refine ⟨fun c hc => ?_, by decide, fun x _ q => q⟩
    rw [List.mem_singleton.1 hc]
    refine ⟨by decide, fun x hx => ?_, fun i hi => ?_, rfl⟩
    · show 0 ≤ x ∧ x < 2
      simp at hx
      omega
    · have : i = 0 := by simp at hi; omega
      subst this
      show (1 : Int) ∈ [(1 : Int)]
      simp
  have h2 := h.2 _ hp
  have h3 : total (sOf 0 2 0 (F2 b)) [[0, 1]] = 2 := rfl
  omega
set_option maxRecDepth 100000 in
set_option maxHeartbeats 4000000 in
theorem gifts_any (W : World) (hT : Tab W) : Calls Tryd.prog 10 #[] W fun e W' => e = .returned (.bool true) ∧ Below W.heap.size W W' := by
  obtain ⟨W1, hW1⟩ : ∃ y, y = ((((W.alloc (.cells #[.int .i64 1] 3)).alloc (.cells #[.int .i64 0] 3)).alloc (.cells #[.slice (some ⟨W.heap.size, 0, none⟩) 1 1, .slice (some ⟨W.heap.size + 1, 0, none⟩) 1 1] 34)).alloc (.cells #[.int .i64 0, .slice (some ⟨W.heap.size + 1 + 1, 0, none⟩) 2 2, .int .i64 2, .int .i64 0] 24)) := ⟨_, rfl⟩
  have hb1 : Below W.heap.size W W1 := by rw [hW1]; go_grown
  have hs1 : W1.heap.size = W.heap.size + 1 + 1 + 1 + 1 := by rw [hW1]; simp
  have n0 : ∀ (i : Nat) (v : Value), (#[.int .i64 0, .slice (some ⟨W.heap.size + 1 + 1, 0, none⟩) 2 2, .int .i64 2, .int .i64 0] : Array Value)[i]? = some v → W1.cell? ⟨W.heap.size + 1 + 1 + 1, i, none⟩ = some v := fun i v h => by rw [hW1]; exact cell_new (by simp) h
  have t1 : SBox W1 (W.heap.size + 1 + 1 + 1) 0 2 0 (some ⟨W.heap.size + 1 + 1, 0, none⟩) 2 2 := ⟨n0 0 _ rfl, n0 1 _ rfl, n0 2 _ rfl, n0 3 _ rfl⟩
  have n1 : ∀ (i : Nat) (v : Value), (#[.slice (some ⟨W.heap.size, 0, none⟩) 1 1, .slice (some ⟨W.heap.size + 1, 0, none⟩) 1 1] : Array Value)[i]? = some v → W1.cell? ⟨W.heap.size + 1 + 1, i, none⟩ = some v := fun i v h => by rw [hW1]; exact cell_alloc (cell_new (by simp) h)
  have x0 : W1.cell? ⟨W.heap.size, 0, none⟩ = some (.int .i64 1) := by rw [hW1]; exact cell_alloc (cell_alloc (cell_alloc (cell_new rfl rfl)))
  have x1 : W1.cell? ⟨W.heap.size + 1, 0, none⟩ = some (.int .i64 0) := by rw [hW1]; exact cell_alloc (cell_alloc (cell_new (by simp) rfl))
  have hL : Lsts W1 (some ⟨W.heap.size + 1 + 1, 0, none⟩) 2 2 (F2 W.heap.size) := by
    refine ⟨rfl, Nat.le_refl _, by unfold maxLen; omega, fun x hx => ?_, .inr ⟨W.heap.size + 1 + 1, 0, rfl, by omega, fun j hj => ?_⟩⟩
    · have hx : x = ⟨some ⟨W.heap.size, 0, none⟩, 1, 1, [1]⟩ ∨ x = ⟨some ⟨W.heap.size + 1, 0, none⟩, 1, 1, [0]⟩ := by
        unfold F2 at hx
        simpa using hx
      rcases hx with rfl | rfl
      · exact ints_one x0
      · exact ints_one x1
    · have : j = 0 ∨ j = 1 := by omega
      rcases this with rfl | rfl
      · exact n1 0 _ rfl
      · exact n1 1 _ rfl
  have hfl : ∀ s ∈ F2 W.heap.size, s.ln ≤ 1024 := fun x hx => by
    unfold F2 at hx
    simp only [List.mem_cons, List.not_mem_nil, or_false] at hx
    rcases hx with rfl | rfl <;> exact (by decide : (1 : Nat) ≤ 1024)
  have HW := hide hW1
  have HMO := hide (most_any 0 2 0 _ 2 2 (F2 W.heap.size) W1 hL hfl (hT.later hb1))
  unfold swV at HMO
  have HFL := hide hfl
  have HL := hide hL
  have c0 := t1.c0
  have c1 := t1.c1
  have c2 := t1.c2
  have c3 := t1.c3
  clear n0 n1 x0 x1 hW1 hfl hL
  go_enter Tryd.func10, Tryd.ntmps10
  go_upto_region 2 with fail
  rw [← unhide HW]
  go_wp2_with fail
  refine (unhide HMO).mono ?_
  rintro e w2 ⟨ra, rn, rc, R, qa, qn, qc, Q, rfl, hR, hQ, hrq, hlR, hlQ, hb2, hno, hyes⟩
  rw [may2]
  obtain ⟨v, ho, hck⟩ := hyes (may2 _)
  obtain rfl : v = 2 := opt2 ho
  have t2 := t1.later hb2
  have hbw2 := hb1.trans (hb2.mono hb1.size)
  have HCK := hide (check_any 0 2 0 _ 2 2 (F2 W.heap.size) ra rn rc R qa qn qc Q w2 ((unhide HL).later hb2) (unhide HFL) hR (by omega) (fun x hx => by have := hlR x hx; omega) hQ (by omega) (fun x hx => by have := hlQ x hx; omega))
  rw [hck] at HCK
  unfold swV pairV at HCK
  simp only at HCK
  clear c0 c1 c2 c3 HMO hno hyes hlR hlQ hR hQ ho hck
  have c0 := t2.c0
  have c1 := t2.c1
  have c2 := t2.c2
  have c3 := t2.c3
  go_wp2_with fail
  refine (unhide HCK).mono ?_
  rintro e w3 ⟨rfl, hb3⟩
  clear c0 c1 c2 c3 HCK
  go_wp2_with fail
  go_ret
  exact ⟨rfl, hbw2.trans (hb3.mono hbw2.size)⟩
set_option maxRecDepth 100000 in
set_option maxHeartbeats 4000000 in
/-- The walk of TopGifts. -/
theorem topGifts_any {gv rd rw : Int} {fa : Option Addr} {fn fc : Nat} {F : List Sl} (ra : Option Addr) (rn rc : Nat) (R : List Sl) (qa : Option Addr) (qn qc : Nat) (Q : List Sl) (W : World) (hF : Lsts W fa fn fc F) (hR : Lsts W ra rn rc R) (hQ : Lsts W qa qn qc Q) (hrn : rn ≤ 140737488351232) (hqn : qn ≤ 140737488351232) (hlR : ∀ x ∈ R, x.ln ≤ 140737488351232) (hlQ : ∀ x ∈ Q, x.ln ≤ 140737488351232) (hT : Tab W) : Calls Tryd.prog 4 #[swV gv rd rw fa fn fc, .slice ra rn rc, .slice qa qn qc] W fun e W' => e = .returned (.bool true) ∧ Below W.heap.size W W' := by
  obtain ⟨wA, hwA⟩ : ∃ y, y = W.alloc (.cells #[.int .i64 gv, .slice fa fn fc, .int .i64 rd, .int .i64 rw] 24) := ⟨_, rfl⟩
  have hbA : Below W.heap.size W wA := by rw [hwA]; go_grown
  have tA : SBox wA W.heap.size gv rd rw fa fn fc := by rw [hwA]; exact ⟨by simp, by simp, by simp, by simp⟩
  have HW := hide hwA
  clear hwA
  have c0 := tA.c0
  have c1 := tA.c1
  have c2 := tA.c2
  have c3 := tA.c3
  have HFN : Hid (fn = F.length) := hF.1
  have HF := hide hF
  have HR := hide hR
  have HQ := hide hQ
  have HLR := hide hlR
  have HLQ := hide hlQ
  clear hF hR hQ hlR hlQ
  unfold swV
  go_enter Tryd.func4, Tryd.ntmps4
  go_upto_region 1 with fail
  rw [← unhide HW]
  by_cases h8 : (8 : Int) < (fn : Int)
  · go_wp2_with fail
    go_ret
    exact ⟨rfl, hbA⟩
  · go_wp2_with fail
    go_loopw [7] (fun i wr => ∃ k : Nat, k ≤ fn ∧ i = .int .i64 (k : Int) ∧ wr = wA ∧ Hid (∀ j, j < k → (slAt F j).ln ≤ 64)) (fun i _ => fn - (intOf i).toNat)
    case atStart => exact ⟨0, Nat.zero_le _, rfl, rfl, fun j hj => by omega⟩
    case round =>
      obtain ⟨k, hk, rfl, hwr, HJ⟩ := hrel
      subst hwr
      by_cases hlt : k < fn
      · have hFr := (unhide HF).later hbA
        obtain ⟨fb, fo, efa, hfb, hfc⟩ := hFr.cellAt (by omega)
        subst efa
        have f1 := hfc k hlt
        have hlk : (k : Int) < (fn : Int) := by omega
        clear hfc
        by_cases h64 : (64 : Int) < ((slAt F k).ln : Int)
        · go_wp2_with fail
          go_ret
          exact ⟨rfl, hbA⟩
        · have HN : Hid (∀ j, j < k + 1 → (slAt F j).ln ≤ 64) := fun j hj => by
            by_cases e : j = k
            · subst e; omega
            · exact unhide HJ j (by omega)
          go_wp2_with fail
          go_roundw
          case rel => exact ⟨k + 1, by omega, by go_num, trivial, HN⟩
          case measure => simp [intOf]; omega
      · have hke : k = fn := by omega
        subst hke
        have hfl : ∀ x ∈ F, x.ln ≤ 1024 := fun x hx => by
          obtain ⟨j, hj, e⟩ := List.getElem_of_mem hx
          have := unhide HJ j (by have := unhide HFN; omega)
          unfold slAt at this
          rw [List.getElem?_eq_getElem hj, Option.getD_some, e] at this
          omega
        have HFL := hide hfl
        clear hfl
        have zs : wrap64 ((rn : Int) + (qn : Int)) = (rn : Int) + (qn : Int) := wrap64_sm _ (by omega)
        by_cases hbig : (64 : Int) < (rn : Int) + (qn : Int)
        · go_wp2_with fail
          go_ret
          exact ⟨rfl, hbA⟩
        · have hrs : rn ≤ 64 ∧ qn ≤ 64 := by omega
          have HRS := hide hrs
          have HGI := hide (gifts_any wr (hT.later hbA))
          clear hrs
          go_wp2_with fail
          refine (unhide HGI).mono ?_
          rintro e w1 ⟨rfl, hb1⟩
          have t1 := tA.later hb1
          have hbw1 := hbA.trans (hb1.mono hbA.size)
          have HMO := hide (most_any gv rd rw fa k fc F w1 ((unhide HF).later hbw1) (unhide HFL) (hT.later hbw1))
          unfold swV at HMO
          clear c0 c1 c2 c3 HGI
          have c0 := t1.c0
          have c1 := t1.c1
          have c2 := t1.c2
          have c3 := t1.c3
          go_wp2_with fail
          refine (unhide HMO).mono ?_
          rintro e w2 ⟨ma, mn, mc, M, na, nn, nc, N, rfl, hM, hN, hmn, hlM, hlN, hb2, hno, hyes⟩
          have t2 := t1.later hb2
          have hbw2 := hbw1.trans (hb2.mono hbw1.size)
          have HC1 := hide (check_any gv rd rw fa k fc F ma mn mc M na nn nc N w2 ((unhide HF).later hbw2) (unhide HFL) hM (by omega) (fun x hx => by have := hlM x hx; omega) hN (by omega) (fun x hx => by have := hlN x hx; omega))
          have hck1 : ∃ n : Int, chkR gv rd rw F (lists M) (lists N) = (n, maySw gv rd rw F) ∧ (maySw gv rd rw F = 0 → Opt (sOf gv rd rw F) (fun _ => False) n) := by
            by_cases hz : maySw gv rd rw F = 0
            · obtain ⟨v, ho, hck⟩ := hyes hz
              exact ⟨v, by rw [hck, hz], fun _ => ho⟩
            · exact ⟨0, by unfold chkR; rw [if_neg hz], fun q => absurd q hz⟩
          obtain ⟨n, hn1, hn2⟩ := hck1
          rw [hn1] at HC1
          unfold swV pairV at HC1
          simp only at HC1
          have HN2 := hide hn2
          clear c0 c1 c2 c3 HMO hno hyes hlM hlN hM hN hn1 hn2 hmn
          have c0 := t2.c0
          have c1 := t2.c1
          have c2 := t2.c2
          have c3 := t2.c3
          go_wp2_with fail
          refine (unhide HC1).mono ?_
          rintro e w3 ⟨rfl, hb3⟩
          have t3 := t2.later hb3
          have hbw3 := hbw2.trans (hb3.mono hbw2.size)
          have HMY := hide (may_any gv rd rw fa k fc F w3 ((unhide HF).later hbw3) (unhide HFL))
          unfold swV at HMY
          clear c0 c1 c2 c3 HC1
          have c0 := t3.c0
          have c1 := t3.c1
          have c2 := t3.c2
          have c3 := t3.c3
          go_wp2_with fail
          refine (unhide HMY).mono ?_
          rintro e w4 ⟨rfl, hb4⟩
          have t4 := t3.later hb4
          have hbw4 := hbw3.trans (hb4.mono hbw3.size)
          have HC2 := hide (check_any gv rd rw fa k fc F ra rn rc R qa qn qc Q w4 ((unhide HF).later hbw4) (unhide HFL) ((unhide HR).later hbw4) (by have := (unhide HRS).1; omega) (unhide HLR) ((unhide HQ).later hbw4) (by have := (unhide HRS).2; omega) (unhide HLQ))
          obtain ⟨⟨m, g⟩, hmg⟩ : ∃ r, chkR gv rd rw F (lists R) (lists Q) = r := ⟨_, rfl⟩
          have HFIN : Hid (g = 0 → maySw gv rd rw F = 0 ∧ m ≤ n) := fun hg => by
            subst hg
            have hz : maySw gv rd rw F = 0 := by
              by_cases hz : maySw gv rd rw F = 0
              · exact hz
              · unfold chkR at hmg
                rw [if_neg hz] at hmg
                injection hmg with _ h2
            obtain ⟨-, -, p1, p2⟩ := (chk_plan hz _ _ _).1 hmg
            exact ⟨hz, by rw [p2]; exact (unhide HN2 hz).2 _ p1⟩
          rw [hmg] at HC2
          unfold swV pairV at HC2
          simp only at HC2
          clear c0 c1 c2 c3 HMY hmg
          have c0 := t4.c0
          have c1 := t4.c1
          have c2 := t4.c2
          have c3 := t4.c3
          generalize maySw gv rd rw F = z at *
          go_wp2_with fail
          refine (unhide HC2).mono ?_
          rintro e w5 ⟨rfl, hb5⟩
          have hbw5 := hbw4.trans (hb5.mono hbw4.size)
          clear c0 c1 c2 c3 HC2
          by_cases hg : g = 0
          · obtain ⟨hz0, hmn⟩ := unhide HFIN hg
            subst hg
            subst hz0
            go_wp2_with fail
            go_ret
            exact ⟨rfl, hbw5⟩
          · have hgb : (g != 0) = true := by simpa using hg
            clear hg
            go_wp2_with fail
            go_ret
            exact ⟨rfl, hbw5⟩
end Go.Proofs.YtffnhflbhckhbaaDoor
