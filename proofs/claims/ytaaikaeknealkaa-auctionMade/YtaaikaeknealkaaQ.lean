import Derived.Test.YtaaikaeknealkaaP
namespace Go.Proofs.Ytaaikaeknealkaa
open Go.RowKit
/-- The step of a region that draws its order: Given calls itself. -/
theorem step_given (w : World) {ops : Array Oper} {o : Oper} {a : Act} {K : Act → World → Prop} {Q : Exit → Act → World → Prop} {E : Prop} (hgd : o.guard = none) (x y z : Operand)
    (ho : o.op = .call { callee := .value (.func 16), args := #[x, y, z], argTypes := #[24, 26, 3] }) (vx vy vz : Value) (hx : a.eval x = vx) (hy : a.eval y = vy) (hz : a.eval z = vz)
    (n : Nat) (p : Int × List Int) (h : Calls Try.prog 16 #[vx, vy, vz] w (GivP n p w)) (hK : ∀ sa sc w', Ints w' sa n sc p.2 → Below w.heap.size w w' → K (a.put o.dst (.tuple #[.slice sa n sc, .int .i64 p.1])) w') :
    if Region.wanted o (yielded ops a.tmps) = true then Oper.wp Try.prog o a w K Q else E := by
  have hw : Region.wanted o (yielded ops a.tmps) = true := by simp [Region.wanted, hgd]
  rw [if_pos hw]
  unfold Oper.wp execOp
  simp [ho, resolve, invoke, Act.eval, Oper.upon, List.map_toArray, List.map_cons, List.map_nil] at hx hy hz ⊢
  rw [hx, hy, hz]
  refine h.mono ?_
  rintro e w' ⟨sa, sc, rfl, h1, h2⟩
  exact hK sa sc w' h1 h2
/-- What best so far lies as. -/
def BstV (n : Nat) (p : Int × List Int) (v : Value) (w : World) : Prop := (p = (-1, []) ∧ v = .slice none 0 0) ∨ (0 ≤ p.1 ∧ p.1 ≤ 4000 ∧ ∃ sa sc, v = .slice sa n sc ∧ Ints w sa n sc p.2)
theorem BstV.later {n : Nat} {p : Int × List Int} {v : Value} {w w' : World} (h : BstV n p v w) (hb : Below w.heap.size w w') : BstV n p v w' := by
  rcases h with h | ⟨h1, h2, sa, sc, h3, h4⟩
  · exact .inl h
  · exact .inr ⟨h1, h2, sa, sc, h3, h4.later hb⟩
def GInv (w1 : World) (n : Nat) (F : Nat → Int × List Int) (i best most : Value) (wr : World) : Prop :=
  Below w1.heap.size w1 wr ∧ ∃ k : Nat, k ≤ n + 1 ∧ i = .int .i64 ((k : Int) - 1) ∧ most = .int .i64 (F k).1 ∧ BstV n (F k) best wr ∧ (F k = (-1, []) → k = 0)
theorem gv_nn {ws : List (Nat → Int)} {it : Nat} (h : Wok (2 ^ it) ws) (but : Int) (d : Nat) (who : List Int) : 0 ≤ (gv ws it but d who).1 ∧ (gv ws it but d who).1 ≤ 1000 * ws.length := by
  obtain ⟨⟨t, _, _, t3⟩, _⟩ := gv_spec h but d who
  rw [t3]
  exact leaf_nn h _
theorem grown_block {w w' : World} {v : Value} {k : Nat} (hg : w.grownBy w' v.ownBlock) (hk : k < w.heap.size) (hne : some k ≠ v.ownBlock) : w'.heap[k]? = w.heap[k]? := hg.block k hk hne
set_option maxRecDepth 100000 in
set_option maxHeartbeats 8000000 in
theorem given_any (it : Nat) (hit : it ≤ 4) (but : Int) (hbut : -1 ≤ but ∧ but ≤ 4) (L : List Sl) (a : Option Addr) (n c : Nat) (hn1 : 1 ≤ n) (hn4 : n ≤ 4) (hk : Lok (2 ^ it) L) : ∀ (d : Nat) (who : List Int) (wa : Option Addr) (wc : Nat) (w : World), who.length + d = it → Lsts w a n c L → Ints w wa who.length wc who → (∀ x ∈ who, -1 ≤ x ∧ x < (n : Int)) →
    Calls Try.prog 16 #[bidV it a n c, .slice wa who.length wc, .int .i64 but] w (GivP n (gv (fs L) it but d who) w) := by
  intro d
  induction d with
  | zero =>
    intro who wa wc w hd h hw hr
    obtain rfl : who.length = it := by omega
    exact leaf_any who.length hit but L a n c who wa wc w h hn1 hn4 hk hw hr
  | succ d ih =>
    intro who wa wc w hd h hw hr
    unfold bidV
    have hfl : (fs L).length = n := by rw [h.1]; simp [fs]
    have h1 := h.2.1
    have h2 := h.2.2.1
    have h3 := hw.2.1
    have h4 := hw.2.2.1
    unfold maxLen at h2 h4
    have hA : Below w.heap.size w (w.alloc (.cells #[.int .i64 (it : Int), .slice a n c] 24)) := by go_grown
    have hBx : (w.alloc (.cells #[.int .i64 (it : Int), .slice a n c] 24)).heap[w.heap.size]? = some (.cells #[.int .i64 (it : Int), .slice a n c] 24 (0, 0)) := heap_alloc_new _ _
    have hsz1 : (w.alloc (.cells #[.int .i64 (it : Int), .slice a n c] 24)).heap.size = w.heap.size + 1 := by simp
    have HW : Hid (∀ W, Below w.heap.size w W → Ints W wa who.length wc who) := fun W hW => hw.later hW
    have HIH : Hid (∀ (x : Int) (W : World) (va : Option Addr) (vc : Nat), Below w.heap.size w W → -1 ≤ x → x < (n : Int) → Ints W va (who.length + 1) vc (who ++ [x]) → Calls Try.prog 16 #[.agg #[.int .i64 (it : Int), .slice a n c], .slice va (who.length + 1) vc, .int .i64 but] W (GivP n (gv (fs L) it but d (who ++ [x])) W)) := fun x W va vc hW hx0 hx1 hI => by
      have := ih (who ++ [x]) va vc W (by rw [List.length_append]; simp; omega) (h.later hW) (by rw [List.length_append]; exact hI) (fun y hy => by
        rcases List.mem_append.1 hy with e | e
        · exact hr y e
        · rw [List.mem_singleton] at e; subst e; exact ⟨hx0, hx1⟩)
      rw [List.length_append] at this
      exact this
    have HNN := hide (fun x => gv_nn (it := it) hk.wok but d (who ++ [x]))
    rw [hfl] at HNN
    have HF : Hid (∀ w' v, Below w.heap.size w w' → BstV n (gvF (gv (fs L) it but d) but who (n + 1)) v w' → gvF (gv (fs L) it but d) but who (n + 1) ≠ (-1, []) → GivP n (gv (fs L) it but (d + 1) who) w (.returned (.tuple #[v, .int .i64 (gvF (gv (fs L) it but d) but who (n + 1)).1])) w') := fun w' v q1 q2 q3 => by
      have e : gv (fs L) it but (d + 1) who = gvF (gv (fs L) it but d) but who (n + 1) := by rw [gv, hfl]
      rw [e]
      rcases q2 with ⟨q2, _⟩ | ⟨_, _, sa, sc, rfl, q4⟩
      · exact absurd q2 q3
      · exact ⟨sa, sc, rfl, q4, q1⟩
    have hwl : who.length < it := by omega
    have HLEN := hide hd
    clear h hw hr ih hd hfl hk
    have HSK := hide (fun (k : Nat) q => gvF_skip (G := gv (fs L) it but d) (but := but) (who := who) (k := k) q)
    have HNO := hide (fun (k : Nat) q => gvF_no (G := gv (fs L) it but d) (but := but) (who := who) (k := k) q)
    have HYE := hide (fun (k : Nat) q r => gvF_yes (G := gv (fs L) it but d) (but := but) (who := who) (k := k) q r)
    have HF0 : Hid (gvF (gv (fs L) it but d) but who 0 = (-1, [])) := rfl
    generalize GivP n (gv (fs L) it but (d + 1) who) w = PP at *
    generalize gvF (gv (fs L) it but d) but who = F at *
    generalize hG : (fun x : Int => gv (fs L) it but d (who ++ [x])) = G at *
    have hG2 : ∀ x : Int, gv (fs L) it but d (who ++ [x]) = G x := fun x => by rw [← hG]
    simp only [hG2] at HIH HNN HNO HYE
    clear hG hG2
    have hne0 : ((who.length : Int) == (it : Int)) = false := by simp; omega
    go_enter Try.func16, Try.ntmps16
    go_wp2
    generalize w.alloc (.cells #[.int .i64 (it : Int), .slice a n c] 24) = W1 at *
    have HX : Hid (∀ W, Below W1.heap.size W1 W → W.cell? ⟨w.heap.size, 0, none⟩ = some (.int .i64 (it : Int)) ∧ W.cell? ⟨w.heap.size, 1, none⟩ = some (.slice a n c) ∧ w.heap.size < W.heap.size) := fun W hW => ⟨(cell_in' ((hW.block w.heap.size (by omega)).trans hBx) 0).1, (cell_in' ((hW.block w.heap.size (by omega)).trans hBx) 1).1, by have := hW.size; omega⟩
    go_loopw [14, 12, 13, 15, 16] (fun i b m _ _ wr => GInv W1 n F i b m wr) (fun i _ _ _ _ _ => ((n : Int) - intOf i).toNat)
    case atStart => exact ⟨Below.refl _ _, 0, Nat.zero_le _, rfl, by rw [unhide HF0], .inl ⟨unhide HF0, rfl⟩, fun _ => rfl⟩
    case round =>
      obtain ⟨hbr, k, hkk, rfl, rfl, hV, hne⟩ := hrel
      have HV := hide hV
      have HNE := hide hne
      clear hV hne
      obtain ⟨x0, x1, xs⟩ := unhide HX wr hbr
      have hbw := hA.trans (hbr.mono hA.size)
      obtain ⟨x, hx⟩ : ∃ x, x = (k : Int) - 1 := ⟨_, rfl⟩
      rw [← hx]
      have hx1 : -1 ≤ x := by omega
      by_cases hlt : k < n + 1
      · have hxn : x < (n : Int) := by omega
        by_cases hskip : 1 ≤ k ∧ (k : Int) - 1 = but
        · have hS := unhide HSK k hskip
          have HGI : Hid (∀ v, BstV n (F k) v wr → GInv W1 n F (.int .i64 (x + 1)) v (.int .i64 (F k).1) wr) := fun v hv => ⟨hbr, k + 1, by omega, by rw [hx]; go_num, by rw [hS], by rw [hS]; exact hv, fun e => by rw [hS] at e; have := unhide HNE e; omega⟩
          have hq1 : ¬ x < 0 := by omega
          have hq2 : (x == but) = true := by simp; omega
          clear hS hskip hx
          generalize (F k).1 = fk at *
          go_wp2_with fail
          go_roundw
          case rel => exact unhide HGI _ (unhide HV)
          case measure => simp [intOf]; omega
        · have HB0 : Hid (0 ≤ x → (x == but) = false) := fun h0 => by
            have : x ≠ but := fun e => hskip ⟨by omega, by omega⟩
            simpa using this
          have hgn := unhide HNN x
          have hYE := hide (unhide HYE k hskip)
          have hNO := hide (unhide HNO k)
          rw [← hx] at hYE hNO
          -- the answer of this owner
          have HGY : Hid (btr (G x) (F k) → ∀ v W, Below W1.heap.size W1 W → (∃ sa sc, v = .slice sa n sc ∧ Ints W sa n sc (G x).2) → GInv W1 n F (.int .i64 (x + 1)) v (.int .i64 (G x).1) W) := fun hb v W hW hv => by
            have e := unhide hYE hb
            refine ⟨hW, k + 1, by omega, by rw [hx]; go_num, by rw [e], ?_, fun q => ?_⟩
            · rw [e]; exact .inr ⟨hgn.1, by omega, hv⟩
            · rw [e] at q
              have : (G x).1 = -1 := by rw [q]
              omega
          have HGN : Hid (¬ btr (G x) (F k) → ∀ v W, Below W1.heap.size W1 W → BstV n (F k) v W → GInv W1 n F (.int .i64 (x + 1)) v (.int .i64 (F k).1) W) := fun hb v W hW hv => by
            have e := unhide hNO hb
            have hk0 : F k ≠ (-1, []) := fun q => hb (.inl (by rw [q]; show (-1 : Int) < _; omega))
            exact ⟨hW, k + 1, by omega, by rw [hx]; go_num, by rw [e], by rw [e]; exact hv, fun q => by rw [e] at q; exact absurd q hk0⟩
          clear hskip hx hYE hNO HYE HNO HSK HNN HF HF0
          generalize F k = fk at *
          generalize hgx : G x = gx at *
          have HIX := fun W va vc q1 q2 => unhide HIH x W va vc q1 hx1 hxn q2
          rw [hgx] at HIX
          have HIX := hide HIX
          clear hgx HIH
          -- worlds
          have hbd : Below wr.heap.size wr wr.drew := (Below.refl _ _).drew
          have hbA0 : Below wr.heap.size wr (wr.alloc (.cells #[] 3)).drew := (show Below wr.heap.size wr (wr.alloc (.cells #[] 3)) by go_grown).drew
          have hbB0 : Below wr.heap.size wr ((wr.alloc (.cells #[.int .i64 x] 3)).alloc (.cells #[] 3)).drew := (show Below wr.heap.size wr ((wr.alloc (.cells #[.int .i64 x] 3)).alloc (.cells #[] 3)) by go_grown).drew
          have hbC0 : Below wr.heap.size wr ((wr.alloc (.cells #[] 3)).alloc (.cells #[.int .i64 x] 3)).drew := (show Below wr.heap.size wr ((wr.alloc (.cells #[] 3)).alloc (.cells #[.int .i64 x] 3)) by go_grown).drew
          have OA := hide (owns_drew (own_empty wr wr.heap.size (Nat.le_refl _)))
          have OB := hide (owns_drew (own_empty2 wr (.cells #[.int .i64 x] 3) wr.heap.size (Nat.le_refl _)))
          have OC := hide (owns_drew ((own_empty wr wr.heap.size (Nat.le_refl _)).alloc (.cells #[.int .i64 x] 3)))
          have IA := hide ((unhide HW wr hbw).later hbA0)
          have IB := hide ((unhide HW wr hbw).later hbB0)
          have IC := hide ((unhide HW wr hbw).later hbC0)
          have hsA := hbA0.size
          have hsB := hbB0.size
          have hsC := hbC0.size
          have hn1' : ¬ w.heap.size = wr.heap.size := by omega
          have hn2' : ¬ w.heap.size = wr.heap.size + 1 := by omega
          have cB : ((wr.alloc (.cells #[.int .i64 x] 3)).alloc (.cells #[] 3)).drew.cell? ⟨wr.heap.size, 0, none⟩ = some (.int .i64 x) := by simp
          have cC : ((wr.alloc (.cells #[] 3)).alloc (.cells #[.int .i64 x] 3)).drew.cell? ⟨wr.heap.size + 1, 0, none⟩ = some (.int .i64 x) := by simp
          have szB : ((wr.alloc (.cells #[.int .i64 x] 3)).alloc (.cells #[] 3)).drew.heap.size = wr.heap.size + 2 := by simp [World.drew]
          have szC : ((wr.alloc (.cells #[] 3)).alloc (.cells #[.int .i64 x] 3)).drew.heap.size = wr.heap.size + 2 := by simp [World.drew]
          have hneB : some wr.heap.size ≠ some (wr.heap.size + 1) := by simp
          have hneC : some (wr.heap.size + 1) ≠ some wr.heap.size := by simp
          have HREG : Hid (∀ w2 : World, Below wr.heap.size wr w2 → w2.cell? ⟨w.heap.size, 0, none⟩ = some (.int .i64 (it : Int)) ∧ w2.cell? ⟨w.heap.size, 1, none⟩ = some (.slice a n c) ∧ ¬ w.heap.size = w2.heap.size ∧ w.heap.size < w2.heap.size) := fun w2 hb => by
            obtain ⟨r1, r2, r3⟩ := unhide HX w2 (hbr.trans (hb.mono hbr.size))
            exact ⟨r1, r2, by omega, r3⟩
          have HCUT : Hid (∀ (w3 w4 : World) sa sc, Below wr.heap.size wr w3 → Ints w4 sa n sc gx.2 → Below w3.heap.size w3 w4 → ∃ sa' sc', Value.slice sa n sc = .slice sa' n sc' ∧ Ints w4 sa' n sc' gx.2 ∧ Below wr.heap.size wr w4) := fun w3 w4 sa sc q1 q2 q3 => ⟨sa, sc, rfl, q2, q1.trans (q3.mono q1.size)⟩
          have hq0 : 0 ≤ x ∨ x < 0 := by omega
          have HGUARD : Hid True := trivial
          rcases hq0 with hx0 | hx0
          · have hxb := unhide HB0 hx0
            have hx0' : ¬ x < 0 := by omega
            clear HB0
            go_upto_region 20 with fail
            go_cut [15, 16] from 88 to 99 (fun s m wc => (∃ sa sc, s = .slice sa n sc ∧ Ints wc sa n sc gx.2 ∧ Below wr.heap.size wr wc) ∧ m = .int .i64 gx.1)
            case first =>
              go_region_law (first
                | (refine step_append_ints _ rfl (.tmp 90) (.tmp 91) rfl wr.heap.size _ 0 [] (by first | (simp [Act.eval]; done) | (simp [Act.put]; done) | (simp [Act.eval]; rfl) | (simp [Act.eval, Act.put]; done)) (unhide OA) wa who.length wc who (by first | (simp [Act.eval]; done) | (simp [Act.put]; done) | (simp [Act.eval]; rfl) | (simp [Act.eval, Act.put]; done)) (unhide IA) (by omega) hsA ?_; intro v2 w2 ho2 hg2; have hb2 : Below wr.heap.size wr w2 := hbA0.grown hg2 hsA (fun q hq => ((unhide OA).lt q hq).1); obtain ⟨r0, r1, r2, r3⟩ := unhide HREG w2 hb2; have hb3 : Below wr.heap.size wr (w2.alloc (.cells #[.int .i64 x] 3)) := hb2.trans (Below.mono (show Below w2.heap.size w2 _ by go_grown) hb2.size); have ho3 : (w2.alloc (.cells #[.int .i64 x] 3)).ownsRow wr.heap.size 3 1 v2 who.length (intVals who) := (by simpa using ho2.alloc (.cells #[.int .i64 x] 3)); have HO3 := hide ho3; have HB3 := hide hb3; clear ho2 ho3 hg2)
                | (refine step_append_ints _ rfl (.tmp 90) (.tmp 91) rfl wr.heap.size _ 0 [] (by first | (simp [Act.eval]; done) | (simp [Act.put]; done) | (simp [Act.eval]; rfl) | (simp [Act.eval, Act.put]; done)) (unhide OB) wa who.length wc who (by first | (simp [Act.eval]; done) | (simp [Act.put]; done) | (simp [Act.eval]; rfl) | (simp [Act.eval, Act.put]; done)) (unhide IB) (by omega) hsB ?_; intro v2 w2 ho2 hg2; have hb2 : Below wr.heap.size wr w2 := hbB0.grown hg2 hsB (fun q hq => ((unhide OB).lt q hq).1); obtain ⟨r0, r1, r2, r3⟩ := unhide HREG w2 hb2; have ho3 : w2.ownsRow wr.heap.size 3 1 v2 who.length (intVals who) := (by simpa using ho2); have cx2 : w2.cell? ⟨wr.heap.size, 0, none⟩ = some (.int .i64 x) := hg2.cell cB hneB; have HO3 := hide ho3; have HB3 := hide hb2; clear ho2 ho3 hg2)
                | (refine step_append_ints _ rfl (.tmp 90) (.tmp 91) rfl wr.heap.size _ 0 [] (by first | (simp [Act.eval]; done) | (simp [Act.put]; done) | (simp [Act.eval]; rfl) | (simp [Act.eval, Act.put]; done)) (unhide OC) wa who.length wc who (by first | (simp [Act.eval]; done) | (simp [Act.put]; done) | (simp [Act.eval]; rfl) | (simp [Act.eval, Act.put]; done)) (unhide IC) (by omega) hsC ?_; intro v2 w2 ho2 hg2; have hb2 : Below wr.heap.size wr w2 := hbC0.grown hg2 hsC (fun q hq => ((unhide OC).lt q hq).1); obtain ⟨r0, r1, r2, r3⟩ := unhide HREG w2 hb2; have ho3 : w2.ownsRow wr.heap.size 3 1 v2 who.length (intVals who) := (by simpa using ho2); have cx2 : w2.cell? ⟨wr.heap.size + 1, 0, none⟩ = some (.int .i64 x) := hg2.cell cC hneC; have HO3 := hide ho3; have HB3 := hide hb2; clear ho2 ho3 hg2)
                | (refine step_append_int1 _ rfl (.tmp 92) (.tmp 94) rfl wr.heap.size v2 who.length who (by first | (simp [Act.eval]; done) | (simp [Act.put]; done) | (simp [Act.eval]; rfl) | (simp [Act.eval, Act.put]; done)) (unhide HO3) _ 1 x (by first | (simp [Act.eval]; done) | (simp [Act.put]; done) | (simp [Act.eval]; rfl) | (simp [Act.eval, Act.put]; done)) (by first | exact cx2 | simp) (by omega) (unhide HB3).size ?_; intro v3 w3 ho4 hg4 _; have hb4 : Below wr.heap.size wr w3 := (unhide HB3).grown hg4 (unhide HB3).size (fun q hq => ((unhide HO3).lt q hq).1); obtain ⟨t0, t1, t2, t3⟩ := unhide HREG w3 hb4; obtain ⟨va3, vc3, hv3, hI3, _⟩ := Ints.of_owns ho4 (by omega); subst hv3; have CX := hide (unhide HIX w3 va3 vc3 (hbw.trans (hb4.mono hbw.size)) hI3); clear ho4 hg4 hI3)
                | (refine step_given _ rfl (.tmp 89) (.tmp 95) (.tmp 96) rfl _ _ _ (by first | (simp [Act.eval]; done) | (simp [Act.put]; done) | (simp [Act.eval]; rfl) | (simp [Act.eval, Act.put]; done)) (by first | (simp [Act.eval]; done) | (simp [Act.put]; done) | (simp [Act.eval]; rfl) | (simp [Act.eval, Act.put]; done)) (by first | (simp [Act.eval]; done) | (simp [Act.put]; done) | (simp [Act.eval]; rfl) | (simp [Act.eval, Act.put]; done)) n gx (unhide CX) ?_; intro sa sc w4 hI4 hb5; have HC4 := hide (unhide HCUT w3 w4 sa sc hb4 hI4 hb5); clear hI4 hb5))
              all_goals
                go_wp2_with fail
                go_meet
                case rel => exact ⟨unhide HC4, rfl⟩
            case rest =>
              obtain ⟨⟨sa, sc, rfl, hI, hbc⟩, rfl⟩ := hcut
              have hbW := hbr.trans (hbc.mono hbr.size)
              have hsc1 := hI.2.1
              have hsc2 := hI.2.2.1
              unfold maxLen at hsc2
              have HVc := hide ((unhide HV).later hbc)
              have HIc := hide hI
              clear hI HV HIX HREG HCUT OA OB OC IA IB IC
              rcases Int.lt_trichotomy fk.1 gx.1 with hc | hc | hc
              · have HG := hide (unhide HGY (.inl hc) (.slice sa n sc) _ hbW ⟨sa, sc, rfl, unhide HIc⟩)
                generalize fk.1 = f1 at *
                generalize gx.1 = g1 at *
                go_wp2_with fail
                go_roundw
                case rel => exact unhide HG
                case measure => simp [intOf]; omega
              · rcases unhide HVc with ⟨q, _⟩ | ⟨q1, q2, sb, sd, q3, q4⟩
                · exfalso
                  rw [q] at hc
                  have : (-1 : Int) = gx.1 := hc
                  omega
                · have hV2 := unhide HVc
                  subst q3
                  have CBf := hide (before_any sa n sc gx.2 sb sd fk.2 _ (unhide HIc) q4)
                  cases hbf : bef gx.2 fk.2
                  · rw [hbf] at CBf
                    have hnb : ¬ btr gx fk := fun h => by
                      rcases h with h | ⟨_, h⟩
                      · omega
                      · rw [hbf] at h; cases h
                    have HG := hide (unhide HGN hnb)
                    have HV3 := hide hV2
                    have hce : (gx.1 == fk.1) = true := by simp; omega
                    have hcl : ¬ fk.1 < gx.1 := by omega
                    clear hc q4 hV2
                    generalize fk.1 = f1 at *
                    generalize gx.1 = g1 at *
                    go_wp2_with fail
                    refine (unhide CBf).mono ?_
                    rintro e w6 ⟨rfl, hb6⟩
                    go_wp2_with fail
                    go_roundw
                    case rel => exact unhide HG _ _ (hbW.trans (hb6.mono hbW.size)) ((unhide HV3).later hb6)
                    case measure => simp [intOf]; omega
                  · rw [hbf] at CBf
                    have HG := hide (unhide HGY (.inr ⟨hc.symm, hbf⟩) (.slice sa n sc))
                    have hce : (gx.1 == fk.1) = true := by simp; omega
                    have hcl : ¬ fk.1 < gx.1 := by omega
                    clear hc q4 hV2
                    generalize fk.1 = f1 at *
                    generalize gx.1 = g1 at *
                    go_wp2_with fail
                    refine (unhide CBf).mono ?_
                    rintro e w6 ⟨rfl, hb6⟩
                    go_wp2_with fail
                    go_roundw
                    case rel => exact unhide HG _ (hbW.trans (hb6.mono hbW.size)) ⟨sa, sc, rfl, (unhide HIc).later hb6⟩
                    case measure => simp [intOf]; omega
              · have hnb : ¬ btr gx fk := fun h => by
                  rcases h with h | ⟨h, _⟩
                  · omega
                  · omega
                have HG := hide (unhide HGN hnb _ _ hbW (unhide HVc))
                have hce : (gx.1 == fk.1) = false := by simp; omega
                have hcl : ¬ fk.1 < gx.1 := by omega
                generalize fk.1 = f1 at *
                generalize gx.1 = g1 at *
                go_wp2_with fail
                go_roundw
                case rel => exact unhide HG
                case measure => simp [intOf]; omega
          · clear HB0
            go_upto_region 20 with fail
            go_cut [15, 16] from 88 to 99 (fun s m wc => (∃ sa sc, s = .slice sa n sc ∧ Ints wc sa n sc gx.2 ∧ Below wr.heap.size wr wc) ∧ m = .int .i64 gx.1)
            case first =>
              go_region_law (first
                | (refine step_append_ints _ rfl (.tmp 90) (.tmp 91) rfl wr.heap.size _ 0 [] (by first | (simp [Act.eval]; done) | (simp [Act.put]; done) | (simp [Act.eval]; rfl) | (simp [Act.eval, Act.put]; done)) (unhide OA) wa who.length wc who (by first | (simp [Act.eval]; done) | (simp [Act.put]; done) | (simp [Act.eval]; rfl) | (simp [Act.eval, Act.put]; done)) (unhide IA) (by omega) hsA ?_; intro v2 w2 ho2 hg2; have hb2 : Below wr.heap.size wr w2 := hbA0.grown hg2 hsA (fun q hq => ((unhide OA).lt q hq).1); obtain ⟨r0, r1, r2, r3⟩ := unhide HREG w2 hb2; have hb3 : Below wr.heap.size wr (w2.alloc (.cells #[.int .i64 x] 3)) := hb2.trans (Below.mono (show Below w2.heap.size w2 _ by go_grown) hb2.size); have ho3 : (w2.alloc (.cells #[.int .i64 x] 3)).ownsRow wr.heap.size 3 1 v2 who.length (intVals who) := (by simpa using ho2.alloc (.cells #[.int .i64 x] 3)); have HO3 := hide ho3; have HB3 := hide hb3; clear ho2 ho3 hg2)
                | (refine step_append_ints _ rfl (.tmp 90) (.tmp 91) rfl wr.heap.size _ 0 [] (by first | (simp [Act.eval]; done) | (simp [Act.put]; done) | (simp [Act.eval]; rfl) | (simp [Act.eval, Act.put]; done)) (unhide OB) wa who.length wc who (by first | (simp [Act.eval]; done) | (simp [Act.put]; done) | (simp [Act.eval]; rfl) | (simp [Act.eval, Act.put]; done)) (unhide IB) (by omega) hsB ?_; intro v2 w2 ho2 hg2; have hb2 : Below wr.heap.size wr w2 := hbB0.grown hg2 hsB (fun q hq => ((unhide OB).lt q hq).1); obtain ⟨r0, r1, r2, r3⟩ := unhide HREG w2 hb2; have ho3 : w2.ownsRow wr.heap.size 3 1 v2 who.length (intVals who) := (by simpa using ho2); have cx2 : w2.cell? ⟨wr.heap.size, 0, none⟩ = some (.int .i64 x) := hg2.cell cB hneB; have HO3 := hide ho3; have HB3 := hide hb2; clear ho2 ho3 hg2)
                | (refine step_append_ints _ rfl (.tmp 90) (.tmp 91) rfl wr.heap.size _ 0 [] (by first | (simp [Act.eval]; done) | (simp [Act.put]; done) | (simp [Act.eval]; rfl) | (simp [Act.eval, Act.put]; done)) (unhide OC) wa who.length wc who (by first | (simp [Act.eval]; done) | (simp [Act.put]; done) | (simp [Act.eval]; rfl) | (simp [Act.eval, Act.put]; done)) (unhide IC) (by omega) hsC ?_; intro v2 w2 ho2 hg2; have hb2 : Below wr.heap.size wr w2 := hbC0.grown hg2 hsC (fun q hq => ((unhide OC).lt q hq).1); obtain ⟨r0, r1, r2, r3⟩ := unhide HREG w2 hb2; have ho3 : w2.ownsRow wr.heap.size 3 1 v2 who.length (intVals who) := (by simpa using ho2); have cx2 : w2.cell? ⟨wr.heap.size + 1, 0, none⟩ = some (.int .i64 x) := hg2.cell cC hneC; have HO3 := hide ho3; have HB3 := hide hb2; clear ho2 ho3 hg2)
                | (refine step_append_int1 _ rfl (.tmp 92) (.tmp 94) rfl wr.heap.size v2 who.length who (by first | (simp [Act.eval]; done) | (simp [Act.put]; done) | (simp [Act.eval]; rfl) | (simp [Act.eval, Act.put]; done)) (unhide HO3) _ 1 x (by first | (simp [Act.eval]; done) | (simp [Act.put]; done) | (simp [Act.eval]; rfl) | (simp [Act.eval, Act.put]; done)) (by first | exact cx2 | simp) (by omega) (unhide HB3).size ?_; intro v3 w3 ho4 hg4 _; have hb4 : Below wr.heap.size wr w3 := (unhide HB3).grown hg4 (unhide HB3).size (fun q hq => ((unhide HO3).lt q hq).1); obtain ⟨t0, t1, t2, t3⟩ := unhide HREG w3 hb4; obtain ⟨va3, vc3, hv3, hI3, _⟩ := Ints.of_owns ho4 (by omega); subst hv3; have CX := hide (unhide HIX w3 va3 vc3 (hbw.trans (hb4.mono hbw.size)) hI3); clear ho4 hg4 hI3)
                | (refine step_given _ rfl (.tmp 89) (.tmp 95) (.tmp 96) rfl _ _ _ (by first | (simp [Act.eval]; done) | (simp [Act.put]; done) | (simp [Act.eval]; rfl) | (simp [Act.eval, Act.put]; done)) (by first | (simp [Act.eval]; done) | (simp [Act.put]; done) | (simp [Act.eval]; rfl) | (simp [Act.eval, Act.put]; done)) (by first | (simp [Act.eval]; done) | (simp [Act.put]; done) | (simp [Act.eval]; rfl) | (simp [Act.eval, Act.put]; done)) n gx (unhide CX) ?_; intro sa sc w4 hI4 hb5; have HC4 := hide (unhide HCUT w3 w4 sa sc hb4 hI4 hb5); clear hI4 hb5))
              all_goals
                go_wp2_with fail
                go_meet
                case rel => exact ⟨unhide HC4, rfl⟩
            case rest =>
              obtain ⟨⟨sa, sc, rfl, hI, hbc⟩, rfl⟩ := hcut
              have hbW := hbr.trans (hbc.mono hbr.size)
              have hsc1 := hI.2.1
              have hsc2 := hI.2.2.1
              unfold maxLen at hsc2
              have HVc := hide ((unhide HV).later hbc)
              have HIc := hide hI
              clear hI HV HIX HREG HCUT OA OB OC IA IB IC
              rcases Int.lt_trichotomy fk.1 gx.1 with hc | hc | hc
              · have HG := hide (unhide HGY (.inl hc) (.slice sa n sc) _ hbW ⟨sa, sc, rfl, unhide HIc⟩)
                generalize fk.1 = f1 at *
                generalize gx.1 = g1 at *
                go_wp2_with fail
                go_roundw
                case rel => exact unhide HG
                case measure => simp [intOf]; omega
              · rcases unhide HVc with ⟨q, _⟩ | ⟨q1, q2, sb, sd, q3, q4⟩
                · exfalso
                  rw [q] at hc
                  have : (-1 : Int) = gx.1 := hc
                  omega
                · have hV2 := unhide HVc
                  subst q3
                  have CBf := hide (before_any sa n sc gx.2 sb sd fk.2 _ (unhide HIc) q4)
                  cases hbf : bef gx.2 fk.2
                  · rw [hbf] at CBf
                    have hnb : ¬ btr gx fk := fun h => by
                      rcases h with h | ⟨_, h⟩
                      · omega
                      · rw [hbf] at h; cases h
                    have HG := hide (unhide HGN hnb)
                    have HV3 := hide hV2
                    have hce : (gx.1 == fk.1) = true := by simp; omega
                    have hcl : ¬ fk.1 < gx.1 := by omega
                    clear hc q4 hV2
                    generalize fk.1 = f1 at *
                    generalize gx.1 = g1 at *
                    go_wp2_with fail
                    refine (unhide CBf).mono ?_
                    rintro e w6 ⟨rfl, hb6⟩
                    go_wp2_with fail
                    go_roundw
                    case rel => exact unhide HG _ _ (hbW.trans (hb6.mono hbW.size)) ((unhide HV3).later hb6)
                    case measure => simp [intOf]; omega
                  · rw [hbf] at CBf
                    have HG := hide (unhide HGY (.inr ⟨hc.symm, hbf⟩) (.slice sa n sc))
                    have hce : (gx.1 == fk.1) = true := by simp; omega
                    have hcl : ¬ fk.1 < gx.1 := by omega
                    clear hc q4 hV2
                    generalize fk.1 = f1 at *
                    generalize gx.1 = g1 at *
                    go_wp2_with fail
                    refine (unhide CBf).mono ?_
                    rintro e w6 ⟨rfl, hb6⟩
                    go_wp2_with fail
                    go_roundw
                    case rel => exact unhide HG _ (hbW.trans (hb6.mono hbW.size)) ⟨sa, sc, rfl, (unhide HIc).later hb6⟩
                    case measure => simp [intOf]; omega
              · have hnb : ¬ btr gx fk := fun h => by
                  rcases h with h | ⟨h, _⟩
                  · omega
                  · omega
                have HG := hide (unhide HGN hnb _ _ hbW (unhide HVc))
                have hce : (gx.1 == fk.1) = false := by simp; omega
                have hcl : ¬ fk.1 < gx.1 := by omega
                generalize fk.1 = f1 at *
                generalize gx.1 = g1 at *
                go_wp2_with fail
                go_roundw
                case rel => exact unhide HG
                case measure => simp [intOf]; omega
      · obtain rfl : k = n + 1 := by omega
        have hxn : x = (n : Int) := by omega
        have hne2 : F (n + 1) ≠ (-1, []) := fun e => by have := unhide HNE e; omega
        have HFX := hide (unhide HF wr _ hbw (unhide HV) hne2)
        clear hx HV HF
        subst hxn
        generalize (F (n + 1)).1 = fk at *
        go_wp2
        exact unhide HFX
end Go.Proofs.Ytaaikaeknealkaa
