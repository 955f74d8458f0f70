import Derived.Test.YtbcchbhchfdbiaaWV
namespace Go.Proofs.Ytbcchbhchfdbiaa
open Go.RowKit Go.Shelf
attribute [local go_sem] Oper.semAt_some
/-- Choices that are made, of the first i nodes. -/
def ChTo (L : List Nd) (q : List Int) : Prop := ∀ j, j < q.length → 0 ≤ nth q j ∧ (nth q j = 0 ∨ nth q j < (ndAt L j).k.ln)
theorem ChTo.next {L : List Nd} {q : List Int} {x : Int} (h : ChTo L q) (hx : 0 ≤ x ∧ (x = 0 ∨ x < (ndAt L q.length).k.ln)) : ChTo L (q ++ [x]) := by
  intro j hj
  rw [List.length_append] at hj
  by_cases e : j = q.length
  · subst e
    have : nth (q ++ [x]) q.length = x := by unfold nth; simp
    rw [this]; exact hx
  · have hj' : j < q.length := by simp at hj; omega
    have : nth (q ++ [x]) j = nth q j := by unfold nth; rw [List.getElem?_append_left hj']
    rw [this]; exact h j hj'
set_option maxRecDepth 100000 in
set_option maxHeartbeats 8000000 in
theorem choicesOf_any (P : Int) (a : Option Addr) (n c : Nat) (L : List Nd) (ra : Option Addr) (rn rc : Nat) (l : List Int) (w : World) (h : Nodes w a n c L) (hl : Ints w ra rn rc l) (hR : ∀ x ∈ l, InR x) (hrn : rn ≤ 256) (n40 : n ≤ 40) (k5 : ∀ i, i < n → (ndAt L i).k.ln ≤ 5) :
    Calls Try.prog 23 #[tV P a n c, .slice ra rn rc] w fun e w' => ∃ v q, e = .returned v ∧ w'.ownsRow w.heap.size 3 1 v n (intVals q) ∧ q.length = n ∧ ChOk L n q ∧ Below w.heap.size w w' := by
  have CA : Hid (∀ W, Below w.heap.size w W → ∀ k, k ≤ 1000 → Calls Try.prog 44 #[.slice ra rn rc, .int .i64 (k : Nat)] W fun e w' => e = .returned (.int .i64 (atV l k)) ∧ w' = W) := fun W hW k hk => at_val ra rn rc l k W (hl.later hW) hk hrn
  have CP : Hid (∀ W k N, 0 < N → N ≤ 3000 → Calls Try.prog 21 #[.int .i64 (atV l k), .int .i64 (N : Nat)] W fun e w' => e = .returned (.int .i64 (pkN (atV l k) N)) ∧ w' = W) := fun W k N h0 h1 => pick_val (atV l k) N (atV_in hR k) h0 h1 W
  obtain ⟨W, hW, hbW, hlt0, hbox⟩ := tbox (w := w) P a n c
  have HW := hide hW
  have HBW := hide hbW
  have HBX0 := hide hbox
  have hN := h.later hbW
  have HN := hide hN
  have hc1 := h.2.1
  have hc2 := h.2.2.1
  unfold maxLen at hc2
  have HK5 := hide k5
  unfold tV
  clear h hl hR hW hbW hbox hN k5
  go_enter Try.func23, Try.ntmps23
  go_wp2_with fail
  rw [unhide HW]
  go_loopw [5, 6, 7] (fun v i _ wr => Hid (Below W.heap.size W wr) ∧ ∃ (k : Nat) (q : List Int), k ≤ n ∧ i = .int .i64 k ∧ Hid (wr.ownsRow W.heap.size 3 1 v k (intVals q)) ∧ Hid (ChTo L q)) (fun _ i _ _ => n - (intOf i).toNat)
  case atStart => exact ⟨Below.refl _ _, 0, [], Nat.zero_le _, rfl, World.ownsRow_nil _ _ _ _, fun j hj => by simp at hj⟩
  case round =>
    obtain ⟨HBr, i, q, hi, rfl, HO, HC⟩ := hrel
    obtain ⟨z0, z1⟩ := unhide HBX0 wr (unhide HBr)
    have HBB : Hid (∀ d, Below w.heap.size w (wr.drewN d)) := fun d => ((unhide HBW).trans ((unhide HBr).mono (unhide HBW).size)).trans ((below_drewN _ wr d).mono (by have := (unhide HBW).size; have := (unhide HBr).size; omega))
    have hql : q.length = i := by have := (unhide HO).1; rw [intVals_len] at this; omega
    by_cases hlt : i < n
    · obtain ⟨b, off, ea, hb, hcell⟩ := (unhide HN).cellAt (by omega)
      obtain ⟨-, c1, -⟩ := hcell wr (unhide HBr) i hlt
      have hM := ((unhide HN).mem hlt).1
      have hkl := hM.2.1
      have hkm := hM.2.2.1
      unfold maxLen at hkm
      have hk5 := unhide HK5 i hlt
      have HCN : Hid (∀ x : Int, 0 ≤ x ∧ (x = 0 ∨ x < (ndAt L i).k.ln) → ChTo L (q ++ [x])) := fun x hx => (unhide HC).next (by rw [hql]; exact hx)
      have C1 : Hid (∀ d, Calls Try.prog 44 #[.slice ra rn rc, .int .i64 (i : Int)] (wr.drewN d) fun e w' => e = .returned (.int .i64 (atV l i)) ∧ w' = wr.drewN d) := fun d => unhide CA _ (unhide HBB d) i (by omega)
      have C2 : Hid (∀ d N, 0 < N → N ≤ 3000 → Calls Try.prog 21 #[.int .i64 (atV l i), .int .i64 ((N : Nat) : Int)] (wr.drewN d) fun e w' => e = .returned (.int .i64 (pkN (atV l i) N)) ∧ w' = wr.drewN d) := fun d N h1 h2 => unhide CP (wr.drewN d) i N h1 h2
      have HPK := hide (fun N (h : 0 < N) => pkN_lt (atV l i) (n := N) h)
      have HQL := hide hql
      clear hM hcell HC hql
      subst ea
      generalize ndAt L i = d at *
      obtain ⟨pl, ⟨ka, kn, kc, kids⟩, pp⟩ := d
      simp only at c1 hkl hkm hk5 HCN
      by_cases hk0 : kn = 0
      · subst hk0
        have HCN2 := hide (unhide HCN 0 (by omega))
        have HF : Hid (∀ (v2 : Value) (w3 : World), w3.ownsRow W.heap.size 3 1 v2 (i + 1) (intVals q ++ [.int .i64 0]) → True) := fun _ _ _ => trivial
        clear HF C1 C2
        go_wp2_with (at_builtin; refine wpList_append_int _ rfl _ _ rfl W.heap.size _ _ _ rfl ((unhide HO).alloc _) wr.heap.size 0 rfl (by simp) (by omega) (by have := (unhide HBr).size; simp; omega) ?_; intro v2 w3 ho2 hg2)
        go_roundw
        case rel =>
          have hb5 := (((Below.refl W.heap.size wr).alloc (unhide HBr).size (.cells #[.int .i64 0] 3)).grown hg2 (by have := (unhide HBr).size; simp; omega) (fun q hq => ((unhide HO).lt q hq).1))
          refine ⟨(unhide HBr).trans hb5, i + 1, q ++ [0], by omega, by go_num, ?_, HCN2⟩
          show _root_.Go.World.ownsRow _ _ _ _ _ _ _
          rw [intVals_append]
          exact ho2
        case measure => simp [intOf]; omega
      · have hk1 : 0 < kn := by omega
        have hpk := unhide HPK kn hk1
        have C3 := hide (fun d => unhide C2 d kn hk1 (by omega))
        clear C2 HPK
        have hgt : decide ((0 : Int) < (kn : Int)) = true := by simp; omega
        generalize pkN (atV l i) kn = px at *
        generalize atV l i = av at *
        have HCN2 := hide (unhide HCN (px : Int) (by omega))
        go_wp2_with fail
        go_quiet ((first | (go_at_call 44; refine Calls.quiet_of_same (unhide C1 _)) | (go_at_call 21; refine Calls.quiet_of_same (unhide C3 _))))
        have hbz := below_drewN wr.heap.size wr nq
        have HBz := hide ((unhide HBr).trans (hbz.mono (unhide HBr).size))
        have HOz := hide (owns_later (unhide HO) hbz)
        clear HO HBr C1 C3 HBB z0 z1 c1 hbz
        generalize wr.drewN nq = wz at *
        go_wp2_with (at_builtin; refine wpList_append_int _ rfl _ _ rfl W.heap.size _ _ _ rfl ((unhide HOz).alloc _) wz.heap.size (px : Int) rfl (by simp) (by omega) (by have := (unhide HBz).size; simp; omega) ?_; intro v2 w3 ho2 hg2)
        go_roundw
        case rel =>
          have hb5 := (((Below.refl W.heap.size wz).alloc (unhide HBz).size (.cells #[.int .i64 (px : Int)] 3)).grown hg2 (by have := (unhide HBz).size; simp; omega) (fun q hq => ((unhide HOz).lt q hq).1))
          refine ⟨(unhide HBz).trans hb5, i + 1, q ++ [(px : Int)], by omega, by go_num, ?_, HCN2⟩
          show _root_.Go.World.ownsRow _ _ _ _ _ _ _
          rw [intVals_append]
          exact ho2
        case measure => simp [intOf]; omega
    · obtain rfl : n = i := by omega
      have HF : Hid (∀ v, v = u5 → ∃ v q, Ending.returned u5 = .returned v ∧ wr.ownsRow w.heap.size 3 1 v n (intVals q) ∧ q.length = n ∧ ChOk L n q ∧ Below w.heap.size w wr) := fun v _ => ⟨u5, q, rfl, (unhide HO).mono (by have := (unhide HBW).size; omega), hql, fun j hj => unhide HC j (by omega), (unhide HBW).trans ((unhide HBr).mono (unhide HBW).size)⟩
      go_wp2
      go_ret
      exact unhide HF _ rfl
end Go.Proofs.Ytbcchbhchfdbiaa
