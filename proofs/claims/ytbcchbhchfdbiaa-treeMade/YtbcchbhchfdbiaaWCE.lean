import Derived.Test.YtbcchbhchfdbiaaWG9
import Derived.Test.YtbcchbhchfdbiaaWGA
namespace Go.Proofs.Ytbcchbhchfdbiaa
open Go.RowKit Go.Shelf
attribute [local go_sem] Oper.semAt_some
theorem force_shape {w w' : World} {P : Int} {n : Nat} {L : List Nd} {who : Int} {e : Ending} (h : ForceP w P n L who e w') : Below w.heap.size w w' ∧ ∃ fv fe : Int, e = .returned (.tuple #[.int .i64 fv, .int .i64 fe]) ∧
    ((tmE P n L ≠ 0 ∧ fe = tmE P n L ∧ fv = 0) ∨ (tmE P n L = 0 ∧ (who < 0 ∨ P ≤ who) ∧ fe = 8 ∧ fv = 0) ∨ (tmE P n L = 0 ∧ fe = 0 ∧ ∃ k : Nat, who = k ∧ (k : Int) < P ∧ ∃ ch ge, Done L n 0 (CHF L k) (kd L) ch ge ∧ fv = nth (ge 0).ints k)) := by
  obtain ⟨hb, h1, h2⟩ := h
  refine ⟨hb, ?_⟩
  by_cases hm : tmE P n L = 0
  · by_cases hw : who < 0 ∨ P ≤ who
    · exact ⟨0, 8, (h2 hm).1 hw, .inr (.inl ⟨hm, hw, rfl, rfl⟩)⟩
    · obtain ⟨k, hk⟩ : ∃ k : Nat, who = k := ⟨who.toNat, by omega⟩
      obtain ⟨ch, ge, hD, he⟩ := (h2 hm).2 k hk (by omega)
      exact ⟨_, _, he, .inr (.inr ⟨hm, rfl, k, hk, by omega, ch, ge, hD, rfl⟩)⟩
  · exact ⟨_, _, h1 hm, .inl ⟨hm, rfl, rfl⟩⟩
set_option maxRecDepth 100000 in
set_option maxHeartbeats 4000000 in
/-- treeForce says yes, if both tables are what NormP says. -/
theorem treeForce_of (P : Int) (a : Option Addr) (n c : Nat) (L : List Nd) (who : Int) (w : World) (h : Nodes w a n c L) (N0 : ∀ W, Nodes W a n c L → Calls Try.prog 40 #[tV P a n c] W (NormP W P n L)) (N1 : ∀ W, Nodes W a n c L → Calls Try.prog 41 #[tV P a n c] W (NormP W P n L)) :
    Calls Try.prog 20 #[tV P a n c, .int .i64 who, .int .i64 (tmE P n L)] w fun e w' => e = .returned (.bool true) ∧ Below w.heap.size w w' := by
  obtain ⟨W, hW, hbW, hlt0, hbox⟩ := tbox (w := w) P a n c
  have HW := hide hW
  have HBX := hide hbox
  have HBT := hide (fun (wr : World) (hb : Below W.heap.size W wr) => Below.trans hbW (hb.mono hbW.size))
  have w0 := (hbox W (Below.refl _ _)).1
  have w1 := (hbox W (Below.refl _ _)).2
  have hN := h.later hbW
  have HN := hide hN
  have CF := hide (force_any P a n c L who W hN)
  have C0 := hide N0
  have C1 := hide N1
  have HGT : Hid (tmE P n L = 0 → ∃ p : Nat, P = p ∧ GT p n L (kd L)) := fun hm => gt_of h hm
  have hc1 := h.2.1
  have hc2 := h.2.2.1
  unfold maxLen at hc2
  clear h hW hbW hbox hN hlt0 N0 N1
  unfold tV at CF C0 C1 ⊢
  go_enter Try.func20, Try.ntmps20
  go_wp2_with fail
  rw [unhide HW]
  go_wp2_with fail
  refine (unhide CF).mono ?_
  intro e w2 hF
  obtain ⟨hb2, fv, fe, rfl, hcase⟩ := force_shape hF
  have HF := hide hcase
  obtain ⟨x0, x1⟩ := unhide HBX w2 hb2
  have HB2 := hide hb2
  clear hF hcase w0 w1 CF hb2
  go_wp2_with fail
  refine (unhide C0 w2 ((unhide HN).later (unhide HB2))).mono ?_
  rintro e w3 ⟨hb3, Aa, am, ac, AL, Ba, bm, bc, BL, rfl, hLA, hLB, hlA, hlB⟩
  have hbA : Below w3.heap.size w3 (w3.alloc (.cells #[.slice Aa am ac, .slice Ba bm bc] 71)) := by go_grown
  have hB3 := (unhide HB2).trans (hb3.mono (unhide HB2).size)
  have HB4 := hide (hB3.trans (hbA.mono hB3.size))
  have HLA := hide (hLA.later hbA)
  have HLB := hide (hLB.later hbA)
  have HlA := hide hlA
  have HlB := hide hlB
  have HG4 : Hid ((w3.alloc (.cells #[.slice Aa am ac, .slice Ba bm bc] 71)).heap[w3.heap.size]? = some (.cells #[.slice Aa am ac, .slice Ba bm bc] 71 (0, 0))) := World.alloc_heap_new _ _
  obtain ⟨y0, y1⟩ := unhide HBX _ (unhide HB4)
  clear hb3 hLA hLB hlA hlB hbA hB3 x0 x1
  go_wp2_with fail
  generalize w3.alloc (.cells #[.slice Aa am ac, .slice Ba bm bc] 71) = w4 at *
  refine (unhide C1 w4 ((unhide HN).later (unhide HB4))).mono ?_
  rintro e w5 ⟨hb5, Ca, cm, cc, CL, Da, dm, dc, DL, rfl, hLC, hLD, hlC, hlD⟩
  have hbB : Below w5.heap.size w5 (w5.alloc (.cells #[.slice Ca cm cc, .slice Da dm dc] 71)) := by go_grown
  have hb45 : Below w4.heap.size w4 (w5.alloc (.cells #[.slice Ca cm cc, .slice Da dm dc] 71)) := hb5.trans (hbB.mono hb5.size)
  have HB6 := hide ((unhide HB4).trans (hb45.mono (unhide HB4).size))
  have hLA6 := (unhide HLA).later hb45
  have hLB6 := (unhide HLB).later hb45
  have hLC6 := hLC.later hbB
  have hLD6 := hLD.later hbB
  have e1 : am = cm := by rw [hLA6.1, hLC6.1, ← lists_len, ← lists_len, unhide HlA, hlC]
  have e2 : bm = dm := by rw [hLB6.1, hLD6.1, ← lists_len, ← lists_len, unhide HlB, hlD]
  subst e1 e2
  have hG4 := (hb45.block w3.heap.size (blk_lt (unhide HG4))).trans (unhide HG4)
  have hG6 : (w5.alloc (.cells #[.slice Ca am cc, .slice Da bm dc] 71)).heap[w5.heap.size]? = some (.cells #[.slice Ca am cc, .slice Da bm dc] 71 (0, 0)) := World.alloc_heap_new _ _
  have HG4' := hide hG4
  have HG6 := hide hG6
  have C2 := hide (fun (X : World) (hX : Below (w5.alloc (.cells #[.slice Ca am cc, .slice Da bm dc] 71)).heap.size (w5.alloc (.cells #[.slice Ca am cc, .slice Da bm dc] 71)) X) => sameLists_any am Aa Ca ac cc AL CL X (hLA6.later hX) (hLC6.later hX) ((unhide HlA).trans hlC.symm))
  have C3 := hide (fun (X : World) (hX : Below (w5.alloc (.cells #[.slice Ca am cc, .slice Da bm dc] 71)).heap.size (w5.alloc (.cells #[.slice Ca am cc, .slice Da bm dc] 71)) X) => sameLists_any bm Ba Da bc dc BL DL X (hLB6.later hX) (hLD6.later hX) ((unhide HlB).trans hlD.symm))
  have g0 := cell_in' hG4 0
  have g1 := cell_in' hG4 1
  have g2 := cell_in' hG6 0
  have g3 := cell_in' hG6 1
  simp at g0 g1 g2 g3
  clear hb5 hLC hLD hlC hlD hbB hb45 hLA6 hLB6 hLC6 hLD6 hG4 hG6 HLA HLB HlA HlB y0 y1 C1 HG4
  go_wp2_with fail
  generalize w5.alloc (.cells #[.slice Ca am cc, .slice Da bm dc] 71) = w6 at *
  refine (unhide C2 w6 (Below.refl _ _)).mono ?_
  rintro e w7 ⟨rfl, hb7⟩
  have q1 := cell_in' ((hb7.block _ (blk_lt (unhide HG4'))).trans (unhide HG4')) 1
  have q3 := cell_in' ((hb7.block _ (blk_lt (unhide HG6))).trans (unhide HG6)) 1
  simp at q1 q3
  have HB7 := hide hb7
  clear hb7 g0 g1 g2 g3
  go_wp2_with fail
  refine (unhide C3 w7 (unhide HB7)).mono ?_
  rintro e w8 ⟨rfl, hb8⟩
  have hb68 := (unhide HB7).trans (hb8.mono (unhide HB7).size)
  have HB8 := hide ((unhide HB6).trans (hb68.mono (unhide HB6).size))
  obtain ⟨z0, z1⟩ := unhide HBX w8 (unhide HB8)
  clear hb8 hb68 q1 q3
  rcases unhide HF with ⟨hm, he, hv⟩ | ⟨hm, hw, he, hv⟩ | ⟨hm, he, k, hk, hkP, ch, ge, hD, hv⟩
  · subst he hv
    have hmd : (tmE P n L == 0) = false := by simpa using hm
    have hmd' : (tmE P n L != 0) = true := by simpa using hm
    clear hm HF
    go_wp2_with fail
    go_ret
    exact ⟨rfl, unhide HBT _ (unhide HB8)⟩
  · subst he hv
    rw [hm]
    clear HF
    by_cases hw1 : who < 0
    · have d1 : decide (who < 0) = true := by simpa using hw1
      clear hw
      go_wp2_with fail
      go_ret
      exact ⟨rfl, unhide HBT _ (unhide HB8)⟩
    · have d1 : decide (who < 0) = false := by simpa using hw1
      have d2 : decide (P ≤ who) = true := by simp; omega
      clear hw
      go_wp2_with fail
      go_ret
      exact ⟨rfl, unhide HBT _ (unhide HB8)⟩
  · obtain ⟨p, hp, hT⟩ := unhide HGT hm
    subst hp he hk
    rw [hm]
    have CR := hide (forceR_any p a n c L k ch ge hT hD (by omega) 0 hT.n1 w8 ((unhide HN).later (unhide HB8)))
    unfold tV at CR
    rw [← hv, show ((0 : Nat) : Int) = 0 from rfl] at CR
    have d1 : decide ((k : Int) < 0) = false := by simp
    have d2 : decide ((p : Int) ≤ (k : Int)) = false := by simp; omega
    clear HF hv hT hD
    go_wp2_with fail
    refine (unhide CR).mono ?_
    rintro e w9 ⟨rfl, hb9⟩
    have HB9 := hide ((unhide HB8).trans (hb9.mono (unhide HB8).size))
    clear hb9
    go_wp2_with fail
    go_ret
    exact ⟨rfl, unhide HBT _ (unhide HB9)⟩
end Go.Proofs.Ytbcchbhchfdbiaa
