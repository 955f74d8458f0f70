import Derived.Test.YtbcchbhchfdbiaaWG8
namespace Go.Proofs.Ytbcchbhchfdbiaa
open Go.RowKit Go.Shelf
attribute [local go_sem] Oper.semAt_some
theorem own_slice {w : World} {base k : Nat} {v : Value} {xs : List Value} (h : w.ownsRow base 25 1 v k xs) (hk : 0 < k) : ∃ g cap, v = .slice (some ⟨g, 0, none⟩) k cap := by
  rcases h.2 with ⟨_, e⟩ | ⟨g, cap, cur, e, _⟩
  · omega
  · exact ⟨g, cap, e⟩
/-- A row of slices that is being made. -/
def RowL (lo : Nat) (wr : World) (v : Value) (k : Nat) (ML : List Sl) : Prop :=
  wr.ownsRow lo 25 1 v k (slVals ML) ∧ ∀ s ∈ ML, Ints wr s.la s.ln s.lc s.ints ∧ T3 wr s.la s.ln
theorem RowL.later {lo : Nat} {w w' : World} {v : Value} {k : Nat} {ML : List Sl} (h : RowL lo w v k ML) (hb : Below w.heap.size w w') : RowL lo w' v k ML :=
  ⟨owns_later h.1 hb, fun s hs => ⟨(h.2 s hs).1.later hb, (h.2 s hs).2.later hb⟩⟩
theorem RowL.next {lo : Nat} {w w' : World} {v v' : Value} {k : Nat} {ML : List Sl} {s : Sl} (h : RowL lo w v k ML) (hI : Ints w s.la s.ln s.lc s.ints) (hT : T3 w s.la s.ln)
    (ho : w'.ownsRow lo 25 1 v' (k + 1) (slVals (ML ++ [s]))) (hg : w.grownBy w' v.ownBlock) : RowL lo w' v' (k + 1) (ML ++ [s]) := by
  refine ⟨ho, fun x hx => ?_⟩
  rcases List.mem_append.1 hx with h' | h'
  · have a := h.2 x h'
    have := a.2.grown a.1 h.1 hg
    exact ⟨this.2, this.1⟩
  · rw [List.mem_singleton] at h'
    subst h'
    have := hT.grown hI h.1 hg
    exact ⟨this.2, this.1⟩
theorem RowL.lsts {lo : Nat} {w : World} {v : Value} {k : Nat} {ML : List Sl} (h : RowL lo w v k ML) : ∃ a c, v = .slice a k c ∧ Lsts w a k c ML := Lsts.of_owns h.1 (fun s hs => (h.2 s hs).1)
/-- A copy, with one place set anew. -/
theorem way_d {wr w5 : World} {v2 : Value} {n x : Nat} {qk : List Int} (ho : w5.ownsRow wr.heap.size 3 1 v2 n (intVals qk)) (hb5 : Below wr.heap.size wr w5) (n1 : 1 ≤ n) (hx : x < n) (hql : qk.length = n) (t : Int) :
    ∃ g cap y, v2 = .slice (some ⟨g, 0, none⟩) n cap ∧ n ≤ cap ∧ cap ≤ 9223372036854775807 ∧ g < w5.heap.size ∧ w5.cell? ⟨g, x, none⟩ = some (.int .i64 y) ∧ w5.frozen? ⟨g, x, none⟩ = false ∧ Below wr.heap.size wr (w5.setCell ⟨g, x, none⟩ (.int .i64 t)) ∧ Ints (w5.setCell ⟨g, x, none⟩ (.int .i64 t)) (some ⟨g, 0, none⟩) n cap (qk.set x t) ∧ T3 (w5.setCell ⟨g, x, none⟩ (.int .i64 t)) (some ⟨g, 0, none⟩) n := by
  obtain ⟨g, cap, rfl, h1, h2, h3, h4, hr, ht⟩ := owns_row ho n1
  obtain ⟨r1, r2, r3, -⟩ := hr.at hx
  have h2' := h2
  unfold maxLen at h2'
  have hrs := hr.set (f' := nth (qk.set x t)) (x := t) hx (fun e he hne => by rw [nth_setI (by omega), if_neg hne]) (by rw [nth_setI (by omega), if_pos rfl])
  exact ⟨g, cap, _, rfl, h1, by omega, r3, r1, r2, hb5.setCell (p := ⟨g, x, none⟩) h3 _, hrs.ints (by rw [List.length_set]; exact hql.symm) h1 h2 (fun e he => rfl), T3.set ht⟩
/-- A list more. -/
theorem way_next {wA wr w6 w8 : World} {mv v3 : Value} {k : Nat} {ML : List Sl} {S : Sl} {C : Obj} (h : RowL wA.heap.size wr mv k ML) (hA : Below wA.heap.size wA wr) (h6 : Below wr.heap.size wr w6) (hI : Ints w6 S.la S.ln S.lc S.ints) (hT : T3 w6 S.la S.ln)
    (ho3 : w8.ownsRow wA.heap.size 25 1 v3 (k + 1) (slVals (ML ++ [S]))) (hg3 : (w6.alloc C).grownBy w8 mv.ownBlock) : RowL wA.heap.size w8 v3 (k + 1) (ML ++ [S]) ∧ Below wA.heap.size wA w8 := by
  have hbC : Below w6.heap.size w6 (w6.alloc C) := by go_grown
  have h7 := h6.trans (hbC.mono h6.size)
  have hr := h.later h7
  refine ⟨hr.next (hI.later hbC) (hT.later hbC) ho3 hg3, ?_⟩
  have hA7 := hA.trans (h7.mono hA.size)
  exact hA7.trans ((Below.refl wA.heap.size _).grown hg3 hA7.size (fun q hq => (hr.1.lt q hq).1))
theorem take_snoc {U : List Nat} {i x : Nat} (h : U[i]? = some x) : U.take (i + 1) = U.take i ++ [x] := by rw [List.take_add_one, h]; rfl
theorem takeL_snoc {l : List (List Int)} {i : Nat} {x : List Int} (h : l[i]? = some x) : l.take (i + 1) = l.take i ++ [x] := by rw [List.take_add_one, h]; rfl
theorem sets_snoc (q : List Int) (x j : Nat) : setsL q x (j + 1) = setsL q x j ++ [q.set x (j : Int)] := by unfold setsL; rw [List.range_succ, List.map_append]; rfl
theorem lists_len (l : List Sl) : (lists l).length = l.length := by simp [lists]
theorem lists_at {l : List Sl} {k : Nat} (h : k < l.length) : (lists l)[k]? = some (slAt l k).ints := by
  unfold lists slAt; rw [List.getElem?_map, List.getElem?_eq_getElem h]; rfl
theorem lists_app (a b : List Sl) : lists (a ++ b) = lists a ++ lists b := by simp [lists]
set_option maxRecDepth 100000 in
set_option maxHeartbeats 8000000 in
theorem waysAt_any (P : Nat) (a : Option Addr) (n c : Nat) (L : List Nd) (qa : Option Addr) (qc : Nat) (q : List Int) (who : Nat) (ua : Option Addr) (un uc : Nat) (U : List Nat) (hT : GT P n L (kd L)) (w : World) (h : Nodes w a n c L) (hq : Ints w qa n qc q) (hu : Ints w ua un uc (upI U)) (hU : ∀ x ∈ U, x < n) (hun : un ≤ 40) (hB : prW L who U ≤ 300) :
    Calls Try.prog 37 #[tV P a n c, .slice qa n qc, .int .i64 (who : Int), .slice ua un uc] w fun e w' => ∃ oa m oc LS, e = .returned (.slice oa m oc) ∧ Lsts w' oa m oc LS ∧ lists LS = wyL L who q U ∧ Below w.heap.size w w' := by
  have n40 := hT.n40
  have g1 := h.2.1
  have g2 := h.2.2.1
  unfold maxLen at g2
  have g3 := hu.2.1
  have g4 := hu.2.2.1
  unfold maxLen at g4
  have hUL : un = U.length := by have := hu.1; rw [upI_len] at this; exact this
  obtain ⟨W, hW, hbW, hlt0, hbox⟩ := tbox (w := w) P a n c
  have hs1 : W.heap.size = w.heap.size + 1 := by rw [← hW]; simp
  have hbA : Below W.heap.size W (W.alloc (.cells #[.slice qa n qc] 25)) := by go_grown
  have hL0 : Lsts (W.alloc (.cells #[.slice qa n qc] 25)) (some ⟨w.heap.size + 1, 0, none⟩) 1 1 [⟨qa, n, qc, q⟩] := by
    refine lsts_one (s := ⟨qa, n, qc, q⟩) ?_ ((hq.later hbW).later hbA)
    rw [← hs1]; simp [World.cell?_alloc_at]
  have HBW := hide hbW
  have HBX := hide hbox
  have HN := hide (h.later hbW)
  have HT := hide hT
  have HB0 := hide hbA
  have HL0 := hide hL0
  have HU := hide hU
  have HBD : Hid (∀ i, (wyL L who q (U.take i)).length ≤ 300) := fun i => Nat.le_trans (wyL_take U i) hB
  have HUI := hide (hu.later hbW)
  have HQL : Hid (q.length = n) := hq.1.symm
  have HUN := hide hUL
  obtain ⟨b, off, ea, hb, hcell⟩ := (h.later hbW).cellAt (by have := hT.n1; omega)
  subst ea
  have HC := hide hcell
  unfold tV
  clear h hq hu hU hbW hbox hT hB hbA hL0 hcell hs1 hUL
  subst hW
  go_enter Try.func37, Try.ntmps37
  go_wp2_with fail
  generalize w.alloc (.cells #[.int .i64 (P : Int), .slice (some ⟨b, off, none⟩) n c] 24) = W at *
  go_loopw [9, 10, 11, 12, 13, 14, 15] (fun ov iv _ _ _ _ _ wr => Hid (Below W.heap.size W wr) ∧ ∃ (i : Nat) (oa : Option Addr) (m oc : Nat) (LS : List Sl), i ≤ un ∧ iv = .int .i64 (i : Int) ∧ ov = .slice oa m oc ∧ Hid (Lsts wr oa m oc LS) ∧ Hid (lists LS = wyL L who q (U.take i))) (fun _ iv _ _ _ _ _ _ => un - (intOf iv).toNat)
  case atStart => exact ⟨HB0, 0, _, _, _, _, Nat.zero_le _, rfl, rfl, HL0, rfl⟩
  case round =>
    clear HB0 HL0
    obtain ⟨HBr, i, oa, m, oc, LS, hi, rfl, rfl, HL, HW⟩ := hrel
    obtain ⟨z0, z1⟩ := unhide HBX wr (unhide HBr)
    by_cases hlt : i < un
    · obtain ⟨x, hx⟩ : ∃ x, U[i]? = some x := ⟨_, List.getElem?_eq_getElem (by have := unhide HUN; omega)⟩
      have hxn := unhide HU x (List.mem_of_getElem? hx)
      obtain ⟨lb, lo, ela, hlb, hlc⟩ := ((unhide HUI).later (unhide HBr)).nth (by omega)
      have t1 := hlc i hlt
      rw [upI_at hx] at t1
      obtain ⟨c0, c1, c2⟩ := unhide HC wr (unhide HBr) x hxn
      have hM := (((unhide HN).later (unhide HBr)).mem hxn).1
      have hkl := hM.2.1
      have hkm := hM.2.2.1
      unfold maxLen at hkm
      have k5 := (unhide HT).k5 x hxn
      have HX := hide hx
      subst ela
      clear hM hlc hx
      generalize hd : ndAt L x = d at *
      have HDD := hide hd
      clear hd
      obtain ⟨pl, ⟨ka, kn, kc, kids⟩, ⟨pa, pn, pc, pay⟩⟩ := d
      simp only at c0 c1 c2 hkl hkm k5
      have hbZ : Below wr.heap.size wr (wr.alloc (.cells #[.int .i64 0, .slice none 0 0, .slice none 0 0] 51)).drew := (by go_grown : Below wr.heap.size wr (wr.alloc (.cells #[.int .i64 0, .slice none 0 0, .slice none 0 0] 51))).drew
      have hwz : w.heap.size < wr.heap.size := World.block_lt_of_cell? wr _ z1
      have z1' := (hbZ.cell (p := ⟨w.heap.size, 1, none⟩) hwz).trans z1
      have t1' := (hbZ.cell (p := ⟨lb, lo + i, none⟩) (World.block_lt_of_cell? wr _ t1)).trans t1
      have c0' := (hbZ.cell (p := ⟨b, off + x * 3, none⟩) (World.block_lt_of_cell? wr _ c0)).trans c0
      have c1' := (hbZ.cell (p := ⟨b, off + x * 3 + 1, none⟩) (World.block_lt_of_cell? wr _ c1)).trans c1
      have c2' := (hbZ.cell (p := ⟨b, off + x * 3 + 2, none⟩) (World.block_lt_of_cell? wr _ c2)).trans c2
      clear hbZ
      go_wp2_with fail
      go_region
      · clear z1' t1' c0' c1' c2' z0 z1 c0 c1 c2
        have hbA : Below wr.heap.size wr (wr.alloc (.cells #[.int .i64 pl, .slice ka kn kc, .slice pa pn pc] 51)).drew := (by go_grown : Below wr.heap.size wr (wr.alloc (.cells #[.int .i64 pl, .slice ka kn kc, .slice pa pn pc] 51))).drew
        have HBA := hide ((unhide HBr).trans (hbA.mono (unhide HBr).size))
        have hP0 : (wr.alloc (.cells #[.int .i64 pl, .slice ka kn kc, .slice pa pn pc] 51)).drew.cell? ⟨wr.heap.size, 0, none⟩ = some (.int .i64 pl) ∧ (wr.alloc (.cells #[.int .i64 pl, .slice ka kn kc, .slice pa pn pc] 51)).drew.cell? ⟨wr.heap.size, 1, none⟩ = some (.slice ka kn kc) := ⟨by show (wr.alloc _).cell? _ = _; simp [World.cell?_alloc_at], by show (wr.alloc _).cell? _ = _; simp [World.cell?_alloc_at]⟩
        have hLA := (unhide HL).later hbA
        have hwA : wr.heap.size < (wr.alloc (.cells #[.int .i64 pl, .slice ka kn kc, .slice pa pn pc] 51)).drew.heap.size := by show _ < (wr.alloc _).heap.size; simp
        have t1A := (hbA.cell (p := ⟨lb, lo + i, none⟩) (World.block_lt_of_cell? wr _ t1)).trans t1
        have HLA := hide hLA
        have HPA := hide hP0
        have HTA := hide t1A
        obtain ⟨p0, p1⟩ := hP0
        clear hbA hLA t1 t1A
        generalize (wr.alloc (.cells #[.int .i64 pl, .slice ka kn kc, .slice pa pn pc] 51)).drew = wA at *
        by_cases hwm : pl = (who : Int) ∧ 0 < kn
        · have hWM : WM L who x := by unfold WM; rw [unhide HDD]; exact hwm
          have hkx : (ndAt L x).k.ln = kn := by rw [unhide HDD]
          have HM : Hid (m = LS.length) := (unhide HLA).1
          have HLn : Hid (∀ k, k < m → (slAt LS k).ln = n ∧ (slAt LS k).ints.length = n) := fun k hk => by
            have h1 := (unhide HLA).mem hk
            have h2 : (slAt LS k).ints ∈ wyL L who q (U.take i) := by
              rw [← unhide HW]
              exact List.mem_map.2 ⟨slAt LS k, slAt_mem (by have := unhide HM; omega), rfl⟩
            have h3 := (wy_ok (U := U.take i) (fun y hy => by rw [unhide HQL]; exact unhide HU y (List.mem_of_mem_take hy)) _ h2).1
            rw [unhide HQL] at h3
            exact ⟨h1.1.trans h3, h3⟩
          have HMK : Hid (m * kn ≤ 300) := by
            have h1 := unhide HBD (i + 1)
            rw [take_snoc (unhide HX), wyL_snoc, wyS_len] at h1
            unfold fW at h1
            rw [if_pos hWM, ← unhide HW, lists_len, ← unhide HM, hkx] at h1
            exact h1
          have HEND : Hid (∀ ML : List Sl, lists ML = ((lists LS).take m).flatMap (fun q => setsL q x kn) → lists ML = wyL L who q (U.take (i + 1))) := fun ML h => by
            rw [h, take_snoc (unhide HX), wyL_snoc, wyS_yes hWM, hkx, ← unhide HW]
            have : (lists LS).take m = lists LS := List.take_of_length_le (by rw [lists_len]; have := unhide HM; omega)
            rw [this]
          have n1 := (unhide HT).n1
          obtain ⟨hpw, hkn⟩ := hwm
          have hd0 : (pl == (who : Int)) = true := by simpa using hpw
          have hd1 : (pl != (who : Int)) = false := by simpa using hpw
          have hkne : ((kn : Int) == 0) = false := by simp; omega
          have om1 := (unhide HLA).2.1
          have om2 := (unhide HLA).2.2.1
          unfold maxLen at om2
          clear hWM hkx hpw
          go_wp2_with fail
          go_loopw [12, 13, 14, 15] (fun mv kv _ _ wz => Hid (Below wA.heap.size wA wz) ∧ ∃ (k : Nat) (ML : List Sl), k ≤ m ∧ kv = .int .i64 (k : Int) ∧ Hid (RowL wA.heap.size wz mv ML.length ML) ∧ Hid (lists ML = ((lists LS).take k).flatMap (fun q => setsL q x kn)) ∧ Hid (ML.length = k * kn)) (fun _ kv _ _ _ => m - (intOf kv).toNat)
          case atStart => exact ⟨Below.refl _ _, 0, [], Nat.zero_le _, rfl, ⟨World.ownsRow_nil _ _ _ _, fun s hs => by cases hs⟩, rfl, by show 0 = _; omega⟩
          case round =>
            obtain ⟨HBz, k, ML, hk, rfl, HRz, HLz, HNz⟩ := hrel
            by_cases hkl2 : k < m
            · have HQK : Hid ((lists LS)[k]? = some (slAt LS k).ints) := lists_at (by have := unhide HM; omega)
              have hln := unhide HLn k hkl2
              go_wp2_with fail
              rename World => wz
              go_loopw [12, 14, 15] (fun mv jv _ wy => Hid (Below wA.heap.size wA wy) ∧ ∃ (j : Nat) (ML : List Sl), j ≤ kn ∧ jv = .int .i64 (j : Int) ∧ Hid (RowL wA.heap.size wy mv ML.length ML) ∧ Hid (lists ML = ((lists LS).take k).flatMap (fun q => setsL q x kn) ++ setsL (slAt LS k).ints x j) ∧ Hid (ML.length = k * kn + j)) (fun _ jv _ _ => kn - (intOf jv).toNat)
              case atStart => exact ⟨HBz, 0, ML, Nat.zero_le _, rfl, HRz, by show _ = _; rw [unhide HLz]; unfold setsL; simp, HNz⟩
              case round =>
                clear HBz HRz HLz HNz
                obtain ⟨HBy, j, ML, hj, rfl, HRy, HLy, HNy⟩ := hrel
                rename World => wy
                have y0 := ((unhide HBy).cell (p := ⟨wr.heap.size, 1, none⟩) hwA).trans p1
                by_cases hjl : j < kn
                · have hLy := (unhide HLA).later (unhide HBy)
                  obtain ⟨ob, oo, eoa, hob, hoc⟩ := hLy.cellAt (by omega)
                  have o1 := hoc k hkl2
                  have hIk := hLy.mem hkl2
                  have hbB : Below wy.heap.size wy (wy.alloc (.cells #[] 3)) := by go_grown
                  have o1B := (hbB.cell (p := ⟨ob, oo + k, none⟩) (World.block_lt_of_cell? wy _ o1)).trans o1
                  have hIB := hIk.later hbB
                  have hown0 := own_empty wy wy.heap.size (Nat.le_refl _)
                  have HO0 := hide hown0
                  have hty := ((unhide HBy).cell (p := ⟨lb, lo + i, none⟩) (World.block_lt_of_cell? wA _ (unhide HTA))).trans (unhide HTA)
                  have HTY : Hid (∀ w5, Below wy.heap.size wy w5 → w5.cell? ⟨lb, lo + i, none⟩ = some (.int .i64 (x : Int))) := fun w5 h5 => (h5.cell (p := ⟨lb, lo + i, none⟩) (World.block_lt_of_cell? wy _ hty)).trans hty
                  have HD5 : Hid (∀ v2 w5, w5.ownsRow wy.heap.size 3 1 v2 n (intVals (slAt LS k).ints) → Below wy.heap.size wy w5 → _) := fun v2 w5 ho h5 => way_d ho h5 n1 hxn hln.2 (j : Int)
                  have HPOS : Hid (k * kn + j < 300) := by
                    have h1 := Nat.mul_le_mul_right kn (show k + 1 ≤ m by omega)
                    rw [Nat.succ_mul] at h1
                    have h2 := unhide HMK
                    show _ < _
                    omega
                  have HQ1 : Hid (lists (ML ++ [⟨none, 0, 0, (slAt LS k).ints.set x (j : Int)⟩]) = ((lists LS).take k).flatMap (fun q => setsL q x kn) ++ setsL (slAt LS k).ints x (j + 1)) := by
                    show _ = _
                    rw [lists_app, unhide HLy, sets_snoc, List.append_assoc]; rfl
                  have HWN : Hid (∀ (S : Sl) (w6 w8 : World) (mv v3 : Value) (C : Obj), RowL wA.heap.size wy mv ML.length ML → Below wy.heap.size wy w6 → Ints w6 S.la S.ln S.lc S.ints → T3 w6 S.la S.ln → w8.ownsRow wA.heap.size 25 1 v3 (ML.length + 1) (slVals (ML ++ [S])) → (w6.alloc C).grownBy w8 mv.ownBlock → RowL wA.heap.size w8 v3 (ML.length + 1) (ML ++ [S]) ∧ Below wA.heap.size wA w8) := fun S w6 w8 mv v3 C h1 h2 h3 h4 h5 h6 => way_next h1 (unhide HBy) h2 h3 h4 h5 h6
                  have hszy := (unhide HBy).size
                  have ok1 := hIk.2.1
                  have ok2 := hIk.2.2.1
                  unfold maxLen at ok2
                  subst eoa
                  clear hLy hoc hIk hbB hown0 hty p0 p1
                  generalize hSk : slAt LS k = Sk at *
                  clear hSk
                  obtain ⟨ska, skn, skc, qk⟩ := Sk
                  obtain ⟨hl1, hl2⟩ := hln
                  simp only at o1 o1B hIB HD5 HQ1 hl1 hl2 ok1 HLy ok2
                  subst hl1
                  go_wp2_with (first
                    | (
                      at_builtin
                      refine wpList_append_ints _ rfl _ _ rfl wy.heap.size _ 0 [] rfl (unhide HO0) _ _ _ _ rfl hIB (by omega) (by simp) ?_
                      intro v2 w5 ho2 hg2
                      have hb5 := ((Below.refl wy.heap.size wy).alloc (Nat.le_refl _) (.cells #[] 3)).grown hg2 (by simp) (fun q hq => ((unhide HO0).lt q hq).1)
                      obtain ⟨g, cap, yy, hv2, e1, e2, e3, e4, e5, e6, e7, e8⟩ := unhide HD5 v2 w5 (by simpa using ho2) hb5
                      subst hv2
                      have tx := unhide HTY w5 hb5
                      have HB6 := hide e6
                      have HI6 := hide e7
                      have HT6 := hide e8
                      clear e6 e7 e8 ho2 hg2 hb5)
                    | (
                      at_builtin
                      have hbC : Below (w5.setCell ⟨g, x, none⟩ (.int .i64 (j : Int))).heap.size (w5.setCell ⟨g, x, none⟩ (.int .i64 (j : Int))) ((w5.setCell ⟨g, x, none⟩ (.int .i64 (j : Int))).alloc (.cells #[.slice (some ⟨g, 0, none⟩) skn cap] 25)) := by go_grown
                      have hcC : ((w5.setCell ⟨g, x, none⟩ (.int .i64 (j : Int))).alloc (.cells #[.slice (some ⟨g, 0, none⟩) skn cap] 25)).cell? ⟨w5.heap.size, 0, none⟩ = some (.slice (some ⟨g, 0, none⟩) skn cap) := by
                        rw [show w5.heap.size = (w5.setCell ⟨g, x, none⟩ (.int .i64 (j : Int))).heap.size by simp]
                        simp only [World.cell?_alloc_at]
                        rfl
                      have hRC := (unhide HRy).later ((unhide HB6).trans (hbC.mono (unhide HB6).size))
                      refine wpList_append_lsts _ rfl _ _ rfl wA.heap.size _ _ ML rfl hRC.1 _ 1 1 [⟨some ⟨g, 0, none⟩, skn, cap, qk.set x (j : Int)⟩] rfl (lsts_one (s := ⟨some ⟨g, 0, none⟩, skn, cap, qk.set x (j : Int)⟩) hcC ((unhide HI6).later hbC)) (by have := unhide HNy; have := unhide HPOS; omega) (by have h1 := (unhide HB6).size; have h2 := hbC.size; omega) ?_
                      intro v3 w8 ho3 hg3
                      obtain ⟨hR8, hB8⟩ := unhide HWN ⟨some ⟨g, 0, none⟩, skn, cap, qk.set x (j : Int)⟩ _ w8 _ v3 _ (unhide HRy) (unhide HB6) (unhide HI6) (unhide HT6) ho3 hg3
                      have HR8 := hide hR8
                      have HB8 := hide hB8
                      clear hR8 hB8 ho3 hg3 hbC hRC))
                  refine ⟨⟨HB8, j + 1, ML ++ [⟨some ⟨g, 0, none⟩, skn, cap, qk.set x (j : Int)⟩], by omega, by go_num, ?_, ?_, ?_⟩, by simp [intOf]; omega⟩
                  · show RowL _ _ _ _ _
                    rw [List.length_append]; exact unhide HR8
                  · have hq1 := unhide HQ1
                    show lists _ = _
                    rw [lists_app] at hq1 ⊢
                    exact hq1
                  · show _ = _
                    rw [List.length_append, unhide HNy]; rfl
                · obtain rfl : kn = j := by omega
                  have HF : Hid (lists ML = ((lists LS).take (k + 1)).flatMap (fun q => setsL q x kn) ∧ ML.length = (k + 1) * kn) := ⟨by rw [unhide HLy, takeL_snoc (unhide HQK), List.flatMap_append]; simp, by rw [unhide HNy, Nat.succ_mul]⟩
                  go_wp2_with fail
                  exact ⟨⟨HBy, k + 1, ML, by omega, by go_num, HRy, (unhide HF).1, (unhide HF).2⟩, by simp [intOf]; omega⟩
            · obtain rfl : m = k := by omega
              obtain ⟨ma, mc, rfl, hML⟩ := (unhide HRz).lsts
              have HF : Hid (lists ML = wyL L who q (U.take (i + 1))) := unhide HEND ML (unhide HLz)
              have HBF := hide ((unhide HBA).trans ((unhide HBz).mono (unhide HBA).size))
              have HML := hide hML
              clear hML
              generalize ML.length = ml at *
              go_wp2_with fail
              exact ⟨⟨HBF, i + 1, ma, ml, mc, ML, by omega, by go_num, rfl, HML, HF⟩, by simp [intOf]; omega⟩
        · have HW2 : Hid (lists LS = wyL L who q (U.take (i + 1))) := by
            show _ = _
            rw [take_snoc (unhide HX), wyL_snoc, wyS_no (fun hm => hwm (by have := hm; unfold WM at this; rw [unhide HDD] at this; exact this))]
            exact unhide HW
          by_cases hpw : pl = (who : Int)
          · have hkn0 : kn = 0 := by omega
            subst hkn0
            have hd0 : (pl == (who : Int)) = true := by simpa using hpw
            have hd1 : (pl != (who : Int)) = false := by simpa using hpw
            clear hwm hpw
            go_wp2_with fail
            exact ⟨⟨HBA, i + 1, oa, m, oc, LS, by omega, by go_num, rfl, HLA, HW2⟩, by simp [intOf]; omega⟩
          · have hd0 : (pl == (who : Int)) = false := by simpa using hpw
            have hd1 : (pl != (who : Int)) = true := by simpa using hpw
            clear hwm hpw
            go_wp2_with fail
            exact ⟨⟨HBA, i + 1, oa, m, oc, LS, by omega, by go_num, rfl, HLA, HW2⟩, by simp [intOf]; omega⟩
    · obtain rfl : un = i := by omega
      have HF : Hid (∃ oa' m' oc' LS, Ending.returned (Value.slice oa m oc) = .returned (.slice oa' m' oc') ∧ Lsts wr oa' m' oc' LS ∧ lists LS = wyL L who q U ∧ Below w.heap.size w wr) := ⟨oa, m, oc, LS, rfl, unhide HL, by rw [unhide HW, unhide HUN, List.take_length], (unhide HBW).trans ((unhide HBr).mono (unhide HBW).size)⟩
      go_wp2
      go_ret
      exact unhide HF
end Go.Proofs.Ytbcchbhchfdbiaa
