import Derived.Test.YtkeanlpgnnikjaaCT
import Derived.Test.YtkeanlpgnnikjaaM
import Derived.Test.YtkeanlpgnnikjaaZC
namespace Go.Proofs.Ytkeanlpgnnikjaa
open Go.RowKit
/-- The step of a region that draws its order: a call that leaves the world as it is. -/
theorem step_env (w : World) {ops : Array Oper} {o : Oper} {a : Act} {K : Act → World → Prop} {Q : Exit → Act → World → Prop} {E : Prop} (hgd : o.guard = none) (x y z u : Operand)
    (ho : o.op = .call { callee := .value (.func 26), args := #[x, y, z, u], argTypes := #[23, 23, 3, 3] }) (vx vy vz vu v : Value) (hx : a.eval x = vx) (hy : a.eval y = vy) (hz : a.eval z = vz) (hu : a.eval u = vu)
    (h : Calls Try.prog 26 #[vx, vy, vz, vu] w fun e w' => e = .returned v ∧ w' = w) (hK : K (a.put o.dst v) w) :
    if Region.wanted o (yielded ops a.tmps) = true then Oper.wp Try.prog o a w K Q else E := by
  have hw : Region.wanted o (yielded ops a.tmps) = true := by simp [Region.wanted, hgd]
  rw [if_pos hw]
  unfold Oper.wp execOp
  simp [ho, resolve, invoke, Act.eval, Oper.upon, List.map_toArray, List.map_cons, List.map_nil] at hx hy hz hu ⊢
  rw [hx, hy, hz, hu]
  refine h.mono ?_
  rintro e w' ⟨rfl, rfl⟩
  exact hK
/-- A table of slices as it lies. -/
def Tb (W : World) (g n : Nat) (S : Nat → Value) : Prop := ∃ arr : Array Value, W.heap[g]? = some (.cells arr 23 (0, 0)) ∧ ∀ j, j < n → arr[j]? = some (S j)
theorem Tb.at {W : World} {g n : Nat} {S : Nat → Value} (h : Tb W g n S) {j : Nat} (hj : j < n) : W.cell? ⟨g, j, none⟩ = some (S j) ∧ W.frozen? ⟨g, j, none⟩ = false ∧ g < W.heap.size := by
  obtain ⟨arr, h1, h2⟩ := h
  have := h2 j hj
  refine ⟨by simp [World.cell?, h1, this], by simp [World.frozen?, h1], (Array.getElem?_eq_some_iff.1 h1).1⟩
theorem Tb.same {W : World} {g n : Nat} {S S' : Nat → Value} (h : Tb W g n S) (e : ∀ j, j < n → S j = S' j) : Tb W g n S' := by
  obtain ⟨arr, h1, h2⟩ := h
  exact ⟨arr, h1, fun j hj => by rw [h2 j hj, e j hj]⟩
theorem Tb.block {W W' : World} {g n : Nat} {S : Nat → Value} (h : Tb W g n S) (e : W'.heap[g]? = W.heap[g]?) : Tb W' g n S := by
  obtain ⟨arr, h1, h2⟩ := h
  exact ⟨arr, by rw [e, h1], h2⟩
theorem Tb.set {W : World} {g n i : Nat} {S : Nat → Value} (h : Tb W g n S) (hi : i < n) (v : Value) : Tb (W.setCell ⟨g, i, none⟩ v) g n (fun j => if j = i then v else S j) := by
  obtain ⟨arr, h1, h2⟩ := h
  refine ⟨arr.setIfInBounds i v, ?_, fun j hj => ?_⟩
  · show (W.heap.modify g _)[g]? = _
    rw [Array.getElem?_modify, if_pos rfl, h1]
    rfl
  · have hl : i < arr.size := (Array.getElem?_eq_some_iff.1 (h2 i hi)).1
    by_cases e : j = i
    · subst e; dsimp only; rw [if_pos rfl]; simp [hl]
    · dsimp only; rw [if_neg e, Array.getElem?_setIfInBounds_ne (Ne.symm e)]; exact h2 j hj
theorem Tb.ne {W : World} {g n m B : Nat} {S : Nat → Value} {v : Value} {xs : List Value} (h : Tb W g n S) (ho : W.ownsRow B 3 1 v m xs) : v.ownBlock ≠ some g := by
  obtain ⟨arr, h1, -⟩ := h
  intro e
  rcases ho.2 with ⟨rfl, _⟩ | ⟨g', cap, cur, rfl, _, hg, _⟩
  · cases e
  · have : g' = g := by simpa [Value.ownBlock] using e
    subst this
    rw [h1] at hg
    cases hg
/-- The rows that are done. -/
def RowsOk (W : World) (g : Nat) (LL : List Sl) : Prop := ∀ s ∈ LL, Ints W s.la s.ln s.lc s.ints ∧ ∀ b, (Value.slice s.la s.ln s.lc).ownBlock = some b → b ≠ g ∧ b < W.heap.size
def tabS (LL : List Sl) (i j : Nat) : Value := if j < i then .slice (slAt LL j).la (slAt LL j).ln (slAt LL j).lc else .slice none 0 0
theorem slAt_append {LL : List Sl} {s : Sl} {j : Nat} : slAt (LL ++ [s]) j = if j < LL.length then slAt LL j else if j = LL.length then s else slNone := by
  unfold slAt
  by_cases h : j < LL.length
  · rw [if_pos h, List.getElem?_append_left h]
  · rw [if_neg h, List.getElem?_append_right (by omega)]
    by_cases e : j = LL.length
    · rw [if_pos e, e, Nat.sub_self]; rfl
    · rw [if_neg e, List.getElem?_eq_none (by simp; omega)]; rfl
set_option maxRecDepth 100000 in
set_option maxHeartbeats 4000000 in
theorem envyP_err (a : Option Addr) (n c : Nat) (L : List Sl) (a' : Option Addr) (m c' : Nat) (w : World) (h : Lsts w a n c L) (he : smE L ≠ 0) :
    Calls Try.prog 9 #[.slice a n c, .slice a' m c'] w fun e w' => e = .returned (two (.slice none 0 0) (smE L)) ∧ w' = w := by
  have CM := hide (may_any a n c L w h)
  have hz : (smE L == 0) = false := by simpa using he
  clear h he
  generalize smE L = E at *
  go_enter Try.func9, Try.ntmps9
  go_wp2_with fail
  refine (unhide CM).mono ?_
  rintro e w2 ⟨rfl, hw2⟩
  subst w2
  go_wp2
  go_ret2
  exact ⟨rfl, rfl⟩
set_option maxRecDepth 100000 in
set_option maxHeartbeats 4000000 in
theorem envyP_len (a : Option Addr) (n c G : Nat) (L : List Sl) (a' : Option Addr) (m c' : Nat) (gl : List Int) (w : World) (h : Lsts w a n c L) (hV : Vals n G L) (h' : Ints w a' m c' gl) (hne : m ≠ G) :
    Calls Try.prog 9 #[.slice a n c, .slice a' m c'] w fun e w' => e = .returned (two (.slice none 0 0) 7) ∧ w' = w := by
  have CM := may_any a n c L w h
  rw [hV.smE] at CM
  have CM := hide CM
  have hn1 := hV.n1
  have hn4 := hV.n4
  have d1 := h.2.1
  have d2 := h.2.2.1
  have c1 := h'.2.1
  have c2 := h'.2.2.1
  unfold maxLen at d2 c2
  obtain ⟨b, off, rfl, hb, hcell⟩ := h.cellAt hn1
  have c0 := hcell 0 hn1
  rw [Nat.add_zero, hV.row 0 hn1] at c0
  have i1 := (h.mem hn1).2.1
  have i2 := (h.mem hn1).2.2.1
  rw [hV.row 0 hn1] at i1
  unfold maxLen at i2
  have hd : ((m : Int) == (G : Int)) = false := by simp; omega
  generalize (slAt L 0).la = la0 at *
  generalize (slAt L 0).lc = lc0 at *
  clear h h' hV hcell
  go_enter Try.func9, Try.ntmps9
  go_wp2_with fail
  refine (unhide CM).mono ?_
  rintro e w2 ⟨rfl, hw2⟩
  subst w2
  go_wp2
  go_ret2
  exact ⟨rfl, rfl⟩
set_option linter.unusedSimpArgs false in
set_option maxRecDepth 100000 in
set_option maxHeartbeats 8000000 in
theorem envyP_any (a : Option Addr) (n c G : Nat) (L : List Sl) (a' : Option Addr) (c' : Nat) (gl : List Int) (w : World) (h : Lsts w a n c L) (hV : Vals n G L) (h' : Ints w a' G c' gl) :
    Calls Try.prog 9 #[.slice a n c, .slice a' G c'] w fun e w' => (∀ j, j < G → ¬ BadW n (nth gl j)) ∧ EnvPost n (rowsL (levT L (nth gl) G) n n) w e w' ∨ (∃ j, j < G ∧ BadW n (nth gl j)) ∧ e = .returned (two (.slice none 0 0) 8) ∧ Below w.heap.size w w' := by
  have CM := may_any a n c L w h
  rw [hV.smE] at CM
  have CM := hide CM
  have hn1 := hV.n1
  have hn4 := hV.n4
  have hG := hV.g8
  have d1 := h.2.1
  have d2 := h.2.2.1
  have c1 := h'.2.1
  have c2 := h'.2.2.1
  unfold maxLen at d2 c2
  obtain ⟨b, off, rfl, hb, hcell⟩ := h.cellAt hn1
  have c0 := hcell 0 hn1
  rw [Nat.add_zero, hV.row 0 hn1] at c0
  have HC : Hid (∀ W, Below w.heap.size w W → ∀ j, j < n → W.cell? ⟨b, off + j, none⟩ = some (.slice (slAt L j).la G (slAt L j).lc)) := fun W hW j hj => by rw [hW.cell (p := ⟨b, off + j, none⟩) hb, hcell j hj, hV.row j hj]
  have HL : Hid (∀ k, k < n → G ≤ (slAt L k).lc ∧ (slAt L k).lc ≤ 9223372036854775807) := fun k hk => by
    have := h.mem (k := k) hk
    have q := this.2.1
    have r := this.2.2.1
    rw [hV.row k hk] at q
    unfold maxLen at r
    exact ⟨q, by omega⟩
  have HE : Hid (∀ W, Below w.heap.size w W → ∀ k, k < n → ∀ j : Nat, Calls Try.prog 26 #[.slice (slAt L k).la G (slAt L k).lc, .slice a' G c', .int .i64 (k : Int), .int .i64 (j : Int)] W fun e w' => e = .returned (.int .i64 (levT L (nth gl) G k j)) ∧ w' = W) := fun W hW k hk j => by
    have := (h.mem (k := k) hk).later hW
    rw [hV.row k hk] at this
    exact envies_any _ _ _ _ _ _ _ _ _ W this (h'.later hW) hG (hV.okF hk)
  have HGV : Hid (∀ g, g < G → ∃ bb oo, a' = some ⟨bb, oo, none⟩ ∧ w.cell? ⟨bb, oo + g, none⟩ = some (.int .i64 (nth gl g))) := fun g hg => by
    obtain ⟨bb, oo, e1, -, e3⟩ := h'.nth (by omega)
    exact ⟨bb, oo, e1, e3 g hg⟩
  obtain ⟨i1, i2⟩ := unhide HL 0 hn1
  obtain ⟨i3, hi3, hz0, hz1, hz2⟩ := info_parts info23
  clear h h' hV hcell
  generalize levT L (nth gl) G = p at *
  generalize nth gl = f at *
  generalize hla : (slAt L 0).la = la at c0
  generalize hlc : (slAt L 0).lc = lc at c0 i1 i2
  clear hla hlc
  go_enter Try.func9, Try.ntmps9
  go_wp2_with fail
  refine (unhide CM).mono ?_
  rintro e w2 ⟨rfl, hw2⟩
  subst w2
  clear CM
  go_wp2
  go_loop [27, 8] (fun i _ => ∃ k : Nat, k ≤ G ∧ i = .int .i64 k ∧ Hid (∀ j, j < k → ¬ BadW n (f j))) (fun i _ => G - (intOf i).toNat)
  case atStart => exact ⟨0, Nat.zero_le _, rfl, fun j hj => by omega⟩
  case round =>
    obtain ⟨k, hk, rfl, HN⟩ := hrel
    by_cases hlt : k < G
    · obtain ⟨bb, oo, rfl, hck⟩ := unhide HGV k hlt
      by_cases hbad : BadW n (f k)
      · have HX : Hid (∃ j, j < G ∧ BadW n (f j)) := ⟨k, hlt, hbad⟩
        unfold BadW at hbad
        have hm1 : (f k == -1) = false := by simp; omega
        clear HE HGV HC HN HL
        generalize f k = x at *
        rcases hbad with q | q
        · have q2 : x < 0 := by omega
          go_wp2
          go_ret2
          exact .inr ⟨HX, rfl, Below.refl _ _⟩
        · have q2 : ¬ x < 0 := by omega
          go_wp2
          go_ret2
          exact .inr ⟨HX, rfl, Below.refl _ _⟩
      · have HN2 : Hid (∀ j, j < k + 1 → ¬ BadW n (f j)) := fun j hj => by
          by_cases e : j = k
          · subst e; exact hbad
          · exact unhide HN j (by omega)
        unfold BadW at hbad
        have q1 : ¬ f k < -1 := fun q => hbad (.inl q)
        have q2 : ¬ (n : Int) ≤ f k := fun q => hbad (.inr q)
        clear HE HGV HC HN HL hbad
        generalize f k = x at *
        by_cases hm : x = -1
        · subst hm
          clear q1 q2
          go_wp2
          exact ⟨⟨k + 1, by omega, by go_num, HN2⟩, by simp [intOf]; omega⟩
        · have hm1 : (x == -1) = false := by simpa using hm
          have q3 : ¬ x < 0 := by omega
          clear hm
          go_wp2
          exact ⟨⟨k + 1, by omega, by go_num, HN2⟩, by simp [intOf]; omega⟩
    · obtain rfl : G = k := by omega
      go_wp2_with (at_make; refine wpList_make_full _ rfl _ _ 22 rfl w.heap.size 23 i3 _ 1 Try.underlying22 hi3 hz0 hz1 .i64 .i64 _ _ n rfl rfl rfl rfl (by rw [hz2]; omega) (by unfold maxLen; omega) (Nat.le_refl _) ?_; intro w2 ho2 hg2)
      have HB2 : Hid (Below w.heap.size w w2) := (Below.refl w.heap.size w).grown hg2 (Nat.le_refl _) (fun k hk => by cases hk)
      have HT2 : Hid (Tb w2 w.heap.size n (tabS [] 0)) := by
        rcases ho2.2 with ⟨q, _⟩ | ⟨g, cap, cur, q, _, hgg, _, _, hcs, htake⟩
        · cases q
        · cases q
          refine ⟨cur, hgg, fun j hj => ?_⟩
          have := made_at (.slice none 0 0) rfl n j hj
          rw [← htake, List.getElem?_take, if_pos (by omega)] at this
          unfold tabS
          rw [if_neg (by omega), ← this]
          simp
      clear ho2 hg2
      go_loopw [49, 10, 11, 12] (fun i _ _ _ wr => Hid (Below w.heap.size w wr) ∧ ∃ (k : Nat) (LL : List Sl), k ≤ n ∧ i = .int .i64 k ∧ Hid (LL.length = k ∧ lists LL = rowsL p n k ∧ RowsOk wr w.heap.size LL ∧ Tb wr w.heap.size n (tabS LL k))) (fun i _ _ _ _ => n - (intOf i).toNat)
      case atStart => exact ⟨HB2, 0, [], Nat.zero_le _, rfl, rfl, rfl, fun s hs => (by cases hs), HT2⟩
      case round =>
        clear HB2 HT2
        obtain ⟨HBr, i, LL, hi, rfl, HX⟩ := hrel
        by_cases hlt2 : i < n
        · have hck := unhide HC _ (unhide HBr) i hlt2
          obtain ⟨l1, l2⟩ := unhide HL i hlt2
          have CE := hide (fun W (hW : Below w.heap.size w W) j => unhide HE W hW i hlt2 j)
          generalize (slAt L i).la = sa at *
          generalize (slAt L i).lc = sc at *
          go_wp2
          rename World => wq
          obtain ⟨hll, hls, hok, htb⟩ := unhide HX
          clear HX
          have HLL := hide hll
          have HLS := hide hls
          have HOKR := hide hok
          have hgq : w.heap.size < wq.heap.size := (htb.at hn1).2.2
          have HT0 : Hid (Tb wq w.heap.size n (fun j => if j = i then .slice none 0 0 else tabS LL i j)) := htb.same (fun j hj => by
            by_cases e : j = i
            · rw [if_pos e, tabS, if_neg (by omega)]
            · rw [if_neg e])
          clear hll hls hok htb
          go_loopw [56, 12] (fun i' _ wr => ∃ (t : Nat) (v : Value), t ≤ n ∧ i' = .int .i64 t ∧ Hid (Keep (fun b => b < wq.heap.size ∧ b ≠ w.heap.size) wq wr ∧ Tb wr w.heap.size n (fun j => if j = i then v else tabS LL i j) ∧ wr.ownsRow wq.heap.size 3 1 v t (intVals ((List.range t).map (p i))))) (fun i _ _ => n - (intOf i).toNat)
          case atStart => exact ⟨0, .slice none 0 0, Nat.zero_le _, rfl, Keep.refl _ _, HT0, World.ownsRow_nil _ _ _ _⟩
          case round =>
            clear HT0
            obtain ⟨t, v, ht, rfl, HY⟩ := hrel
            obtain ⟨hkp, htb, hown⟩ := unhide HY
            clear HY
            have HKP := hide hkp
            have HTB := hide htb
            have HOW := hide hown
            have hsz := hkp.size
            have HBB : Hid (Below w.heap.size w wr) := (unhide HBr).trans (hkp.sub (T := fun b => b < w.heap.size) (fun b hb => ⟨by omega, by omega⟩)).below
            clear hkp htb hown
            by_cases hlt3 : t < n
            · obtain ⟨C, hC⟩ : ∃ C : World → Prop, C = fun Z => Z = wr.drew := ⟨_, rfl⟩
              have htc := (unhide HTB).at hlt2
              rw [if_pos rfl] at htc
              have hCc : ∀ Z, C Z → Z.cell? ⟨w.heap.size, i, none⟩ = some v := fun Z hZ => by
                rw [hC] at hZ
                subst hZ
                exact htc.1
              have H1 : Hid (∀ Z, C Z → Calls Try.prog 26 #[.slice sa G sc, .slice a' G c', .int .i64 (i : Int), .int .i64 (t : Int)] Z fun e w' => e = .returned (.int .i64 (p i t)) ∧ C w') := fun Z hZ => by
                rw [hC] at hZ ⊢
                subst hZ
                exact unhide CE _ (unhide HBB).drew t
              obtain ⟨pv, hpv⟩ : ∃ pv, p i t = pv := ⟨_, rfl⟩
              have HPV := hide hpv
              have HOA : Hid ((wr.alloc (.cells #[.int .i64 pv] 3)).drew.ownsRow wq.heap.size 3 1 v t (intVals ((List.range t).map (p i)))) := owns_drew ((unhide HOW).alloc _)
              have HTA : Hid (Tb (wr.alloc (.cells #[.int .i64 pv] 3)).drew w.heap.size n (fun j => if j = i then v else tabS LL i j)) := (unhide HTB).block (by show (World.alloc _ _).heap[_]? = _; rw [Below.heap_alloc _ _ _ (by omega)])
              have HNE := hide ((unhide HTA).ne (unhide HOA))
              have CX := hide (unhide CE wr.drew (unhide HBB).drew t)
              rw [hpv] at CX
              have hcA : (wr.alloc (.cells #[.int .i64 pv] 3)).drew.cell? ⟨wr.heap.size, 0, none⟩ = some (.int .i64 pv) := (cell_box (t := 3) (heap_alloc_new wr _)).1
              have HCA := hide hcA
              obtain ⟨hcv, hfv, -⟩ := htc
              have hcd : wr.drew.cell? ⟨w.heap.size, i, none⟩ = some v := hcv
              have hce : (wr.alloc (.cells #[.int .i64 pv] 3)).drew.cell? ⟨w.heap.size, i, none⟩ = some v := by
                have := ((unhide HTA).at hlt2).1
                rw [if_pos rfl] at this
                exact this
              clear hCc H1 hC hpv hcA
              clear C
              go_wp2_with fail
              go_region_law (first
                | (refine step_env _ rfl (.tmp 65) (.tmp 66) (.tmp 67) (.tmp 68) rfl _ _ _ _ (.int .i64 pv) (by simp [Act.eval, Act.put]) (by simp [Act.eval, Act.put]) (by simp [Act.eval, Act.put]) (by simp [Act.eval, Act.put]) (unhide CX) ?_)
                | (refine step_append_int1 _ (by kernel_rfl) (.tmp 64) (.tmp 70) rfl wq.heap.size v t ((List.range t).map (p i)) (by simp [Act.eval, Act.put]) (unhide HOA) wr.heap.size 1 pv (by simp [Act.eval, Act.put]) (unhide HCA) (by omega) (by show _ ≤ (World.alloc _ _).heap.size; rw [World.size_alloc]; show _ ≤ wr.heap.size + 1; omega) ?_; intro v2 w5 ho5 hg5 _; have htb5 : Tb w5 w.heap.size n (fun j => if j = i then v else tabS LL i j) := (unhide HTA).block (hg5.block _ (by show w.heap.size < (World.alloc _ _).heap.size; rw [World.size_alloc]; show w.heap.size < wr.heap.size + 1; omega) (fun e => unhide HNE e.symm)); have HTB5 := hide htb5; have htc5 := htb5.at hlt2; rw [if_pos rfl] at htc5; obtain ⟨hc5, hf5, -⟩ := htc5; obtain ⟨a2, c5, hv2, -, -⟩ := Ints.of_owns ho5 (by omega); subst hv2; have HO5 := hide ho5; have HG5 := hide hg5; clear htb5 ho5 hg5))
              all_goals
                go_wp2_with fail
                go_roundw
                case rel =>
                  refine ⟨t + 1, .slice a2 (t + 1) c5, by omega, by go_num, ?_, ?_, ?_⟩
                  · have k1 : Keep (fun b => b < wq.heap.size ∧ b ≠ w.heap.size) wr w5 := by
                      have hb5 : Below wq.heap.size wr w5 := (((Below.refl wq.heap.size wr).alloc hsz (.cells #[.int .i64 pv] 3)).drew).grown (unhide HG5) (by show _ ≤ (World.alloc _ _).heap.size; rw [World.size_alloc]; omega) (fun q hq => ((unhide HOW).lt q hq).1)
                      exact Keep.of_below hb5 (fun b hb => hb.1)
                    refine (unhide HKP).trans (k1.trans ⟨rfl, rfl, rfl, by simp, fun b hb => Below.heap_setCell _ ⟨w.heap.size, i, none⟩ _ b hb.2⟩)
                  · refine ((unhide HTB5).set hlt2 _).same (fun j hj => ?_)
                    by_cases e : j = i
                    · rw [if_pos e, if_pos e]
                    · rw [if_neg e, if_neg e, if_neg e]
                  · have hne5 : (Value.slice a2 (t + 1) c5).ownBlock ≠ some w.heap.size := (unhide HTB5).ne (unhide HO5)
                    rw [List.range_succ, List.map_append, intVals_append]
                    show _root_.Go.World.ownsRow _ _ _ _ _ _ (_ ++ intVals [p i t])
                    rw [unhide HPV, ← intVals_append]
                    refine owns_keep (unhide HO5) (fun b hb => Below.heap_setCell _ ⟨w.heap.size, i, none⟩ _ b (fun e => hne5 (by rw [hb]; exact congrArg some e)))
                case measure => simp [intOf]; omega
            · obtain rfl : n = t := by omega
              obtain ⟨a2, c5, hv2, hI2, hgI⟩ := Ints.of_owns (unhide HOW) (by omega)
              subst hv2
              have HNX : Hid ((LL ++ [(⟨a2, n, c5, (List.range n).map (p i)⟩ : Sl)]).length = i + 1 ∧ lists (LL ++ [(⟨a2, n, c5, (List.range n).map (p i)⟩ : Sl)]) = rowsL p n (i + 1) ∧ RowsOk wr w.heap.size (LL ++ [(⟨a2, n, c5, (List.range n).map (p i)⟩ : Sl)]) ∧ Tb wr w.heap.size n (tabS (LL ++ [(⟨a2, n, c5, (List.range n).map (p i)⟩ : Sl)]) (i + 1))) := by
                refine ⟨by rw [List.length_append, unhide HLL]; rfl, by rw [rowsL_succ, ← unhide HLS]; simp [lists], fun s hs => ?_, (unhide HTB).same (fun j hj => ?_)⟩
                · rcases List.mem_append.1 hs with q | q
                  · obtain ⟨r1, r2⟩ := unhide HOKR s q
                    exact ⟨ints_keep r1 (unhide HKP) (fun b hb => ⟨(r2 b hb).2, (r2 b hb).1⟩), fun b hb => ⟨(r2 b hb).1, Nat.lt_of_lt_of_le (r2 b hb).2 hsz⟩⟩
                  · rw [List.mem_singleton] at q
                    subst q
                    refine ⟨hI2, fun b hb => ?_⟩
                    have := (unhide HOW).lt b hb
                    omega
                · unfold tabS
                  rw [slAt_append, unhide HLL]
                  by_cases e : j = i
                  · subst e; rw [if_pos rfl, if_pos (by omega), if_neg (by omega), if_pos rfl]
                  · rw [if_neg e]
                    by_cases e2 : j < i
                    · rw [if_pos e2, if_pos (by omega), if_pos e2]
                    · rw [if_neg e2, if_neg (by omega)]
              clear hI2 hgI
              go_wp2
              go_roundw
              case rel => exact ⟨HBB, i + 1, _, by omega, by go_num, HNX⟩
              case measure => simp [intOf]; omega
        · obtain rfl : n = i := by omega
          obtain ⟨hll, hls, hok, htb⟩ := unhide HX
          have HFL : Hid (Lsts wr (some ⟨w.heap.size, 0, none⟩) n n LL) := by
            refine ⟨hll.symm, Nat.le_refl _, by unfold maxLen; omega, fun s hs => (hok s hs).1, .inr ⟨w.heap.size, 0, rfl, (htb.at hn1).2.2, fun j hj => ?_⟩⟩
            rw [Nat.zero_add, (htb.at hj).1, tabS, if_pos hj]
          have HLS := hide hls
          clear HX hll hls hok htb
          go_wp2
          go_ret2
          exact .inl ⟨unhide HN, _, _, LL, rfl, HFL, HLS, HBr⟩
end Go.Proofs.Ytkeanlpgnnikjaa
