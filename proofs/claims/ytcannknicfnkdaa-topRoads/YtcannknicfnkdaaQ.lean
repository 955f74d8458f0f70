import Derived.Test.YtcannknicfnkdaaN
namespace Go.Proofs.Ytcannknicfnkdaa
open Go.RowKit
/-- The step of a region that draws its order: a call that leaves the world as it is. -/
theorem step_at (w : World) {ops : Array Oper} {o : Oper} {a : Act} {K : Act → World → Prop} {Q : Exit → Act → World → Prop} {E : Prop} (hgd : o.guard = none) (x y : Operand)
    (ho : o.op = .call { callee := .value (.func 19), args := #[x, y], argTypes := #[25, 3] }) (vx vy v : Value) (hx : a.eval x = vx) (hy : a.eval y = vy)
    (h : Calls Try.prog 19 #[vx, vy] w fun e w' => e = .returned v ∧ w' = w) (hK : K (a.put o.dst v) w) :
    if Region.wanted o (yielded ops a.tmps) = true then Oper.wp Try.prog o a w K Q else E := by
  have hw : Region.wanted o (yielded ops a.tmps) = true := by simp [Region.wanted, hgd]
  rw [if_pos hw]
  unfold Oper.wp execOp
  simp [ho, resolve, invoke, Act.eval, Oper.upon, List.map_toArray, List.map_cons, List.map_nil] at hx hy ⊢
  rw [hx, hy]
  refine h.mono ?_
  rintro e w' ⟨rfl, rfl⟩
  exact hK
/-- The step of a region that draws its order: a call that leaves the world as it is. -/
theorem step_pick (w : World) {ops : Array Oper} {o : Oper} {a : Act} {K : Act → World → Prop} {Q : Exit → Act → World → Prop} {E : Prop} (hgd : o.guard = none) (x y : Operand)
    (ho : o.op = .call { callee := .value (.func 17), args := #[x, y], argTypes := #[3, 3] }) (vx vy v : Value) (hx : a.eval x = vx) (hy : a.eval y = vy)
    (h : Calls Try.prog 17 #[vx, vy] w fun e w' => e = .returned v ∧ w' = w) (hK : K (a.put o.dst v) w) :
    if Region.wanted o (yielded ops a.tmps) = true then Oper.wp Try.prog o a w K Q else E := by
  have hw : Region.wanted o (yielded ops a.tmps) = true := by simp [Region.wanted, hgd]
  rw [if_pos hw]
  unfold Oper.wp execOp
  simp [ho, resolve, invoke, Act.eval, Oper.upon, List.map_toArray, List.map_cons, List.map_nil] at hx hy ⊢
  rw [hx, hy]
  refine h.mono ?_
  rintro e w' ⟨rfl, rfl⟩
  exact hK
theorem Ints.other {w : World} {a : Option Addr} {n c g o : Nat} {l : List Int} {v : Value} (h : Ints w a n c l) (hne : ∀ b o, a = some ⟨b, o, none⟩ → b ≠ g) : Ints (w.setCell ⟨g, o, none⟩ v) a n c l := by
  obtain ⟨h1, h2, h3, h4⟩ := h
  refine ⟨h1, h2, h3, h4.imp id ?_⟩
  rintro ⟨b, off, e, hb, hc⟩
  exact ⟨b, off, e, by simpa using hb, fun j hj => by rw [World.cell?_setCell_other _ _ _ _ (by intro hh; cases hh; exact hne _ _ e rfl)]; exact hc j hj⟩
theorem T3.other {w : World} {a : Option Addr} {n g o : Nat} {v : Value} (h : T3 w a n) (hne : ∀ b o, a = some ⟨b, o, none⟩ → b ≠ g) : T3 (w.setCell ⟨g, o, none⟩ v) a n := by
  rcases h with h | ⟨b, off, arr, fz, e, hb⟩
  · exact .inl h
  · exact .inr ⟨b, off, arr, fz, e, by rw [Below.heap_setCell _ _ _ _ (hne b off e)]; exact hb⟩
theorem cell_in' {w : World} {b : Nat} {arr : Array Value} {t : TypeId} (h : w.heap[b]? = some (.cells arr t (0, 0))) (j : Nat) : w.cell? ⟨b, j, none⟩ = arr[j]? ∧ w.frozen? ⟨b, j, none⟩ = false := by
  constructor
  · simp [World.cell?, h]
  · simp [World.frozen?, h]
theorem own_slice {w : World} {base k : Nat} {v : Value} {xs : List Value} (h : w.ownsRow base 25 1 v k xs) (hk : 0 < k) : ∃ g cap, v = .slice (some ⟨g, 0, none⟩) k cap := by
  rcases h.2 with ⟨_, e⟩ | ⟨g, cap, cur, e, _⟩
  · omega
  · exact ⟨g, cap, e⟩
theorem own_other {w : World} {base n g o : Nat} {v u : Value} {xs : List Value} (h : w.ownsRow base 25 1 v n xs) (hg : g < base) : (w.setCell ⟨g, o, none⟩ u).ownsRow base 25 1 v n xs := by
  refine ⟨h.1, ?_⟩
  rcases h.2 with e | ⟨g', cap, cur, e, hb, hh, h1, h2, h3, h4⟩
  · exact .inl e
  · refine .inr ⟨g', cap, cur, e, hb, ?_, h1, h2, h3, h4⟩
    rw [Below.heap_setCell _ _ _ _ (by show _ ≠ g; omega)]
    exact hh
/-- A row of slices that is being made, beside a box below lo. -/
def RowL (lo : Nat) (G : Sl → Prop) (wr : World) (v : Value) (k : Nat) (L : List Sl) : Prop :=
  wr.ownsRow lo 25 1 v k (slVals L) ∧ ∀ s ∈ L, Ints wr s.la s.ln s.lc s.ints ∧ T3 wr s.la s.ln ∧ G s ∧ ∀ b o, s.la = some ⟨b, o, none⟩ → lo ≤ b
theorem RowL.later {lo : Nat} {G : Sl → Prop} {w w' : World} {v : Value} {k : Nat} {L : List Sl} (h : RowL lo G w v k L) (hb : Below w.heap.size w w') : RowL lo G w' v k L :=
  ⟨owns_later h.1 hb, fun s hs => ⟨(h.2 s hs).1.later hb, (h.2 s hs).2.1.later hb, (h.2 s hs).2.2⟩⟩
theorem RowL.other {lo g o : Nat} {G : Sl → Prop} {w : World} {v u : Value} {k : Nat} {L : List Sl} (h : RowL lo G w v k L) (hg : g < lo) : RowL lo G (w.setCell ⟨g, o, none⟩ u) v k L :=
  ⟨own_other h.1 hg, fun s hs => ⟨(h.2 s hs).1.other (fun b o hb => by have := (h.2 s hs).2.2.2 b o hb; omega), (h.2 s hs).2.1.other (fun b o hb => by have := (h.2 s hs).2.2.2 b o hb; omega), (h.2 s hs).2.2⟩⟩
theorem RowL.next {lo : Nat} {G : Sl → Prop} {w w' : World} {v v' : Value} {k : Nat} {L : List Sl} {s : Sl} (h : RowL lo G w v k L) (hI : Ints w s.la s.ln s.lc s.ints) (hT : T3 w s.la s.ln) (hG : G s) (hlo : ∀ b o, s.la = some ⟨b, o, none⟩ → lo ≤ b)
    (ho : w'.ownsRow lo 25 1 v' (k + 1) (slVals (L ++ [s]))) (hg : w.grownBy w' v.ownBlock) : RowL lo G w' v' (k + 1) (L ++ [s]) := by
  refine ⟨ho, fun x hx => ?_⟩
  rcases List.mem_append.1 hx with h' | h'
  · have a := h.2 x h'
    have := a.2.1.grown a.1 h.1 hg
    exact ⟨this.2, this.1, a.2.2⟩
  · rw [List.mem_singleton] at h'
    subst h'
    have := hT.grown hI h.1 hg
    exact ⟨this.2, this.1, hG, hlo⟩
theorem RowL.moved {lo : Nat} {G : Sl → Prop} {w w' : World} {v : Value} {k : Nat} {L : List Sl} (h : RowL lo G w v k L) (hs : w.heap.size ≤ w'.heap.size) (he : ∀ q, lo ≤ q → q < w.heap.size → w'.heap[q]? = w.heap[q]?) : RowL lo G w' v k L := by
  refine ⟨⟨h.1.1, ?_⟩, fun s hs' => ?_⟩
  · rcases h.1.2 with e | ⟨g', cap, cur, e, hb, hh, h1⟩
    · exact .inl e
    · have hlt : g' < w.heap.size := by
        rcases Nat.lt_or_ge g' w.heap.size with q | q
        · exact q
        · rw [Array.getElem?_eq_none (by omega)] at hh; cases hh
      exact .inr ⟨g', cap, cur, e, hb, by rw [he g' hb hlt]; exact hh, h1⟩
  · obtain ⟨⟨i1, i2, i3, i4⟩, t, g, l⟩ := h.2 s hs'
    refine ⟨⟨i1, i2, i3, ?_⟩, ?_, g, l⟩
    · rcases i4 with e | ⟨b, off, e, hb, hc⟩
      · exact .inl e
      · refine .inr ⟨b, off, e, Nat.lt_of_lt_of_le hb hs, fun j hj => ?_⟩
        have := hc j hj
        unfold World.cell? at this ⊢
        simp only [he b (l b off e) hb]
        exact this
    · rcases t with e | ⟨b, off, arr, fz, e, hb⟩
      · exact .inl e
      · have hlt : b < w.heap.size := by
          rcases Nat.lt_or_ge b w.heap.size with q | q
          · exact q
          · rw [Array.getElem?_eq_none (by omega)] at hb; cases hb
        exact .inr ⟨b, off, arr, fz, e, by rw [he b (l b off e) hlt]; exact hb⟩
theorem RowL.lsts {lo : Nat} {G : Sl → Prop} {w : World} {v : Value} {k : Nat} {L : List Sl} (h : RowL lo G w v k L) : ∃ a c, v = .slice a k c ∧ Lsts w a k c L := Lsts.of_owns h.1 (fun s hs => (h.2 s hs).1)
def Gk (n : Nat) (s : Sl) : Prop := s.ln = n ∧ ∀ x ∈ s.ints, -999 ≤ x ∧ x ≤ 999
def Gc (m : Nat) (s : Sl) : Prop := 1 ≤ s.ln ∧ s.ln ≤ 5 ∧ ∀ x ∈ s.ints, 0 ≤ x ∧ x < (2 : Int) ^ m
theorem nth_mem {l : List Int} {j : Nat} (h : j < l.length) : nth l j ∈ l := by unfold nth; rw [List.getElem?_eq_getElem h]; exact List.getElem_mem h
theorem rds_made {w : World} {ca ka : Option Addr} {n cc m kc : Nat} {C K : List Sl} (hC : Lsts w ca n cc C) (hK : Lsts w ka m kc K) (gC : ∀ s ∈ C, Gc m s) (gK : ∀ s ∈ K, Gk n s) (n1 : 1 ≤ n) (n5 : n ≤ 5) (m6 : m ≤ 6) : Rds C K n m := by
  have lC : C.length = n := hC.1.symm
  have lK : K.length = m := hK.1.symm
  refine ⟨lC, lK, n1, n5, m6, fun e he => (gK _ (slAt_mem (by omega))).1, fun e he k hk => ?_, fun i hi => ?_, fun i hi k hk => ?_⟩
  · have a := gK _ (slAt_mem (show e < K.length by omega))
    exact a.2 _ (nth_mem (by rw [← hK.lens _ (slAt_mem (show e < K.length by omega)), a.1]; exact hk))
  · have a := gC _ (slAt_mem (show i < C.length by omega))
    exact ⟨a.1, a.2.1⟩
  · have a := gC _ (slAt_mem (show i < C.length by omega))
    exact a.2.2 _ (nth_mem (by rw [← hC.lens _ (slAt_mem (show i < C.length by omega))]; exact hk))
/-- Where the making of the costs stands; then that of the choices. -/
def RI1 (w : World) (n m : Nat) (i : Value) (wr : World) : Prop :=
  Below w.heap.size w wr ∧ w.heap.size + 2 ≤ wr.heap.size ∧ wr.heap[w.heap.size]? = some (.cells #[.slice none 0 0, .slice none 0 0] 24 (0, 0)) ∧
    ∃ (k : Nat) (v : Value) (L : List Sl), k ≤ m ∧ i = .int .i64 k ∧ wr.heap[w.heap.size + 1]? = some (.cells #[.slice none 0 0, v] 24 (0, 0)) ∧ RowL (w.heap.size + 2) (Gk n) wr v k L
def RI3 (w w1 : World) (vK : Value) (n m : Nat) (i : Value) (wr : World) : Prop :=
  Below w.heap.size w wr ∧ w1.heap.size ≤ wr.heap.size ∧ wr.heap[w.heap.size]? = some (.cells #[.slice none 0 0, .slice none 0 0] 24 (0, 0)) ∧ (∀ q, w.heap.size + 2 ≤ q → q < w1.heap.size → wr.heap[q]? = w1.heap[q]?) ∧
    ∃ (k : Nat) (v : Value) (L : List Sl), k ≤ n ∧ i = .int .i64 k ∧ wr.heap[w.heap.size + 1]? = some (.cells #[v, vK] 24 (0, 0)) ∧ RowL w1.heap.size (Gc m) wr v k L
set_option maxRecDepth 100000 in
set_option maxHeartbeats 8000000 in
theorem roadsOf_any (a : Option Addr) (rn c : Nat) (l : List Int) (n m : Nat) (w : World) (h : Ints w a rn c l) (hR : ∀ x ∈ l, InR x) (hrn : rn ≤ 256) (n1 : 1 ≤ n) (n4 : n ≤ 4) (m1 : 1 ≤ m) (m5 : m ≤ 5) :
    Calls Try.prog 18 #[.slice a rn c, .int .i64 n, .int .i64 m] w fun e w' => ∃ ca cc C ka kc K, e = .returned (rV ca n cc ka m kc) ∧ Lsts w' ca n cc C ∧ Lsts w' ka m kc K ∧ Rds C K n m ∧ Below w.heap.size w w' := by
  have CA : Hid (∀ W, Below w.heap.size w W → ∀ k, k ≤ 1000 → Calls Try.prog 19 #[.slice a rn c, .int .i64 (k : Nat)] W fun e w' => e = .returned (.int .i64 (atV l k)) ∧ w' = W) := fun W hW k hk => at_val a rn c l k W (h.later hW) hk hrn
  have CP : Hid (∀ W k N, 0 < N → N ≤ 3000 → Calls Try.prog 17 #[.int .i64 (atV l k), .int .i64 (N : Nat)] W fun e w' => e = .returned (.int .i64 (pkN (atV l k) N)) ∧ w' = W) := fun W k N h0 h1 => pick_val (atV l k) N (atV_in hR k) h0 h1 W
  have hA : Below w.heap.size w ((w.alloc (.cells #[.slice none 0 0, .slice none 0 0] 24)).alloc (.cells #[.slice none 0 0, .slice none 0 0] 24)) := by go_grown
  have hBx : ((w.alloc (.cells #[.slice none 0 0, .slice none 0 0] 24)).alloc (.cells #[.slice none 0 0, .slice none 0 0] 24)).heap[w.heap.size]? = some (.cells #[.slice none 0 0, .slice none 0 0] 24 (0, 0)) := by
    rw [heap_alloc_old _ _ (by simp)]; exact heap_alloc_new _ _
  have hBy : ((w.alloc (.cells #[.slice none 0 0, .slice none 0 0] 24)).alloc (.cells #[.slice none 0 0, .slice none 0 0] 24)).heap[w.heap.size + 1]? = some (.cells #[.slice none 0 0, .slice none 0 0] 24 (0, 0)) := heap_alloc2_new _ _ _
  have hsz0 : ((w.alloc (.cells #[.slice none 0 0, .slice none 0 0] 24)).alloc (.cells #[.slice none 0 0, .slice none 0 0] 24)).heap.size = w.heap.size + 2 := by simp
  have r1 := h.2.1
  have r2 := h.2.2.1
  unfold maxLen at r2
  clear h hR
  unfold rV
  go_enter Try.func18, Try.ntmps18
  go_wp2_with fail
  generalize (w.alloc (.cells #[.slice none 0 0, .slice none 0 0] 24)).alloc (.cells #[.slice none 0 0, .slice none 0 0] 24) = W0 at *
  have HA0 : Hid (RI1 w n m (.int .i64 0) W0) := ⟨hA, by omega, hBx, 0, .slice none 0 0, [], Nat.zero_le _, rfl, hBy, World.ownsRow_nil _ _ _ _, fun s hs' => by cases hs'⟩
  clear hA hBx hBy hsz0
  go_loopw [8, 9, 10] (fun i _ _ wr => Hid (RI1 w n m i wr)) (fun i _ _ _ => m - (intOf i).toNat)
  case atStart => exact HA0
  case round =>
    clear HA0
    obtain ⟨hbr, hsr, hx0, i, v, L, hi, rfl, hx1, hrow⟩ := unhide hrel
    have HBR := hide hbr
    have HX0 := hide hx0
    have HX1 := hide hx1
    have HRW := hide hrow
    have HSR := hide hsr
    clear hrel hbr hx0 hrow hsr
    by_cases hlt : i < m
    · clear hx1
      go_wp2
      rename World => wq
      go_loopw [9, 10] (fun r i' wr => Hid (Below wq.heap.size wq wr) ∧ ∃ (t : Nat) (tl : List Int), t ≤ n ∧ i' = .int .i64 t ∧ Hid (wr.ownsRow wq.heap.size 3 1 r t (intVals tl)) ∧ Hid (∀ x ∈ tl, -999 ≤ x ∧ x ≤ 999)) (fun _ i' _ => n - (intOf i').toNat)
      case atStart => exact ⟨Below.refl _ _, 0, [], Nat.zero_le _, rfl, World.ownsRow_nil _ _ _ _, fun x hx => by cases hx⟩
      case round =>
        obtain ⟨HB2, k, tl, hk, rfl, HR, HTL⟩ := hrel
        have HBB : Hid (Below w.heap.size w wr) := (unhide HBR).trans ((unhide HB2).mono (unhide HBR).size)
        by_cases hlk : k < n
        · have hmul : i * n ≤ 20 := Nat.le_trans (Nat.mul_le_mul (show i ≤ 5 by omega) n4) (by omega)
          have C1 := unhide CA wr (unhide HBB) (i * n + k) (by omega)
          have C2 := unhide CP wr (i * n + k) 15 (by omega) (by omega)
          have hpk := pkN_lt (atV l (i * n + k)) (n := 15) (by omega)
          have e1 : ((i * n + k : Nat) : Int) = (i : Int) * (n : Int) + (k : Int) := by simp
          rw [e1] at C1
          have b1 : 0 ≤ (i : Int) * (n : Int) ∧ (i : Int) * (n : Int) ≤ 20 := by
            have : ((i * n : Nat) : Int) = (i : Int) * (n : Int) := by simp
            omega
          have w1 : wrap64 ((i : Int) * (n : Int)) = (i : Int) * (n : Int) := wrap64_in _ (by omega) (by omega)
          have w2 : wrap64 ((i : Int) * (n : Int) + (k : Int)) = (i : Int) * (n : Int) + (k : Int) := wrap64_in _ (by omega) (by omega)
          have C1 := hide C1
          have C2 := hide C2
          generalize pkN (atV l (i * n + k)) 15 = pv at *
          generalize atV l (i * n + k) = av at *
          clear e1 hmul
          go_wp2_with (first
            | (go_at_call 19; refine (unhide C1).mono ?_; rintro e w4 ⟨rfl, hw4⟩; subst w4)
            | (go_at_call 17; refine (unhide C2).mono ?_; rintro e w4 ⟨rfl, hw4⟩; subst w4)
            | (at_builtin; refine wpList_append_int _ rfl _ _ rfl wq.heap.size _ _ _ rfl ((unhide HR).alloc _) wr.heap.size ((pv : Int) - 2) rfl (by simp) (by omega) (by have := (unhide HB2).size; simp; omega) ?_; intro v2 w3 ho2 hg2))
          go_roundw
          case rel =>
            have hb5 := (((Below.refl wq.heap.size wr).alloc (unhide HB2).size (.cells #[.int .i64 ((pv : Int) - 2)] 3)).grown hg2 (by have := (unhide HB2).size; simp; omega) (fun q hq => ((unhide HR).lt q hq).1))
            refine ⟨(unhide HB2).trans hb5, k + 1, tl ++ [(pv : Int) - 2], by omega, by go_num, ?_, fun x hx => ?_⟩
            · show _root_.Go.World.ownsRow _ _ _ _ _ _ _
              rw [intVals_append]
              exact ho2
            · rcases List.mem_append.1 hx with h' | h'
              · exact unhide HTL x h'
              · rw [List.mem_singleton] at h'; omega
          case measure => simp [intOf]; omega
        · obtain rfl : n = k := by omega
          obtain ⟨a2, c2, hv2, hI2, hlo⟩ := Ints.of_owns (unhide HR) (by omega)
          have hT2 := T3.of_owns (by rw [hv2] at HR; exact unhide HR)
          subst hv2
          obtain ⟨S, hS⟩ : ∃ S : Sl, S = ⟨a2, n, c2, tl⟩ := ⟨_, rfl⟩
          have hbA : Below wr.heap.size wr (wr.alloc (.cells #[.slice a2 n c2] 25)) := by go_grown
          have hbqA : Below wq.heap.size wq (wr.alloc (.cells #[.slice a2 n c2] 25)) := (unhide HB2).trans (hbA.mono (unhide HB2).size)
          have hX1 := ((unhide HB2).block (w.heap.size + 1) (by have := unhide HSR; omega)).trans (unhide HX1)
          obtain ⟨c1, f1⟩ := cell_in' hX1 1
          simp at c1
          have hsq := (unhide HB2).size
          have HOX := hide (unhide HRW |>.later hbqA)
          have HX := hide (show Lsts (wr.alloc (.cells #[.slice a2 n c2] 25)) (some ⟨wr.heap.size, 0, none⟩) 1 1 [S] from by rw [hS]; exact lsts_one (s := ⟨a2, n, c2, tl⟩) (by simp) (hI2.later hbA))
          have HNX : Hid (∀ (w3 : World) (v3 : Value), w3.ownsRow (w.heap.size + 2) 25 1 v3 (i + 1) (slVals (L ++ [S])) → (wr.alloc (.cells #[.slice a2 n c2] 25)).grownBy w3 v.ownBlock → w3.cell? ⟨w.heap.size + 1, 1, none⟩ = some v ∧ w3.frozen? ⟨w.heap.size + 1, 1, none⟩ = false ∧ RI1 w n m (.int .i64 ((i : Int) + 1)) (w3.setCell ⟨w.heap.size + 1, 1, none⟩ v3)) := fun w3 v3 ho3 hg3 => by
            have hb3 : Below (w.heap.size + 2) (wr.alloc (.cells #[.slice a2 n c2] 25)) w3 := (Below.refl _ _).grown hg3 (by have := unhide HSR; simp; omega) (fun q hq => ((unhide HOX).1.lt q hq).1)
            have hX1' := (hb3.block (w.heap.size + 1) (by omega)).trans ((hbqA.block (w.heap.size + 1) (by have := unhide HSR; omega)).trans (unhide HX1))
            have hX0' := (hb3.block w.heap.size (by omega)).trans ((hbqA.block w.heap.size (by have := unhide HSR; omega)).trans (unhide HX0))
            have hbz : Below w.heap.size w w3 := ((unhide HBR).trans (hbqA.mono (unhide HBR).size)).trans (hb3.mono (by omega))
            have hlo2 : ∀ b o, S.la = some ⟨b, o, none⟩ → w.heap.size + 2 ≤ b := fun b o e => by
              rw [hS] at e
              rcases hlo with h0 | ⟨g, g1, g2, g3⟩
              · omega
              · rw [g3] at e
                cases e
                have := unhide HSR
                omega
            have hn3 := (unhide HOX).next (s := S) (by rw [hS]; exact hI2.later hbA) (by rw [hS]; exact hT2.later hbA) (by rw [hS]; exact ⟨rfl, unhide HTL⟩) hlo2 ho3 hg3
            have hsz3 := hb3.size
            have hsr := unhide HSR
            refine ⟨by simpa using (cell_in' hX1' 1).1, (cell_in' hX1' 1).2, hbz.setCell (p := ⟨w.heap.size + 1, 1, none⟩) (by show _ ≤ w.heap.size + 1; omega) _, by simp at hsz3 ⊢; omega, ?_, i + 1, v3, L ++ [S], by omega, by go_num, ?_, hn3.other (by omega)⟩
            · rw [Below.heap_setCell _ _ _ _ (by show _ ≠ w.heap.size + 1; omega)]; exact hX0'
            · rw [heap_setCell_same _ _ _ _ _ _ hX1']; rfl
          have HO3 := hide (unhide HOX).1
          have hszY : w.heap.size + 2 ≤ (wr.alloc (.cells #[.slice a2 n c2] 25)).heap.size := by have := unhide HSR; simp; omega
          have hne2 : ¬ w.heap.size + 1 = wr.heap.size := by have := unhide HSR; omega
          have hlt2 : w.heap.size + 1 < wr.heap.size := by have := unhide HSR; omega
          clear hX1 hI2 hT2 hlo hbA hbqA hS
          go_wp2_with (
            at_builtin
            refine wpList_append_lsts _ rfl _ _ rfl (w.heap.size + 2) _ i L rfl (unhide HO3) _ 1 1 [S] rfl (unhide HX) (by omega) hszY ?_
            intro v3 w3 ho3 hg3
            obtain ⟨q1, q2, q3⟩ := unhide HNX w3 v3 ho3 hg3
            obtain ⟨g3, cap3, hv3e⟩ := own_slice ho3 (Nat.succ_pos i)
            subst hv3e
            have HR3 := hide q3
            clear q3 ho3 hg3)
          go_roundw
          case rel => exact unhide HR3
          case measure => simp [intOf]; omega
    · obtain rfl : m = i := by omega
      obtain ⟨gK, capK, hvK⟩ := own_slice (unhide HRW).1 (by omega)
      subst hvK
      rename World => w1
      have HA3 : Hid (RI3 w w1 (.slice (some ⟨gK, 0, none⟩) m capK) n m (.int .i64 0) w1) := ⟨unhide HBR, Nat.le_refl _, unhide HX0, fun q _ _ => rfl, 0, .slice none 0 0, [], Nat.zero_le _, rfl, unhide HX1, World.ownsRow_nil _ _ _ _, fun s hs' => by cases hs'⟩
      clear hx1
      go_wp2
      go_loopw [11, 12, 13] (fun i _ _ wr => Hid (RI3 w w1 (.slice (some ⟨gK, 0, none⟩) m capK) n m i wr)) (fun i _ _ _ => n - (intOf i).toNat)
      case atStart => exact HA3
      case round =>
        clear HA3 HX0 HX1 HBR
        obtain ⟨hbr, hsr, hx0, hag, i, v, L3, hi, rfl, hx1, hrow⟩ := unhide hrel
        have HBR := hide hbr
        have HX0 := hide hx0
        have HX1 := hide hx1
        have HRL := hide hrow
        have HSS := hide hsr
        have HAG := hide hag
        clear hrel hbr hx0 hrow hsr hag
        by_cases hlt : i < n
        · clear hx1
          obtain ⟨N, hN⟩ : ∃ N : Nat, N = pkN (atV l i) 3 := ⟨_, rfl⟩
          have hN3 := pkN_lt (atV l i) (n := 3) (by omega)
          rw [← hN] at hN3
          have HN := hide hN
          obtain ⟨P, hP, P1, P2, -⟩ := div2 (x := 0) (by omega) (by omega) (show m ≤ 6 by omega)
          have HPM : Hid ((P : Int) = (2 : Int) ^ m) := by
            show _ = _
            rw [← hP, wrap_in _ (by have := pow6 (show m ≤ 6 by omega); omega) (by have := pow6 (show m ≤ 6 by omega); omega)]
          clear hN
          go_wp2
          rename World => wq
          go_loopw [12, 13] (fun r i' wr => Hid (Below wq.heap.size wq wr) ∧ ∃ (t : Nat) (tl : List Int), t ≤ N + 1 ∧ i' = .int .i64 t ∧ Hid (wr.ownsRow wq.heap.size 3 1 r t (intVals tl)) ∧ Hid (∀ x ∈ tl, 0 ≤ x ∧ x < (2 : Int) ^ m)) (fun _ i' _ => N + 1 - (intOf i').toNat)
          case atStart => exact ⟨Below.refl _ _, 0, [], Nat.zero_le _, rfl, World.ownsRow_nil _ _ _ _, fun x hx => by cases hx⟩
          case round =>
            obtain ⟨HB2, k, tl, hk, rfl, HR, HTL⟩ := hrel
            have HBB : Hid (Below w.heap.size w wr) := (unhide HBR).trans ((unhide HB2).mono (unhide HBR).size)
            have C1 := hide (unhide CA wr (unhide HBB) i (by omega))
            have C2 := unhide CP wr i 3 (by omega) (by omega)
            rw [← unhide HN] at C2
            have C2 := hide C2
            by_cases hlk : k ≤ N
            · have hd : decide ((k : Int) ≤ (N : Int)) = true := by simp; omega
              obtain ⟨y, hy⟩ : ∃ y, y = atV l (31 + 4 * i + k) := ⟨_, rfl⟩
              obtain ⟨z, hz⟩ : ∃ z : Nat, z = pkN y P := ⟨_, rfl⟩
              have hzP := pkN_lt y (n := P) (by omega)
              rw [← hz] at hzP
              have hbdr : Below wr.heap.size wr wr.drew := (Below.refl _ _).drew
              have hbal : Below wr.heap.size wr (wr.alloc (.cells #[.int .i64 (z : Int)] 3)).drew := (show Below wr.heap.size wr (wr.alloc (.cells #[.int .i64 (z : Int)] 3)) by go_grown).drew
              have C3 := unhide CA wr.drew ((unhide HBB).trans (hbdr.mono (unhide HBB).size)) (31 + 4 * i + k) (by omega)
              have C4 := unhide CP wr.drew (31 + 4 * i + k) P (by omega) (by omega)
              rw [← hy, ← hz] at C4
              rw [← hy] at C3
              have e1 : ((31 + 4 * i + k : Nat) : Int) = 31 + 4 * (i : Int) + (k : Int) := by simp
              rw [e1] at C3
              have C3 := hide C3
              have C4 := hide C4
              have HO2 := hide (owns_later (unhide HR) hbal)
              have HBAL := hide hbal
              have hszd : wq.heap.size ≤ (wr.alloc (.cells #[.int .i64 (z : Int)] 3)).drew.heap.size := Nat.le_trans (unhide HB2).size hbal.size
              have HZ : Hid ((z : Int) < (2 : Int) ^ m) := by show _ < _; rw [← unhide HPM]; omega
              have hw4 : IntKind.i64.wrap (4 * (i : Int)) = 4 * (i : Int) := wrap_in _ (by omega) (by omega)
              have hw5 : IntKind.i64.wrap (31 + 4 * (i : Int)) = 31 + 4 * (i : Int) := wrap_in _ (by omega) (by omega)
              have hw6 : IntKind.i64.wrap (31 + 4 * (i : Int) + (k : Int)) = 31 + 4 * (i : Int) + (k : Int) := wrap_in _ (by omega) (by omega)
              generalize atV l i = av at *
              clear hy hz e1 hbdr hbal
              go_wp2_with (first
                | (go_at_call 19; refine (unhide C1).mono ?_; rintro e w4 ⟨rfl, hw4⟩; subst w4)
                | (go_at_call 17; refine (unhide C2).mono ?_; rintro e w4 ⟨rfl, hw4⟩; subst w4))
              go_region_law (first
                | (refine step_at _ rfl (.tmp 57) (.tmp 62) rfl (.slice a rn c) (.int .i64 (31 + 4 * (i : Int) + (k : Int))) (.int .i64 y) (by simp [Act.eval, Act.put]) (by simp [Act.eval, Act.put]) (unhide C3) ?_)
                | (refine step_pick _ rfl (.tmp 63) (.tmp 65) rfl (.int .i64 y) (.int .i64 (P : Int)) (.int .i64 (z : Int)) (by simp [Act.eval]) (by simp [Act.eval]) (unhide C4) ?_)
                | (refine step_append_int1 _ rfl (.tmp 56) (.tmp 67) rfl wq.heap.size _ k tl (by simp [Act.eval]) (unhide HO2) wr.heap.size 1 (z : Int) (by simp [Act.eval]) (by simp) (by omega) hszd ?_; intro v2 w2 ho2 hg2 _))
              all_goals
                go_wp2_with fail
                go_roundw
                case rel =>
                  have hb5 := ((Below.refl wq.heap.size _).grown hg2 hszd (fun q hq => ((unhide HO2).lt q hq).1))
                  refine ⟨((unhide HB2).trans ((unhide HBAL).mono (unhide HB2).size)).trans hb5, k + 1, tl ++ [(z : Int)], by omega, by go_num, ho2, fun x hx => ?_⟩
                  rcases List.mem_append.1 hx with h' | h'
                  · exact unhide HTL x h'
                  · rw [List.mem_singleton] at h'; subst h'; exact ⟨by omega, unhide HZ⟩
                case measure => simp [intOf]; omega
            · obtain rfl : k = N + 1 := by omega
              have hd : decide (((N + 1 : Nat) : Int) ≤ (N : Int)) = false := by simp; omega
              generalize atV l i = av at *
              obtain ⟨a2, c2, hv2, hI2, hlo⟩ := Ints.of_owns (unhide HR) (by omega)
              have hT2 := T3.of_owns (by rw [hv2] at HR; exact unhide HR)
              subst hv2
              obtain ⟨N1, hN1⟩ : ∃ N1, N1 = N + 1 := ⟨_, rfl⟩
              rw [← hN1] at hI2 hT2 hd hlo
              rw [← hN1]
              have hN1b : 1 ≤ N1 ∧ N1 ≤ 3 := by omega
              have hgt : N < N1 := by omega
              have hgt2 : decide (N1 ≤ N) = false := by simp; omega
              have HN1 := hide hN1
              obtain ⟨S, hS⟩ : ∃ S : Sl, S = ⟨a2, N1, c2, tl⟩ := ⟨_, rfl⟩
              have hbA : Below wr.heap.size wr (wr.alloc (.cells #[.slice a2 N1 c2] 25)) := by go_grown
              have hbqA : Below wq.heap.size wq (wr.alloc (.cells #[.slice a2 N1 c2] 25)) := (unhide HB2).trans (hbA.mono (unhide HB2).size)
              have hsw := unhide HSR
              have hsq := unhide HSS
              have hsq2 := (unhide HB2).size
              have hX1 := ((unhide HB2).block (w.heap.size + 1) (by omega)).trans (unhide HX1)
              obtain ⟨c1, f1⟩ := cell_in' hX1 0
              simp at c1
              have HOX := hide (unhide HRL |>.later hbqA)
              have HX := hide (show Lsts (wr.alloc (.cells #[.slice a2 N1 c2] 25)) (some ⟨wr.heap.size, 0, none⟩) 1 1 [S] from by rw [hS]; exact lsts_one (s := ⟨a2, N1, c2, tl⟩) (by simp) (hI2.later hbA))
              have HNX : Hid (∀ (w3 : World) (v3 : Value), w3.ownsRow w1.heap.size 25 1 v3 (i + 1) (slVals (L3 ++ [S])) → (wr.alloc (.cells #[.slice a2 N1 c2] 25)).grownBy w3 v.ownBlock → w3.cell? ⟨w.heap.size + 1, 0, none⟩ = some v ∧ w3.frozen? ⟨w.heap.size + 1, 0, none⟩ = false ∧ RI3 w w1 (.slice (some ⟨gK, 0, none⟩) m capK) n m (.int .i64 ((i : Int) + 1)) (w3.setCell ⟨w.heap.size + 1, 0, none⟩ v3)) := fun w3 v3 ho3 hg3 => by
                have hb3 : Below w1.heap.size (wr.alloc (.cells #[.slice a2 N1 c2] 25)) w3 := (Below.refl _ _).grown hg3 (by simp; omega) (fun q hq => ((unhide HOX).1.lt q hq).1)
                have hX1' := (hb3.block (w.heap.size + 1) (by omega)).trans ((hbqA.block (w.heap.size + 1) (by omega)).trans (unhide HX1))
                have hX0' := (hb3.block w.heap.size (by omega)).trans ((hbqA.block w.heap.size (by omega)).trans (unhide HX0))
                have hbz : Below w.heap.size w w3 := ((unhide HBR).trans (hbqA.mono (unhide HBR).size)).trans (hb3.mono (by omega))
                have hlo2 : ∀ b o, S.la = some ⟨b, o, none⟩ → w1.heap.size ≤ b := fun b o e => by
                  rw [hS] at e
                  rcases hlo with h0 | ⟨g, g1, g2, g3⟩
                  · omega
                  · rw [g3] at e
                    cases e
                    omega
                have hn3 := (unhide HOX).next (s := S) (by rw [hS]; exact hI2.later hbA) (by rw [hS]; exact hT2.later hbA) (by rw [hS]; exact ⟨hN1b.1, by show N1 ≤ 5; omega, unhide HTL⟩) hlo2 ho3 hg3
                have hsz3 := hb3.size
                refine ⟨by simpa using (cell_in' hX1' 0).1, (cell_in' hX1' 0).2, hbz.setCell (p := ⟨w.heap.size + 1, 0, none⟩) (by show _ ≤ w.heap.size + 1; omega) _, by simp at hsz3 ⊢; omega, ?_, fun q q1 q2 => ?_, i + 1, v3, L3 ++ [S], by omega, by go_num, ?_, hn3.other (by omega)⟩
                · rw [Below.heap_setCell _ _ _ _ (by show _ ≠ w.heap.size + 1; omega)]; exact hX0'
                · rw [Below.heap_setCell _ _ _ _ (by show _ ≠ w.heap.size + 1; omega), hb3.block q q2, hbqA.block q (by omega)]; exact unhide HAG q q1 q2
                · rw [heap_setCell_same _ _ _ _ _ _ hX1']; rfl
              have HO3 := hide (unhide HOX).1
              have hszY : w1.heap.size ≤ (wr.alloc (.cells #[.slice a2 N1 c2] 25)).heap.size := by simp; omega
              have hne2 : ¬ w.heap.size + 1 = wr.heap.size := by omega
              have hlt2 : w.heap.size + 1 < wr.heap.size := by omega
              clear hX1 hI2 hT2 hlo hbA hbqA hS hN1 hsw hsq hsq2
              go_wp2_with (first
                | (go_at_call 19; refine (unhide C1).mono ?_; rintro e w4 ⟨rfl, hw4⟩; subst w4)
                | (go_at_call 17; refine (unhide C2).mono ?_; rintro e w4 ⟨rfl, hw4⟩; subst w4)
                | (
                  at_builtin
                  refine wpList_append_lsts _ rfl _ _ rfl w1.heap.size _ i L3 rfl (unhide HO3) _ 1 1 [S] rfl (unhide HX) (by omega) hszY ?_
                  intro v3 w3 ho3 hg3
                  obtain ⟨q1, q2, q3⟩ := unhide HNX w3 v3 ho3 hg3
                  obtain ⟨g3, cap3, hv3e⟩ := own_slice ho3 (Nat.succ_pos i)
                  subst hv3e
                  have HR3 := hide q3
                  clear q3 ho3 hg3))
              go_roundw
              case rel => exact unhide HR3
              case measure => simp [intOf]; omega
        · obtain rfl : n = i := by omega
          obtain ⟨g3, cap3, hv3e⟩ := own_slice (unhide HRL).1 (by omega)
          subst hv3e
          obtain ⟨d0, g0⟩ := cell_in' hx1 0
          obtain ⟨d1, g1⟩ := cell_in' hx1 1
          obtain ⟨s0, t0⟩ := cell_in' (unhide HX0) 0
          obtain ⟨s1, t1⟩ := cell_in' (unhide HX0) 1
          simp at d0 d1 s0 s1
          have hsw := unhide HSR
          have hsq := unhide HSS
          have HFX : Hid (∃ ca cc C ka kc K, Ending.returned (.agg #[.slice (some ⟨g3, 0, none⟩) n cap3, .slice (some ⟨gK, 0, none⟩) m capK]) = .returned (.agg #[.slice ca n cc, .slice ka m kc]) ∧ Lsts ((wr.setCell ⟨w.heap.size, 0, none⟩ (.slice (some ⟨g3, 0, none⟩) n cap3)).setCell ⟨w.heap.size, 1, none⟩ (.slice (some ⟨gK, 0, none⟩) m capK)) ca n cc C ∧ Lsts ((wr.setCell ⟨w.heap.size, 0, none⟩ (.slice (some ⟨g3, 0, none⟩) n cap3)).setCell ⟨w.heap.size, 1, none⟩ (.slice (some ⟨gK, 0, none⟩) m capK)) ka m kc K ∧ Rds C K n m ∧ Below w.heap.size w ((wr.setCell ⟨w.heap.size, 0, none⟩ (.slice (some ⟨g3, 0, none⟩) n cap3)).setCell ⟨w.heap.size, 1, none⟩ (.slice (some ⟨gK, 0, none⟩) m capK))) := by
            have hRC := ((unhide HRL).other (g := w.heap.size) (o := 0) (u := .slice (some ⟨g3, 0, none⟩) n cap3) (by omega)).other (g := w.heap.size) (o := 1) (u := .slice (some ⟨gK, 0, none⟩) m capK) (by omega)
            have hRK := (((unhide HRW).moved hsq (unhide HAG)).other (g := w.heap.size) (o := 0) (u := .slice (some ⟨g3, 0, none⟩) n cap3) (by omega)).other (g := w.heap.size) (o := 1) (u := .slice (some ⟨gK, 0, none⟩) m capK) (by omega)
            obtain ⟨ca, cc, e1, hLC⟩ := hRC.lsts
            obtain ⟨ka, kc, e2, hLK⟩ := hRK.lsts
            refine ⟨ca, cc, L3, ka, kc, L, by rw [e1, e2], hLC, hLK, rds_made hLC hLK (fun s hs => (hRC.2 s hs).2.2.1) (fun s hs => (hRK.2 s hs).2.2.1) n1 (by omega) (by omega), ((unhide HBR).setCell (p := ⟨w.heap.size, 0, none⟩) (Nat.le_refl _) _).setCell (p := ⟨w.heap.size, 1, none⟩) (Nat.le_refl _) _⟩
          have HY0 := HX0
          clear hx1 hsw hsq
          go_wp2_with fail
          have hr : ((wr.setCell ⟨w.heap.size, 0, none⟩ (.slice (some ⟨g3, 0, none⟩) n cap3)).setCell ⟨w.heap.size, 1, none⟩ (.slice (some ⟨gK, 0, none⟩) m capK)).heap[w.heap.size]? = some (.cells #[.slice (some ⟨g3, 0, none⟩) n cap3, .slice (some ⟨gK, 0, none⟩) m capK] 24 (0, 0)) := by
            rw [heap_setCell_same _ _ _ _ _ _ (heap_setCell_same _ _ _ _ _ _ (unhide HY0))]; rfl
          (try simp only [Exit.inBlock, Exit.then])
          refine bodyPost_ret (results_cell_row rfl _ _ w.heap.size 24 _ (0, 0) _ rfl hr Try.underlying24 rfl (by show _ = some 2; kernel_rfl)) rfl ?_
          exact unhide HFX
end Go.Proofs.Ytcannknicfnkdaa
