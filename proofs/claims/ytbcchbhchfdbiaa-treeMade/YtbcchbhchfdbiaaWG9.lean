import Derived.Test.YtbcchbhchfdbiaaWBV
namespace Go.Proofs.Ytbcchbhchfdbiaa
open Go.RowKit Go.Shelf
attribute [local go_sem] Oper.semAt_some
open Classical in
noncomputable def payQ (L : List Nd) (n : Nat) (k : Nat) (q : List Int) : Int := if h : ∃ ge : Nat → Sl, ∃ ch, Done L n 0 (CHC q) (kd L) ch ge then nth ((Classical.choose h) 0).ints k else 0
def comb (L : List Nd) (n : Nat) (r c : List Int) : List Int := lF n (fun x => if (ndAt L x).pl = 0 then nth r x else nth c x)
section
variable {P n : Nat} {L : List Nd}
theorem payQ_eq (hT : GT P n L (kd L)) {q : List Int} {ch : Nat → Int} {ge : Nat → Sl} (hD : Done L n 0 (CHC q) (kd L) ch ge) (k : Nat) : payQ L n k q = nth (ge 0).ints k := by
  have h : ∃ ge : Nat → Sl, ∃ ch, Done L n 0 (CHC q) (kd L) ch ge := ⟨ge, ch, hD⟩
  unfold payQ
  rw [dif_pos h]
  obtain ⟨ch', hd'⟩ := Classical.choose_spec h
  exact congrFun (Sett.uniq (done_c hT hd') (done_c hT hD) 0 (by have := hT.n1; exact this)) k
theorem done_swap {q q' : List Int} {ch : Nat → Int} {ge : Nat → Sl} (hD : Done L n 0 (CHC q) (kd L) ch ge) (e : ∀ x, x < n → 0 < (ndAt L x).k.ln → nth q x = nth q' x) : Done L n 0 (CHC q') (kd L) ch ge := by
  intro j h0 hj
  refine ⟨(hD j h0 hj).1, fun hk => ?_⟩
  obtain ⟨v, v1, v2, v3, v4⟩ := (hD j h0 hj).2 hk
  exact ⟨v, v1, v2, by unfold CHC at v3 ⊢; rw [← e j hj hk]; exact v3, v4⟩
theorem payQ_same (hT : GT P n L (kd L)) {q q' : List Int} (hc : ChOk L n q) (e : ∀ x, x < n → 0 < (ndAt L x).k.ln → nth q x = nth q' x) (k : Nat) : payQ L n k q = payQ L n k q' := by
  obtain ⟨ch, ge, hD⟩ := done_q hT hc
  rw [payQ_eq hT hD, payQ_eq hT (done_swap hD e)]
theorem comb_at {r c : List Int} {x : Nat} (hx : x < n) : nth (comb L n r c) x = if (ndAt L x).pl = 0 then nth r x else nth c x := lF_at hx
theorem comb_ok {r c : List Int} (hr : ChOk L n r) (hc : ChOk L n c) : ChOk L n (comb L n r c) := by
  intro j hj
  rw [comb_at hj]
  split
  · exact hr j hj
  · exact hc j hj
/-- Two rows of ways, side by side. -/
def Rl (L : List Nd) (N : Nat) (D : Nat → Prop) (r : List Int) (p : List Int × List Int) : Prop := p.1.length = N ∧ p.2.length = N ∧ ∀ x, (D x → WM L 1 x → nth p.1 x = nth p.2 x) ∧ (¬ (D x ∧ WM L 1 x) → nth p.1 x = nth r x)
theorem wy_zip {N : Nat} {r : List Int} : ∀ (U : List Nat) (D : Nat → Prop) (Z : List (List Int × List Int)), (∀ x ∈ U, x < N) → (∀ p ∈ Z, Rl L N D r p) → ∃ Z' : List (List Int × List Int), U.foldl (fun out x => wyS L 1 x out) (Z.map (·.1)) = Z'.map (·.1) ∧ U.foldl (fun out x => wyS L 1 x out) (Z.map (·.2)) = Z'.map (·.2) ∧ ∀ p ∈ Z', Rl L N (fun x => D x ∨ x ∈ U) r p
  | [], D, Z, _, h => ⟨Z, rfl, rfl, fun p hp => by
    have := h p hp
    refine ⟨this.1, this.2.1, fun x => ⟨fun hd hm => ?_, fun hn => ?_⟩⟩
    · rcases hd with hd | hd
      · exact (this.2.2 x).1 hd hm
      · cases hd
    · exact (this.2.2 x).2 (fun q => hn ⟨.inl q.1, q.2⟩)⟩
  | y :: U, D, Z, hU, h => by
    have hy := hU y (List.mem_cons_self ..)
    by_cases e : WM L 1 y
    · have hz1 : wyS L 1 y (Z.map (·.1)) = (Z.flatMap (fun p => (List.range (ndAt L y).k.ln).map (fun (t : Nat) => (p.1.set y (t : Int), p.2.set y (t : Int))))).map (·.1) := by
        rw [wyS_yes e, List.map_flatMap, List.flatMap_map]
        congr 1
        funext p
        unfold setsL
        rw [List.map_map]
        rfl
      have hz2 : wyS L 1 y (Z.map (·.2)) = (Z.flatMap (fun p => (List.range (ndAt L y).k.ln).map (fun (t : Nat) => (p.1.set y (t : Int), p.2.set y (t : Int))))).map (·.2) := by
        rw [wyS_yes e, List.map_flatMap, List.flatMap_map]
        congr 1
        funext p
        unfold setsL
        rw [List.map_map]
        rfl
      obtain ⟨Z', h1, h2, h3⟩ := wy_zip (N := N) (r := r) U (fun x => D x ∨ x = y) (Z.flatMap (fun p => (List.range (ndAt L y).k.ln).map (fun (t : Nat) => (p.1.set y (t : Int), p.2.set y (t : Int))))) (fun x hx => hU x (List.mem_cons_of_mem _ hx)) (fun p hp => by
        obtain ⟨p0, hp0, hp1⟩ := List.mem_flatMap.1 hp
        obtain ⟨t, ht, rfl⟩ := List.mem_map.1 hp1
        have := h p0 hp0
        refine ⟨by simp [this.1], by simp [this.2.1], fun x => ?_⟩
        dsimp only
        rw [nth_setI (by rw [this.1]; exact hy), nth_setI (by rw [this.2.1]; exact hy)]
        by_cases ex : x = y
        · subst ex
          rw [if_pos rfl, if_pos rfl]
          exact ⟨fun _ _ => rfl, fun hn => absurd ⟨.inr rfl, e⟩ hn⟩
        · rw [if_neg ex, if_neg ex]
          exact ⟨fun hd hm => (this.2.2 x).1 (hd.resolve_right ex) hm, fun hn => (this.2.2 x).2 (fun q => hn ⟨.inl q.1, q.2⟩)⟩)
      refine ⟨Z', by rw [List.foldl_cons, hz1]; exact h1, by rw [List.foldl_cons, hz2]; exact h2, fun p hp => ?_⟩
      have := h3 p hp
      refine ⟨this.1, this.2.1, fun x => ⟨fun hd hm => (this.2.2 x).1 ?_ hm, fun hn => (this.2.2 x).2 (fun q => hn ⟨?_, q.2⟩)⟩⟩
      · rcases hd with hd | hd
        · exact .inl (.inl hd)
        · rcases List.mem_cons.1 hd with hd | hd
          · exact .inl (.inr hd)
          · exact .inr hd
      · rcases q.1 with (hd | hd) | hd
        · exact .inl hd
        · exact .inr (by rw [hd]; exact List.mem_cons_self ..)
        · exact .inr (List.mem_cons_of_mem _ hd)
    · obtain ⟨Z', h1, h2, h3⟩ := wy_zip U D Z (fun x hx => hU x (List.mem_cons_of_mem _ hx)) h
      refine ⟨Z', by rw [List.foldl_cons, wyS_no e]; exact h1, by rw [List.foldl_cons, wyS_no e]; exact h2, fun p hp => ?_⟩
      have := h3 p hp
      refine ⟨this.1, this.2.1, fun x => ⟨fun hd hm => (this.2.2 x).1 ?_ hm, fun hn => (this.2.2 x).2 (fun q => hn ⟨q.1.imp id (List.mem_cons_of_mem _), q.2⟩)⟩⟩
      rcases hd with hd | hd
      · exact .inl hd
      · rcases List.mem_cons.1 hd with hd | hd
        · subst hd; exact absurd hm e
        · exact .inr hd
theorem zero_ok : ChOk L n (lF n (fun _ => 0)) := fun j hj => by rw [lF_at hj]; exact ⟨Int.le_refl _, .inl rfl⟩
/-- One row of both tables. -/
theorem row_same (hT : GT 2 n L (kd L)) {r : List Int} (hr : ChOk L n r) (hl : r.length = n) (k : Nat) :
    (wyL L 1 (lF n (fun _ => 0)) (List.range n)).map (fun c => payQ L n k (comb L n r c)) = (wyL L 1 r (List.range n)).map (payQ L n k) := by
  obtain ⟨Z, h1, h2, h3⟩ := wy_zip (L := L) (N := n) (r := r) (List.range n) (fun _ => False) [(r, lF n (fun _ => 0))] (fun x hx => List.mem_range.1 hx) (fun p hp => by
    rw [List.mem_singleton] at hp
    subst hp
    exact ⟨hl, lF_len n _, fun x => ⟨fun q => absurd q (fun z => z), fun _ => rfl⟩⟩)
  have e1 : wyL L 1 r (List.range n) = Z.map (·.1) := h1
  have e2 : wyL L 1 (lF n (fun _ => 0)) (List.range n) = Z.map (·.2) := h2
  rw [e1, e2, List.map_map, List.map_map]
  refine List.map_congr_left (fun p hp => ?_)
  have hq := h3 p hp
  have hc2 : ChOk L n p.2 := way_ok zero_ok (wy_ok (L := L) (who := 1) (U := List.range n) (fun x hx => by rw [lF_len]; exact List.mem_range.1 hx) p.2 (by rw [e2]; exact List.mem_map.2 ⟨p, hp, rfl⟩))
  refine payQ_same hT (comb_ok hr hc2) (fun x hx hk => ?_) k
  rw [comb_at hx]
  have hm := hT.mover x hx hk
  by_cases e : (ndAt L x).pl = 0
  · rw [if_pos e, (hq.2.2 x).2 (fun q => by have := q.2.1; omega)]
  · rw [if_neg e, (hq.2.2 x).1 (.inr (List.mem_range.2 hx)) ⟨by omega, hk⟩]
end
end Go.Proofs.Ytbcchbhchfdbiaa
namespace Go.Proofs.Ytbcchbhchfdbiaa
open Go.RowKit Go.Shelf
attribute [local go_sem] Oper.semAt_some
theorem wpList_append_int1 (w : World) {ops : Array Oper} {rest : List Oper} {o : Oper} {a : Act} {Q : Exit → Act → World → Prop} (hgd : o.guard = none) (s x : Operand)
    (ho : o.op = .call { callee := .builtin .append, args := #[s, x], argTypes := #[25, 25] })
    (base : Nat) (v : Value) (n : Nat) (xs : List Int) (hs : a.eval s = v) (hown : w.ownsRow base 3 1 v n (intVals xs))
    (g c : Nat) (y : Int) (hx : a.eval x = .slice (some ⟨g, 0, none⟩) 1 c) (hc : w.cell? ⟨g, 0, none⟩ = some (.int .i64 y))
    (hsm : n ≤ 1000) (hbase : base ≤ w.heap.size)
    (hK : ∀ v' w', w'.ownsRow base 3 1 v' (n + 1) (intVals (xs ++ [y])) → w.grownBy w' v.ownBlock → (v'.ownBlock = v.ownBlock ∨ v'.ownBlock = some w.heap.size) → wpList Try.prog ops Q rest (a.put o.dst v') w') : wpList Try.prog ops Q (o :: rest) a w :=
  wpList_plain hgd fun _ hk => by
    obtain ⟨v', w', hr, h2, h3, h4⟩ := run_append_int1 w o.type base v n xs hown g c y hc (by omega) hbase
    unfold Oper.wp execOp
    simp only [ho, resolve, invoke, builtin, Sem.run_bind, Sem.run_pure, Result.andThen_ok, List.map_toArray, List.map_cons, List.map_nil, hs, hx, hr]
    refine hk _ _ (hK v' w' h2 h3 ?_)
    rcases h4 with ⟨g, cap, e1, e2⟩ | ⟨e, -⟩
    · left; rw [e1, e2]; rfl
    · exact .inr e
theorem wpList_append_one (w : World) {ops : Array Oper} {rest : List Oper} {o : Oper} {a : Act} {Q : Exit → Act → World → Prop} (hgd : o.guard = none) (sx x : Operand)
    (ho : o.op = .call { callee := .builtin .append, args := #[sx, x], argTypes := #[53, 53] })
    (base : Nat) (v : Value) (n : Nat) (xs : List Sl) (hs : a.eval sx = v) (hown : w.ownsRow base 25 1 v n (slVals xs))
    (g c : Nat) (s : Sl) (hx : a.eval x = .slice (some ⟨g, 0, none⟩) 1 c) (hc : w.cell? ⟨g, 0, none⟩ = some (.slice s.la s.ln s.lc))
    (hsm : n ≤ 1000) (hbase : base ≤ w.heap.size)
    (hK : ∀ v' w', w'.ownsRow base 25 1 v' (n + 1) (slVals (xs ++ [s])) → w.grownBy w' v.ownBlock → (v'.ownBlock = v.ownBlock ∨ v'.ownBlock = some w.heap.size) → wpList Try.prog ops Q rest (a.put o.dst v') w') : wpList Try.prog ops Q (o :: rest) a w :=
  wpList_plain hgd fun _ hk => by
    obtain ⟨v', w', hr, h2, h3, h4⟩ := run_append_one w o.type base v n xs hown g c s hc (by omega) hbase
    unfold Oper.wp execOp
    simp only [ho, resolve, invoke, builtin, Sem.run_bind, Sem.run_pure, Result.andThen_ok, List.map_toArray, List.map_cons, List.map_nil, hs, hx, hr]
    exact hk _ _ (hK v' w' h2 h3 h4)
/-- Two rows, in blocks of their own. -/
def Ap (va vb : Value) : Prop := vb.ownBlock = none ∨ vb.ownBlock ≠ va.ownBlock
theorem Ap.sym {va vb : Value} (h : Ap va vb) : Ap vb va := by
  unfold Ap at *
  rcases hv : va.ownBlock with _ | q
  · exact .inl rfl
  · right
    rcases h with h | h
    · rw [h]; exact fun e => by cases e
    · rw [hv] at h; exact fun e => h e.symm
theorem Ap.next {w : World} {base e sz k : Nat} {va va' vb : Value} {xs : List Value} (h : Ap va vb) (hb : w.ownsRow base e sz vb k xs) (h' : va'.ownBlock = va.ownBlock ∨ va'.ownBlock = some w.heap.size) : Ap va' vb := by
  rcases h' with h' | h'
  · unfold Ap at *; rw [h']; exact h
  · unfold Ap
    rcases hv : vb.ownBlock with _ | q
    · exact .inl rfl
    · right
      rw [h']
      intro e
      cases e
      have := (hb.lt _ hv).2
      omega
theorem upTo_any (n : Nat) (n40 : n ≤ 40) (w : World) : Calls Try.prog 55 #[.int .i64 (n : Int)] w fun e w' => ∃ v, e = .returned v ∧ w'.ownsRow w.heap.size 3 1 v n (intVals (upI (List.range n))) ∧ Below w.heap.size w w' := by
  go_enter Try.func55, Try.ntmps55
  go_wp2_with fail
  go_loopw [3, 4] (fun v i wr => Hid (Below w.heap.size w wr) ∧ ∃ k : Nat, k ≤ n ∧ i = .int .i64 (k : Int) ∧ Hid (wr.ownsRow w.heap.size 3 1 v k (intVals (upI (List.range k))))) (fun _ i _ => n - (intOf i).toNat)
  case atStart => exact ⟨Below.refl _ _, 0, Nat.zero_le _, rfl, World.ownsRow_nil _ _ _ _⟩
  case round =>
    obtain ⟨HBr, k, hk, rfl, HO⟩ := hrel
    by_cases hlt : k < n
    · go_wp2_with (at_builtin; refine wpList_append_int1 _ rfl _ _ rfl w.heap.size _ _ _ rfl ((unhide HO).alloc _) wr.heap.size 1 (k : Int) rfl (by simp) (by omega) (by have := (unhide HBr).size; simp; omega) ?_; intro v2 w3 ho2 hg2 _)
      go_roundw
      case rel =>
        have hb5 := (((Below.refl w.heap.size wr).alloc (unhide HBr).size (.cells #[.int .i64 (k : Int)] 3)).grown hg2 (by have := (unhide HBr).size; simp; omega) (fun q hq => ((unhide HO).lt q hq).1))
        refine ⟨(unhide HBr).trans hb5, k + 1, by omega, by go_num, ?_⟩
        show _root_.Go.World.ownsRow _ _ _ _ _ _ _
        rw [List.range_succ, upI_app]
        exact ho2
      case measure => simp [intOf]; omega
    · obtain rfl : n = k := by omega
      have HF : Hid (∃ v, Ending.returned u3 = .returned v ∧ wr.ownsRow w.heap.size 3 1 v n (intVals (upI (List.range n))) ∧ Below w.heap.size w wr) := ⟨u3, rfl, unhide HO, unhide HBr⟩
      go_wp2
      go_ret
      exact unhide HF
end Go.Proofs.Ytbcchbhchfdbiaa
namespace Go.Proofs.Ytbcchbhchfdbiaa
open Go.RowKit Go.Shelf
theorem own25_other {w : World} {base n g o : Nat} {v u : Value} {xs : List Value} (h : w.ownsRow base 25 1 v n xs) (hg : g < base) : (w.setCell ⟨g, o, none⟩ u).ownsRow base 25 1 v n xs := by
  refine ⟨h.1, ?_⟩
  rcases h.2 with e | ⟨g', cap, cur, e, hb, hh, h1, h2, h3, h4⟩
  · exact .inl e
  · refine .inr ⟨g', cap, cur, e, hb, ?_, h1, h2, h3, h4⟩
    rw [Below.heap_setCell _ _ _ _ (by show _ ≠ g; omega)]
    exact hh
/-- A slice of ints, in a block of ints. -/
def In3 (w : World) (s : Sl) : Prop := Ints w s.la s.ln s.lc s.ints ∧ T3 w s.la s.ln
theorem In3.later {w w' : World} {s : Sl} (h : In3 w s) (hb : Below w.heap.size w w') : In3 w' s := ⟨h.1.later hb, h.2.later hb⟩
theorem In3.set71 {w : World} {g o : Nat} {u : Value} {cs : Array Value} {fz : Nat × Nat} {s : Sl} (h : In3 w s) (hg : w.heap[g]? = some (.cells cs 71 fz)) : In3 (w.setCell ⟨g, o, none⟩ u) s := by
  rcases h.2 with h0 | ⟨b, off, arr, f3, e, hb⟩
  · exact ⟨⟨h.1.1, h.1.2.1, h.1.2.2.1, .inl h0⟩, .inl h0⟩
  · have hne : ∀ b' o', s.la = some ⟨b', o', none⟩ → b' ≠ g := fun b' o' e' q => by
      rw [e] at e'
      cases e'
      subst q
      rw [hb] at hg
      cases hg
    exact ⟨Ints.other h.1 hne, h.2.other hne⟩
theorem RowL.set71 {lo : Nat} {w : World} {g o : Nat} {u v : Value} {cs : Array Value} {fz : Nat × Nat} {k : Nat} {ML : List Sl} (h : RowL lo w v k ML) (hg : w.heap[g]? = some (.cells cs 71 fz)) (hl : g < lo) : RowL lo (w.setCell ⟨g, o, none⟩ u) v k ML :=
  ⟨own25_other h.1 hl, fun s hs => In3.set71 (s := s) (h.2 s hs) hg⟩
/-- One list more onto one of two rows. -/
theorem tab_next {lo g : Nat} {w w' : World} {vA vA' vB : Value} {i k : Nat} {AL BL : List Sl} {SA SB : Sl} {C : Obj} {cs : Array Value} {fz : Nat × Nat} (hA : RowL lo w vA i AL) (hB : RowL lo w vB k BL) (hap : Ap vA vB) (hlo : lo ≤ w.heap.size) (hSA : In3 w SA) (hSB : In3 w SB) (hgl : g < lo) (hg0 : w.heap[g]? = some (.cells cs 71 fz))
    (ho : w'.ownsRow lo 25 1 vA' (i + 1) (slVals (AL ++ [SA]))) (hg : (w.alloc C).grownBy w' vA.ownBlock) (h' : vA'.ownBlock = vA.ownBlock ∨ vA'.ownBlock = some (w.alloc C).heap.size) :
    RowL lo w' vA' (i + 1) (AL ++ [SA]) ∧ RowL lo w' vB k BL ∧ Ap vA' vB ∧ In3 w' SB ∧ Below lo w w' ∧ w'.heap[g]? = some (.cells cs 71 fz) := by
  have hbC : Below w.heap.size w (w.alloc C) := by go_grown
  have hA1 := hA.later hbC
  have hB1 := hB.later hbC
  have hbw : Below lo (w.alloc C) w' := (Below.refl lo _).grown hg (by have := hbC.size; omega) (fun q hq => (hA1.1.lt q hq).1)
  have hbb := (hbC.mono hlo).trans hbw
  refine ⟨hA1.next (hSA.1.later hbC) (hSA.2.later hbC) ho hg, ⟨hB1.1.kept hg hap, fun s hs => ?_⟩, hap.next hB1.1 h', ?_, hbb, (hbb.block g hgl).trans hg0⟩
  · have := (hB1.2 s hs).2.grown (hB1.2 s hs).1 hA1.1 hg
    exact ⟨this.2, this.1⟩
  · have := (hSB.2.later hbC).grown (hSB.1.later hbC) hA1.1 hg
    exact ⟨this.2, this.1⟩
/-- One int more onto one of two rows. -/
theorem ints_next {lo : Nat} {w w' : World} {va va' vb : Value} {i k : Nat} {A B : List Int} {C : Obj} (hA : w.ownsRow lo 3 1 va i (intVals A)) (hB : w.ownsRow lo 3 1 vb k (intVals B)) (hap : Ap va vb) (hlo : lo ≤ w.heap.size)
    (hg : (w.alloc C).grownBy w' va.ownBlock) (h' : va'.ownBlock = va.ownBlock ∨ va'.ownBlock = some (w.alloc C).heap.size) : w'.ownsRow lo 3 1 vb k (intVals B) ∧ Ap va' vb ∧ Below lo w w' := by
  have hbC : Below w.heap.size w (w.alloc C) := by go_grown
  have hA1 := owns_later hA hbC
  have hB1 := owns_later hB hbC
  have hbw : Below lo (w.alloc C) w' := (Below.refl lo _).grown hg (by have := hbC.size; omega) (fun q hq => (hA1.lt q hq).1)
  exact ⟨hB1.kept hg hap, hap.next hB1 h', (hbC.mono hlo).trans hbw⟩
theorem map_take {f : List Int → Int} {l : List (List Int)} {j : Nat} {x : List Int} (h : l[j]? = some x) : (l.take (j + 1)).map f = (l.take j).map f ++ [f x] := by rw [takeL_snoc h, List.map_append]; rfl
theorem mapL_take {f : List Int → List Int} {l : List (List Int)} {j : Nat} {x : List Int} (h : l[j]? = some x) : (l.take (j + 1)).map f = (l.take j).map f ++ [f x] := by rw [takeL_snoc h, List.map_append]; rfl
end Go.Proofs.Ytbcchbhchfdbiaa
namespace Go.Proofs.Ytbcchbhchfdbiaa
open Go.RowKit Go.Shelf
attribute [local go_sem] Oper.semAt_some
theorem results_row_tmp {fn : Func} {p : Tmp} {ty : TypeId} {u : Tmp} (h : fn.results = #[.cell p ty, .tmp u]) (tmps : Array Value) (P : Program) (w : World) (g : Nat) (cs : Array Value)
    (hp : tmps.getD p undef = .pointer (some ⟨g, 0, none⟩)) (hl : (loadVar ty ⟨g, 0, none⟩).run P w = .ok (.agg cs) w) :
    (results fn tmps).run P w = .ok (.tuple #[.agg cs, tmps.getD u undef]) w := by
  have hp' : tmps[p]?.getD undef = .pointer (some ⟨g, 0, none⟩) := by simpa using hp
  simp [results, h, hp', asAddr, hl]
open Classical in
noncomputable def nmE (P : Int) (n : Nat) (L : List Nd) : Int := if tmE P n L ≠ 0 then tmE P n L else if P ≠ 2 then 7 else if prW L 0 (List.range n) ≤ 5 ∧ prW L 1 (List.range n) ≤ 5 then 0 else 2
theorem nmE_t {P : Int} {n : Nat} {L : List Nd} (h : tmE P n L ≠ 0) : nmE P n L = tmE P n L := by unfold nmE; rw [if_pos h]
theorem nmE_7 {P : Int} {n : Nat} {L : List Nd} (h : tmE P n L = 0) (h2 : P ≠ 2) : nmE P n L = 7 := by unfold nmE; rw [if_neg (fun q => q h), if_pos h2]
theorem nmE_2 {n : Nat} {L : List Nd} (h : tmE 2 n L = 0) (h2 : ¬ (prW L 0 (List.range n) ≤ 5 ∧ prW L 1 (List.range n) ≤ 5)) : nmE 2 n L = 2 := by unfold nmE; rw [if_neg (fun q => q h), if_neg (fun q => q rfl), if_neg h2]
theorem nmE_0 {n : Nat} {L : List Nd} (h : tmE 2 n L = 0) (h2 : prW L 0 (List.range n) ≤ 5 ∧ prW L 1 (List.range n) ≤ 5) : nmE 2 n L = 0 := by unfold nmE; rw [if_neg (fun q => q h), if_neg (fun q => q rfl), if_pos h2]
noncomputable def nmT (P : Int) (n : Nat) (L : List Nd) (k : Nat) : List (List Int) := if nmE P n L = 0 then (wyL L 0 (lF n (fun _ => 0)) (List.range n)).map (fun r => (wyL L 1 r (List.range n)).map (payQ L n k)) else []
theorem nmT_no {P : Int} {n : Nat} {L : List Nd} {k : Nat} (h : nmE P n L ≠ 0) : nmT P n L k = [] := by unfold nmT; rw [if_neg h]
theorem nmT_yes {P : Int} {n : Nat} {L : List Nd} {k : Nat} (h : nmE P n L = 0) : nmT P n L k = (wyL L 0 (lF n (fun _ => 0)) (List.range n)).map (fun r => (wyL L 1 r (List.range n)).map (payQ L n k)) := by unfold nmT; rw [if_pos h]
/-- What Normal answers. -/
def NormP (w : World) (P : Int) (n : Nat) (L : List Nd) (e : Ending) (w' : World) : Prop :=
  Below w.heap.size w w' ∧ ∃ Aa am ac AL Ba bm bc BL, e = .returned (.tuple #[.agg #[.slice Aa am ac, .slice Ba bm bc], .int .i64 (nmE P n L)]) ∧ Lsts w' Aa am ac AL ∧ Lsts w' Ba bm bc BL ∧ lists AL = nmT P n L 0 ∧ lists BL = nmT P n L 1
theorem lsts_nil (w : World) : Lsts w none 0 0 [] := ⟨rfl, Nat.le_refl _, by unfold maxLen; omega, fun s hs => (by cases hs), .inl rfl⟩
theorem norm_err {w w' : World} {P : Int} {n : Nat} {L : List Nd} (hb : Below w.heap.size w w') (h : nmE P n L ≠ 0) : NormP w P n L (.returned (.tuple #[.agg #[.slice none 0 0, .slice none 0 0], .int .i64 (nmE P n L)])) w' :=
  ⟨hb, none, 0, 0, [], none, 0, 0, [], rfl, lsts_nil w', lsts_nil w', by rw [nmT_no h]; rfl, by rw [nmT_no h]; rfl⟩
/-- The box of the tree, and that of the result. -/
theorem nbox {w : World} (P : Int) (a : Option Addr) (n c : Nat) : ∃ W, (w.alloc (.cells #[.int .i64 P, .slice a n c] 24)).alloc (.cells #[.slice none 0 0, .slice none 0 0] 71) = W ∧ Below w.heap.size w W ∧ W.heap.size = w.heap.size + 2 ∧ (∀ wr, Below W.heap.size W wr → wr.cell? ⟨w.heap.size, 0, none⟩ = some (.int .i64 P) ∧ wr.cell? ⟨w.heap.size, 1, none⟩ = some (.slice a n c) ∧ wr.heap[w.heap.size + 1]? = some (.cells #[.slice none 0 0, .slice none 0 0] 71 (0, 0))) := by
  obtain ⟨W, hW, hb0, hs, hc⟩ := tbox (w := w) P a n c
  rw [hW]
  have e : W.heap.size = w.heap.size + 1 := by rw [← hW]; simp
  refine ⟨_, rfl, hb0.trans ((by go_grown : Below W.heap.size W _).mono hb0.size), by simp; omega, fun wr hb => ?_⟩
  have hw : Below W.heap.size W (W.alloc (.cells #[.slice none 0 0, .slice none 0 0] 71)) := by go_grown
  obtain ⟨c0, c1⟩ := hc wr (hw.trans (hb.mono hw.size))
  refine ⟨c0, c1, ?_⟩
  rw [hb.block (w.heap.size + 1) (by simp; omega), ← e]
  exact World.alloc_heap_new _ _
theorem mul_wrap {m k : Nat} (h : m * k ≤ 25) : wrap64 ((m : Int) * (k : Int)) = ((m * k : Nat) : Int) := by
  have e : ((m * k : Nat) : Int) = (m : Int) * (k : Int) := by simp
  rw [← e]
  exact wrap64_in _ (by omega) (by omega)
theorem mul_wrap2 {m k : Nat} (h : m * k ≤ 25) : IntKind.i64.wrap ((m : Int) * (k : Int)) = (m : Int) * (k : Int) := by
  have e : ((m * k : Nat) : Int) = (m : Int) * (k : Int) := by simp
  rw [← e]
  exact wrap_in _ (by omega) (by omega)
theorem over2 {wr : World} {g : Nat} {x y x' y' : Value} {t : TypeId} (h : wr.heap[g]? = some (.cells #[x, y] t (0, 0))) :
    ((wr.setCell ⟨g, 0, none⟩ x').setCell ⟨g, 1, none⟩ y').heap[g]? = some (.cells #[x', y'] t (0, 0)) := by
  rw [heap_setCell_same _ _ _ _ _ _ (heap_setCell_same _ _ _ _ _ _ h)]; rfl
end Go.Proofs.Ytbcchbhchfdbiaa
namespace Go.Proofs.Ytbcchbhchfdbiaa
open Go.RowKit Go.Shelf
set_option maxRecDepth 100000 in
set_option maxHeartbeats 2000000 in
/-- What the plan of whose turn it is says. -/
theorem normal1_any (n c b off g T : Nat) (L : List Nd) (ra ca : Option Addr) (rc cc : Nat) (r q : List Int) (i : Nat) (hi : i < n) (w : World) (hx : w.cell? ⟨T, 1, none⟩ = some (.slice (some ⟨b, off, none⟩) n c)) (_hn : n ≤ 40) (_hc : n ≤ c) (_hm : c ≤ 9223372036854775807)
    (c0 : w.cell? ⟨b, off + i * 3, none⟩ = some (.int .i64 (ndAt L i).pl)) (hpl : (ndAt L i).pl = 0 ∨ (ndAt L i).pl = 1) (hp0 : w.cell? ⟨g, 0, none⟩ = some (.slice ra n rc)) (hp1 : w.cell? ⟨g, 1, none⟩ = some (.slice ca n cc)) (hr : Ints w ra n rc r) (hq : Ints w ca n cc q) :
    Calls Try.prog 54 #[.int .i64 (i : Int), .pointer (some ⟨g, 0, none⟩), .pointer (some ⟨T, 0, none⟩)] w fun e w' => e = .returned (.int .i64 (nth (comb L n r q) i)) ∧ w' = w := by
  rw [comb_at hi]
  rcases hpl with e | e
  · rw [if_pos e]
    rw [e] at c0
    obtain ⟨h1, h2, h3, h4⟩ := hr
    unfold maxLen at h3
    rcases h4 with h4 | ⟨rb, ro, rfl, hrb, hcell⟩
    · omega
    have hv := hcell i hi
    clear hcell hq hp1 e
    go_enter Try.func54, Try.ntmps54
    go_wp2
    go_ret
    exact ⟨rfl, rfl⟩
  · rw [if_neg (by omega)]
    rw [e] at c0
    obtain ⟨h1, h2, h3, h4⟩ := hq
    unfold maxLen at h3
    rcases h4 with h4 | ⟨rb, ro, rfl, hrb, hcell⟩
    · omega
    have hv := hcell i hi
    clear hcell hr hp0 e
    go_enter Try.func54, Try.ntmps54
    go_wp2
    go_ret
    exact ⟨rfl, rfl⟩
end Go.Proofs.Ytbcchbhchfdbiaa
