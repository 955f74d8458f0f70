import Derived.Test.YtbcchbhchfdbiaaWBN
namespace Go.Proofs.Ytbcchbhchfdbiaa
open Go.RowKit Go.Shelf
theorem nodup_len : ∀ (n : Nat) (l : List Nat), l.Nodup → (∀ x ∈ l, x < n) → l.length ≤ n
  | 0, l, _, h => by
    cases l with
    | nil => exact Nat.le_refl _
    | cons x l => exact absurd (h x (List.mem_cons_self ..)) (by omega)
  | n + 1, l, hd, h => by
    have h1 := nodup_len n (l.erase n) (hd.erase n) (fun x hx => by
      have h2 := (List.Nodup.mem_erase_iff hd).1 hx
      have := h x h2.2
      omega)
    by_cases e : n ∈ l
    · rw [List.length_erase_of_mem e] at h1; omega
    · rw [List.erase_of_not_mem e] at h1; omega
theorem occ_ge {l : List Int} {v : Int} : ∀ m t, t < m → nth l t = v → 1 ≤ occ l v m
  | 0, t, h, _ => by omega
  | m + 1, t, h, e => by
    rw [occ]
    by_cases q : t = m
    · subst q; rw [if_pos e]; omega
    · have := occ_ge m t (by omega) e; omega
theorem par_ge {L : List Nd} {v : Int} : ∀ m i, i < m → 1 ≤ occ (ndAt L i).k.ints v (ndAt L i).k.ln → 1 ≤ par L v m
  | 0, i, h, _ => by omega
  | m + 1, i, h, e => by
    rw [par]
    by_cases q : i = m
    · subst q; omega
    · have := par_ge m i (by omega) e; omega
theorem par_two {L : List Nd} {v : Int} : ∀ m i i', i < i' → i' < m → 1 ≤ occ (ndAt L i).k.ints v (ndAt L i).k.ln → 1 ≤ occ (ndAt L i').k.ints v (ndAt L i').k.ln → 2 ≤ par L v m
  | 0, i, i', _, h, _, _ => by omega
  | m + 1, i, i', h, h', e, e' => by
    rw [par]
    by_cases q : i' = m
    · subst q
      have := par_ge i' i h e
      omega
    · have := par_two m i i' h (by omega) e e'; omega
section
variable {P n : Nat} {L : List Nd}
/-- A node is the kid of just one. -/
theorem one_par (hT : GT P n L (kd L)) (hm : tmE (P : Int) n L = 0) {i i' v v' : Nat} (hi : i < n) (hi' : i' < n) (hv : v < (ndAt L i).k.ln) (hv' : v' < (ndAt L i').k.ln) (e : kd L i v = kd L i' v') : i = i' := by
  have h1 := hT.kid i hi v hv
  have h2 := hT.kid i' hi' v' hv'
  have p1 := hT.pos i hi v
  have p2 := hT.klt i hi v hv
  have o1 := occ_ge _ v hv h1
  rw [← e] at h2
  have o2 := occ_ge _ v' hv' h2
  have hp := (tmE_zero hm).2.2.2 (kd L i v) (by omega) p2
  rcases Nat.lt_trichotomy i i' with q | q | q
  · have := par_two n i i' q hi' o1 o2; omega
  · exact q
  · have := par_two n i' i q hi o2 o1; omega
theorem kid_inj {w : World} {a : Option Addr} {c : Nat} (hN : Nodes w a n c L) (hT : GT P n L (kd L)) (hm : tmE (P : Int) n L = 0) {i v v' : Nat} (hi : i < n) (hv : v < (ndAt L i).k.ln) (hv' : v' < (ndAt L i).k.ln) (e : kd L i v = kd L i v') : v = v' := by
  have h1 := hT.kid i hi v hv
  have h2 := hT.kid i hi v' hv'
  have hr := nodeE_rise ((hN.mem hi).1.1) ((tmE_zero hm).2.2.1 i hi)
  rcases Nat.lt_trichotomy v v' with q | q | q
  · have := nth_rise hr (v' - v - 1) v (by omega)
    rw [show v + (v' - v - 1) + 1 = v' by omega] at this
    omega
  · exact q
  · have := nth_rise hr (v - v' - 1) v' (by omega)
    rw [show v' + (v - v' - 1) + 1 = v by omega] at this
    omega
/-- A node's kids. -/
def kidsL (L : List Nd) (x : Nat) : List Nat := (List.range (ndAt L x).k.ln).map (kd L x)
theorem mem_kids {x y : Nat} : y ∈ kidsL L x ↔ ∃ v, v < (ndAt L x).k.ln ∧ y = kd L x v := by
  unfold kidsL
  rw [List.mem_map]
  exact ⟨fun ⟨t, h1, h2⟩ => ⟨t, List.mem_range.1 h1, h2.symm⟩, fun ⟨t, h1, h2⟩ => ⟨t, List.mem_range.2 h1, h2.symm⟩⟩
theorem nodup_map {f : Nat → Nat} : ∀ m, (∀ i j, i < m → j < m → f i = f j → i = j) → ((List.range m).map f).Nodup
  | 0, _ => List.nodup_nil
  | m + 1, h => by
    rw [List.range_succ, List.map_append]
    refine List.nodup_append.2 ⟨nodup_map m (fun i j hi hj e => h i j (by omega) (by omega) e), by simp, fun x hx y hy e => ?_⟩
    obtain ⟨i, hi, rfl⟩ := List.mem_map.1 hx
    simp at hy
    subst hy
    have hi' := List.mem_range.1 hi
    have := h i m (by omega) (by omega) e
    omega
/-- The nodes from one on, as far as the first i of them have been gone through. -/
structure UN (n : Nat) (L : List Nd) (at' : Nat) (U : List Nat) (i : Nat) : Prop where
  nd : U.Nodup
  rng : ∀ x ∈ U, at' ≤ x ∧ x < n
  hd : at' ∈ U
  cl : ∀ s x, s < i → U[s]? = some x → ∀ v, v < (ndAt L x).k.ln → kd L x v ∈ U
  src : ∀ y ∈ U, y = at' ∨ ∃ s x v, s < i ∧ U[s]? = some x ∧ v < (ndAt L x).k.ln ∧ y = kd L x v
theorem UN.first {at' : Nat} (h : at' < n) : UN n L at' [at'] 0 :=
  ⟨by simp, fun x hx => by rw [List.mem_singleton] at hx; omega, by simp, fun s x h => by omega, fun y hy => .inl (by rw [List.mem_singleton] at hy; exact hy)⟩
theorem UN.len {at' i : Nat} {U : List Nat} (h : UN n L at' U i) : U.length ≤ n := nodup_len n U h.nd (fun x hx => (h.rng x hx).2)
theorem UN.next {w : World} {a : Option Addr} {c : Nat} (hN : Nodes w a n c L) (hT : GT P n L (kd L)) (hm : tmE (P : Int) n L = 0) {at' i x : Nat} {U : List Nat} (h : UN n L at' U i) (hx : U[i]? = some x) : UN n L at' (U ++ kidsL L x) (i + 1) := by
  have hxm : x ∈ U := List.mem_of_getElem? hx
  have hxr := h.rng x hxm
  have hil : i < U.length := (List.getElem?_eq_some_iff.1 hx).1
  have keep : ∀ s y, s ≤ i → ((U ++ kidsL L x)[s]? = some y ↔ U[s]? = some y) := fun s y hs => by rw [List.getElem?_append_left (by omega)]
  refine ⟨?_, fun y hy => ?_, List.mem_append_left _ h.hd, fun s y hs hy v hv => ?_, fun y hy => ?_⟩
  · refine List.nodup_append.2 ⟨h.nd, nodup_map _ (fun v v' hv hv' e => kid_inj hN hT hm hxr.2 hv hv' e), fun y hy z hz e => ?_⟩
    subst e
    obtain ⟨v, hv, ev⟩ := mem_kids.1 hz
    rcases h.src y hy with q | ⟨s, x', v', hs, hx', hv', ev'⟩
    · have := hT.pos x hxr.2 v
      omega
    · have hx'r := h.rng x' (List.mem_of_getElem? hx')
      have := one_par hT hm hxr.2 hx'r.2 hv hv' (ev.symm.trans ev')
      subst this
      have h1 := List.getElem?_eq_some_iff.1 hx
      have h2 := List.getElem?_eq_some_iff.1 hx'
      have := (List.getElem_inj h.nd).1 (h1.2.trans h2.2.symm)
      omega
  · rcases List.mem_append.1 hy with hy | hy
    · exact h.rng y hy
    · obtain ⟨v, hv, ev⟩ := mem_kids.1 hy
      have := hT.pos x hxr.2 v
      have := hT.klt x hxr.2 v hv
      omega
  · rw [keep s y (by omega)] at hy
    by_cases e : s = i
    · subst e
      rw [hx] at hy
      cases hy
      exact List.mem_append_right _ (mem_kids.2 ⟨v, hv, rfl⟩)
    · exact List.mem_append_left _ (h.cl s y (by omega) hy v hv)
  · rcases List.mem_append.1 hy with hy | hy
    · rcases h.src y hy with q | ⟨s, x', v', hs, hx', hv', ev'⟩
      · exact .inl q
      · exact .inr ⟨s, x', v', by omega, (keep s x' (by omega)).2 hx', hv', ev'⟩
    · obtain ⟨v, hv, ev⟩ := mem_kids.1 hy
      exact .inr ⟨i, x, v, by omega, (keep i x (Nat.le_refl _)).2 hx, hv, ev⟩
/-- What under gives: each node once, closed under kids. -/
structure Und (n : Nat) (L : List Nd) (at' : Nat) (U : List Nat) : Prop where
  nd : U.Nodup
  rng : ∀ x ∈ U, at' ≤ x ∧ x < n
  hd : at' ∈ U
  cl : ∀ x ∈ U, ∀ v, v < (ndAt L x).k.ln → kd L x v ∈ U
theorem UN.done {at' : Nat} {U : List Nat} (h : UN n L at' U U.length) : Und n L at' U :=
  ⟨h.nd, h.rng, h.hd, fun x hx v hv => by
    obtain ⟨s, hs, e⟩ := List.getElem_of_mem hx
    exact h.cl s x hs (List.getElem?_eq_some_iff.2 ⟨hs, e⟩) v hv⟩
def upI (U : List Nat) : List Int := U.map (fun (x : Nat) => (x : Int))
theorem upI_len (U : List Nat) : (upI U).length = U.length := by simp [upI]
theorem upI_at {U : List Nat} {i x : Nat} (h : U[i]? = some x) : nth (upI U) i = x := by
  unfold nth upI; rw [List.getElem?_map, h]; rfl
theorem upI_app (U V : List Nat) : upI (U ++ V) = upI U ++ upI V := by simp [upI]
theorem kids_upI {w : World} {a : Option Addr} {c : Nat} (hN : Nodes w a n c L) (hT : GT P n L (kd L)) {x : Nat} (hx : x < n) : (ndAt L x).k.ints = upI (kidsL L x) := by
  have hl := (hN.mem hx).1.1
  refine List.ext_getElem? (fun t => ?_)
  by_cases ht : t < (ndAt L x).k.ln
  · have h1 := hT.kid x hx t ht
    unfold nth at h1
    rw [List.getElem?_eq_getElem (by omega)] at h1 ⊢
    simp at h1
    unfold upI kidsL
    rw [List.map_map, List.getElem?_map, List.getElem?_range ht, h1]
    rfl
  · rw [List.getElem?_eq_none (by omega), List.getElem?_eq_none]
    unfold upI kidsL; simp; omega
end
end Go.Proofs.Ytbcchbhchfdbiaa
namespace Go.Proofs.Ytbcchbhchfdbiaa
open Go.RowKit Go.Shelf
attribute [local go_sem] Oper.semAt_some
set_option maxRecDepth 100000 in
set_option maxHeartbeats 8000000 in
theorem under_any (P : Nat) (a : Option Addr) (n c : Nat) (L : List Nd) (hT : GT P n L (kd L)) (hm : tmE (P : Int) n L = 0) (j : Nat) (hj : j < n) (w : World) (h : Nodes w a n c L) :
    Calls Try.prog 38 #[tV P a n c, .int .i64 (j : Int)] w fun e w' => ∃ v U, e = .returned v ∧ w'.ownsRow w.heap.size 3 1 v U.length (intVals (upI U)) ∧ Und n L j U ∧ Below w.heap.size w w' := by
  have n40 := hT.n40
  have g1 := h.2.1
  have g2 := h.2.2.1
  unfold maxLen at g2
  obtain ⟨W, hW, hbW, hlt0, hbox⟩ := tbox (w := w) P a n c
  have hs1 : W.heap.size = w.heap.size + 1 := by rw [← hW]; simp
  have hbA : Below W.heap.size W (W.alloc (.cells #[.int .i64 (j : Int)] 3)) := by go_grown
  have hown : (W.alloc (.cells #[.int .i64 (j : Int)] 3)).ownsRow W.heap.size 3 1 (.slice (some ⟨w.heap.size + 1, 0, none⟩) 1 1) 1 (intVals (upI [j])) := by
    refine ⟨rfl, .inr ⟨w.heap.size + 1, 1, #[.int .i64 (j : Int)], rfl, by omega, ?_, Nat.le_refl _, by unfold maxLen; omega, rfl, rfl⟩⟩
    rw [← hs1]; exact World.alloc_heap_new _ _
  have HW := hide hW
  have HBW := hide hbW
  have HBX := hide hbox
  have HN := hide (h.later hbW)
  have HT := hide hT
  have HM := hide hm
  have HB0 := hide hbA
  have HO0 := hide hown
  have HU0 : Hid (UN n L j [j] 0) := UN.first hj
  obtain ⟨b, off, ea, hb, hcell⟩ := (h.later hbW).cellAt (by omega)
  subst ea
  have HC := hide hcell
  have hW' := hW
  unfold tV
  clear h hbW hbox hT hm hbA hown hcell hs1
  subst hW
  go_enter Try.func38, Try.ntmps38
  go_wp2_with fail
  generalize w.alloc (.cells #[.int .i64 (P : Int), .slice (some ⟨b, off, none⟩) n c] 24) = W at *
  clear hW'
  go_loopw [5, 6] (fun lv iv wr => Hid (Below W.heap.size W wr) ∧ ∃ (i : Nat) (U : List Nat), i ≤ U.length ∧ iv = .int .i64 (i : Int) ∧ Hid (wr.ownsRow W.heap.size 3 1 lv U.length (intVals (upI U))) ∧ Hid (UN n L j U i)) (fun _ iv _ => n - (intOf iv).toNat)
  case atStart => exact ⟨HB0, 0, [j], Nat.zero_le _, rfl, HO0, HU0⟩
  case round =>
    clear HB0 HO0 HU0
    obtain ⟨HBr, i, U, hi, rfl, HO, HU⟩ := hrel
    obtain ⟨z0, z1⟩ := unhide HBX wr (unhide HBr)
    have hlen := (unhide HU).len
    obtain ⟨la, lc, rfl, hI, -⟩ := Ints.of_owns (unhide HO) (by omega)
    have q1 := hI.2.1
    have q2 := hI.2.2.1
    unfold maxLen at q2
    by_cases hlt : i < U.length
    · obtain ⟨x, hx⟩ : ∃ x, U[i]? = some x := ⟨_, List.getElem?_eq_getElem hlt⟩
      have hxr := (unhide HU).rng x (List.mem_of_getElem? hx)
      have hxn := hxr.2
      obtain ⟨lb, lo, ela, hlb, hlc⟩ := hI.nth (by omega)
      have t1 := hlc i hlt
      rw [upI_at hx] at t1
      obtain ⟨-, c1, -⟩ := unhide HC wr (unhide HBr) x hxn
      have hM := (((unhide HN).later (unhide HBr)).mem hxn).1
      have hkl := hM.2.1
      have hkm := hM.2.2.1
      unfold maxLen at hkm
      unfold SlIn at hM
      have hM2 : Ints wr.drew (ndAt L x).k.la (ndAt L x).k.ln (ndAt L x).k.lc (ndAt L x).k.ints := Ints.later hM (Below.refl _ _).drew
      have HK := hide hM2
      have k5 := (unhide HT).k5 x hxn
      have HNX : Hid (UN n L j (U ++ kidsL L x) (i + 1)) := (unhide HU).next (unhide HN) (unhide HT) (unhide HM) hx
      have HKL : Hid (intVals (upI U ++ (ndAt L x).k.ints) = intVals (upI (U ++ kidsL L x)) ∧ U.length + (ndAt L x).k.ln = (U ++ kidsL L x).length) := by
        refine ⟨by rw [kids_upI (unhide HN) (unhide HT) hxn, upI_app], ?_⟩
        rw [List.length_append]; unfold kidsL; simp
      have HOd := hide (owns_drew (unhide HO))
      have hszW := (unhide HBr).size
      have hszw := (unhide HBW).size
      have HLE : Hid (i < n) := by show i < n; omega
      subst ela
      clear hM hM2 hlc hI hx hxr
      generalize hl : U.length = ul at *
      have HUL := hide hl
      clear hl
      generalize ndAt L x = d at *
      obtain ⟨pl, ⟨ka, kn, kc, kids⟩, pp⟩ := d
      simp only at c1 hkl hkm HK k5 HKL
      go_wp2_with fail
      refine wp_region_still_tail 10 (by kernel_rfl) (by kernel_rfl) ?_
      simp only [List.take_succ_cons, List.take_zero, List.drop_succ_cons, List.drop_zero]
      show wpStill Try.prog _ wr.drew (fun a' => wpList Try.prog _ _ _ a' wr.drew) _ _
      iterate 10 still_step
      refine wpStill_nil ?_
      go_wp2_with (at_builtin; refine wpList_append_ints _ rfl _ _ rfl W.heap.size _ _ _ rfl (unhide HOd) _ _ _ _ rfl (unhide HK) (by omega) (by show W.heap.size ≤ wr.heap.size; omega) ?_; intro v2 w3 ho2 hg2)
      have hb5 : Below W.heap.size wr.drew w3 := (Below.refl W.heap.size wr.drew).grown hg2 (by show W.heap.size ≤ wr.heap.size; omega) (fun q hq => ((unhide HOd).lt q hq).1)
      refine ⟨⟨(unhide HBr).drew.trans hb5, i + 1, U ++ kidsL L x, ?_, by go_num, ?_, HNX⟩, ?_⟩
      · have := (unhide HKL).2; have := unhide HUL; rw [← (unhide HKL).2]; omega
      · show _root_.Go.World.ownsRow _ _ _ _ _ _ _
        rw [← (unhide HKL).1, ← (unhide HKL).2]
        exact ho2
      · simp [intOf]; have := unhide HLE; omega
    · obtain rfl : U.length = i := by omega
      have HF : Hid (∀ v, v = Value.slice la U.length lc → ∃ v' U', Ending.returned v = .returned v' ∧ wr.ownsRow w.heap.size 3 1 v' U'.length (intVals (upI U')) ∧ Und n L j U' ∧ Below w.heap.size w wr) := fun v hv => ⟨v, U, rfl, by rw [hv]; exact (unhide HO).mono (unhide HBW).size, (unhide HU).done, (unhide HBW).trans ((unhide HBr).mono (unhide HBW).size)⟩
      generalize U.length = ul at *
      go_wp2
      go_ret
      exact unhide HF _ rfl
end Go.Proofs.Ytbcchbhchfdbiaa
namespace Go.Proofs.Ytbcchbhchfdbiaa
open Go.RowKit Go.Shelf
/-- A player's node. -/
def WM (L : List Nd) (who x : Nat) : Prop := (ndAt L x).pl = (who : Int) ∧ 0 < (ndAt L x).k.ln
/-- One node more, at which a player may choose otherwise. -/
def setsL (q : List Int) (x m : Nat) : List (List Int) := (List.range m).map (fun (t : Nat) => q.set x (t : Int))
open Classical in
noncomputable def wyS (L : List Nd) (who x : Nat) (out : List (List Int)) : List (List Int) := if WM L who x then out.flatMap (fun q => setsL q x (ndAt L x).k.ln) else out
noncomputable def wyL (L : List Nd) (who : Nat) (q : List Int) (U : List Nat) : List (List Int) := U.foldl (fun out x => wyS L who x out) [q]
section
variable {L : List Nd} {who : Nat} {q : List Int}
theorem wyL_nil : wyL L who q [] = [q] := rfl
theorem wyL_snoc (U : List Nat) (x : Nat) : wyL L who q (U ++ [x]) = wyS L who x (wyL L who q U) := by unfold wyL; rw [List.foldl_append]; rfl
theorem wyS_yes {x : Nat} {out : List (List Int)} (h : WM L who x) : wyS L who x out = out.flatMap (fun q => setsL q x (ndAt L x).k.ln) := by unfold wyS; rw [if_pos h]
theorem wyS_no {x : Nat} {out : List (List Int)} (h : ¬ WM L who x) : wyS L who x out = out := by unfold wyS; rw [if_neg h]
/-- Choices that are as these, but at a player's nodes. -/
def WOk (L : List Nd) (who : Nat) (q q' : List Int) : Prop := q'.length = q.length ∧ ∀ j, nth q' j = nth q j ∨ (WM L who j ∧ 0 ≤ nth q' j ∧ nth q' j < (ndAt L j).k.ln)
theorem nth_setI {q : List Int} {x j : Nat} {v : Int} (hx : x < q.length) : nth (q.set x v) j = if j = x then v else nth q j := by
  unfold nth
  rw [List.getElem?_set]
  by_cases e : x = j
  · subst e; rw [if_pos rfl, if_pos rfl, if_pos hx]; rfl
  · rw [if_neg e, if_neg (fun h => e h.symm)]
theorem wy_all (S : List Int → Prop) : ∀ (U : List Nat) (out : List (List Int)), (∀ q' ∈ out, S q') → (∀ x ∈ U, ∀ q', S q' → WM L who x → ∀ t : Nat, t < (ndAt L x).k.ln → S (q'.set x (t : Int))) → ∀ q' ∈ U.foldl (fun out x => wyS L who x out) out, S q'
  | [], out, h, _, q', hq => h q' hq
  | x :: U, out, h, hs, q', hq => by
    rw [List.foldl_cons] at hq
    refine wy_all S U _ (fun r hr => ?_) (fun y hy => hs y (List.mem_cons_of_mem _ hy)) q' hq
    by_cases e : WM L who x
    · rw [wyS_yes e] at hr
      obtain ⟨q0, h0, h1⟩ := List.mem_flatMap.1 hr
      obtain ⟨t, ht, rfl⟩ := List.mem_map.1 h1
      exact hs x (List.mem_cons_self ..) q0 (h q0 h0) e t (List.mem_range.1 ht)
    · rw [wyS_no e] at hr
      exact h r hr
theorem wy_ok {U : List Nat} (hU : ∀ x ∈ U, x < q.length) : ∀ q' ∈ wyL L who q U, WOk L who q q' := by
  refine wy_all (WOk L who q) U [q] (fun q' hq => ?_) (fun x hx q' h hm t ht => ?_)
  · rw [List.mem_singleton] at hq; subst hq; exact ⟨rfl, fun j => .inl rfl⟩
  · refine ⟨by rw [List.length_set]; exact h.1, fun j => ?_⟩
    rw [nth_setI (by rw [h.1]; exact hU x hx)]
    by_cases e : j = x
    · subst e; rw [if_pos rfl]; exact .inr ⟨hm, by omega, by omega⟩
    · rw [if_neg e]; exact h.2 j
theorem wy_ex (g : Nat → Nat) (hg : ∀ x, WM L who x → g x < (ndAt L x).k.ln) : ∀ (U : List Nat) (out : List (List Int)) (q0 : List Int), q0 ∈ out → (∀ x ∈ U, x < q0.length) → ∃ q' ∈ U.foldl (fun out x => wyS L who x out) out, q'.length = q0.length ∧ ∀ j, (j ∈ U → WM L who j → nth q' j = (g j : Int)) ∧ (¬ (j ∈ U ∧ WM L who j) → nth q' j = nth q0 j)
  | [], out, q0, h, _ => ⟨q0, h, rfl, fun j => ⟨fun h => (by cases h), fun _ => rfl⟩⟩
  | x :: U, out, q0, h, hU => by
    have hx := hU x (List.mem_cons_self ..)
    by_cases e : WM L who x
    · have h1 : q0.set x (g x : Int) ∈ wyS L who x out := by
        rw [wyS_yes e]
        exact List.mem_flatMap.2 ⟨q0, h, List.mem_map.2 ⟨g x, List.mem_range.2 (hg x e), rfl⟩⟩
      obtain ⟨q', m1, m2, m3⟩ := wy_ex g hg U _ _ h1 (fun y hy => by rw [List.length_set]; exact hU y (List.mem_cons_of_mem _ hy))
      refine ⟨q', m1, by rw [m2, List.length_set], fun j => ⟨fun hj hm => ?_, fun hn => ?_⟩⟩
      · by_cases hju : j ∈ U
        · exact (m3 j).1 hju hm
        · have hjx : j = x := by
            rcases List.mem_cons.1 hj with q | q
            · exact q
            · exact absurd q hju
          rw [(m3 j).2 (fun q => hju q.1), nth_setI hx, if_pos hjx, hjx]
      · have hjx : j ≠ x := fun q => hn ⟨by rw [q]; exact List.mem_cons_self .., by rw [q]; exact e⟩
        rw [(m3 j).2 (fun q => hn ⟨List.mem_cons_of_mem _ q.1, q.2⟩), nth_setI hx, if_neg hjx]
    · have h1 : q0 ∈ wyS L who x out := by rw [wyS_no e]; exact h
      obtain ⟨q', m1, m2, m3⟩ := wy_ex g hg U _ _ h1 (fun y hy => hU y (List.mem_cons_of_mem _ hy))
      refine ⟨q', m1, m2, fun j => ⟨fun hj hm => ?_, fun hn => ?_⟩⟩
      · rcases List.mem_cons.1 hj with q | q
        · subst q; exact absurd hm e
        · exact (m3 j).1 q hm
      · exact (m3 j).2 (fun q => hn ⟨List.mem_cons_of_mem _ q.1, q.2⟩)
open Classical in
noncomputable def fW (L : List Nd) (who x : Nat) : Nat := if WM L who x then (ndAt L x).k.ln else 1
noncomputable def prW (L : List Nd) (who : Nat) : List Nat → Nat
  | [] => 1
  | x :: U => fW L who x * prW L who U
theorem fW_pos (x : Nat) : 1 ≤ fW L who x := by
  unfold fW
  by_cases e : WM L who x
  · rw [if_pos e]; exact e.2
  · rw [if_neg e]; exact Nat.le_refl _
theorem prW_pos : ∀ U, 1 ≤ prW L who U
  | [] => Nat.le_refl _
  | x :: U => Nat.mul_pos (fW_pos x) (prW_pos U)
theorem prW_app : ∀ A B, prW L who (A ++ B) = prW L who A * prW L who B
  | [], B => by rw [List.nil_append, prW, Nat.one_mul]
  | x :: A, B => by rw [List.cons_append, prW, prW, prW_app A B, Nat.mul_assoc]
theorem flat_len {m : Nat} {f : List Int → List (List Int)} (hf : ∀ q, (f q).length = m) : ∀ out : List (List Int), (out.flatMap f).length = out.length * m
  | [] => by simp
  | q :: out => by rw [List.flatMap_cons, List.length_append, hf, flat_len hf out, List.length_cons, Nat.succ_mul, Nat.add_comm]
theorem wyS_len (x : Nat) (out : List (List Int)) : (wyS L who x out).length = out.length * fW L who x := by
  unfold fW
  by_cases e : WM L who x
  · rw [wyS_yes e, if_pos e, flat_len (m := (ndAt L x).k.ln) (fun q => by unfold setsL; simp)]
  · rw [wyS_no e, if_neg e, Nat.mul_one]
theorem wyF_len : ∀ (U : List Nat) (out : List (List Int)), (U.foldl (fun out x => wyS L who x out) out).length = out.length * prW L who U
  | [], out => by rw [List.foldl_nil, prW, Nat.mul_one]
  | x :: U, out => by rw [List.foldl_cons, wyF_len U, wyS_len, prW, Nat.mul_assoc]
theorem wyL_len (U : List Nat) : (wyL L who q U).length = prW L who U := by unfold wyL; rw [wyF_len]; simp
theorem wyL_take (U : List Nat) (i : Nat) : (wyL L who q (U.take i)).length ≤ prW L who U := by
  rw [wyL_len]
  have h := prW_app (L := L) (who := who) (U.take i) (U.drop i)
  rw [List.take_append_drop] at h
  rw [h]
  exact Nat.le_mul_of_pos_right _ (prW_pos _)
theorem prW_erase {x : Nat} : ∀ U, x ∈ U → prW L who U = fW L who x * prW L who (U.erase x)
  | [], h => by cases h
  | y :: U, h => by
    by_cases e : y = x
    · subst e; rw [List.erase_cons_head]; rfl
    · have hx : x ∈ U := by
        rcases List.mem_cons.1 h with q | q
        · exact absurd q.symm e
        · exact q
      rw [List.erase_cons_tail (by simpa using e), prW, prW, prW_erase U hx, ← Nat.mul_assoc, ← Nat.mul_assoc, Nat.mul_comm (fW L who y)]
/-- All ways to choose, of all nodes. -/
def gW (L : List Nd) (x : Nat) : Nat := if 0 < (ndAt L x).k.ln then (ndAt L x).k.ln else 1
def plN (L : List Nd) : Nat → Nat
  | 0 => 1
  | n + 1 => plN L n * gW L n
theorem gW_pos (x : Nat) : 1 ≤ gW L x := by unfold gW; split <;> omega
theorem fW_le (x : Nat) : fW L who x ≤ gW L x := by
  unfold fW
  by_cases e : WM L who x
  · rw [if_pos e]; unfold gW; rw [if_pos e.2]; exact Nat.le_refl _
  · rw [if_neg e]; exact gW_pos x
theorem prW_le : ∀ (n : Nat) (U : List Nat), U.Nodup → (∀ x ∈ U, x < n) → prW L who U ≤ plN L n
  | 0, U, _, h => by
    cases U with
    | nil => exact Nat.le_refl _
    | cons x U => exact absurd (h x (List.mem_cons_self ..)) (by omega)
  | n + 1, U, hd, h => by
    by_cases e : n ∈ U
    · have h1 := prW_le n (U.erase n) (hd.erase n) (fun x hx => by
        have h2 := (List.Nodup.mem_erase_iff hd).1 hx
        have := h x h2.2
        omega)
      rw [prW_erase U e, plN, Nat.mul_comm]
      exact Nat.mul_le_mul h1 (fW_le n)
    · have h1 := prW_le n U hd (fun x hx => by
        have := h x hx
        have : x ≠ n := fun q => e (by rw [← q]; exact hx)
        omega)
      exact Nat.le_trans h1 (Nat.le_mul_of_pos_right _ (gW_pos n))
end
end Go.Proofs.Ytbcchbhchfdbiaa
