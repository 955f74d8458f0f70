import Derived.Test.YtbcchbhchfdbiaaWG3
namespace Go.Proofs.Ytbcchbhchfdbiaa
open Go.RowKit Go.Shelf
attribute [local go_sem] Oper.semAt_some
theorem made_cell (v : Value) (n j : Nat) (hj : j < n) : (madeCells #[v] n)[j]? = some v := by
  unfold madeCells
  simp [hj, Nat.mod_one]
theorem cell_in' {w : World} {b : Nat} {arr : Array Value} {t : TypeId} (h : w.heap[b]? = some (.cells arr t (0, 0))) (j : Nat) : w.cell? ⟨b, j, none⟩ = arr[j]? ∧ w.frozen? ⟨b, j, none⟩ = false := by
  constructor
  · simp [World.cell?, h]
  · simp [World.frozen?, h]
theorem six (w : World) (o0 o1 o2 o3 o4 o5 : Obj) (W : World) (hW : W = ((((((w.alloc o0).alloc o1).alloc o2).alloc o3).alloc o4).alloc o5).drew) :
    W.heap.size = w.heap.size + 6 ∧ W.heap[w.heap.size]? = some o0 ∧ W.heap[w.heap.size + 1]? = some o1 ∧ W.heap[w.heap.size + 2]? = some o2 ∧ W.heap[w.heap.size + 3]? = some o3 ∧ W.heap[w.heap.size + 4]? = some o4 ∧ W.heap[w.heap.size + 5]? = some o5 := by
  have e : W.heap = (((((w.heap.push o0).push o1).push o2).push o3).push o4).push o5 := by rw [hW]; rfl
  rw [e]
  refine ⟨by simp, ?_, ?_, ?_, ?_, ?_, ?_⟩ <;> simp only [Array.getElem?_push, Array.size_push]
  · repeat (rw [if_neg (by omega)])
    rw [if_pos trivial]
  · repeat (rw [if_neg (by omega)])
    rw [if_pos trivial]
  · repeat (rw [if_neg (by omega)])
    rw [if_pos trivial]
  · repeat (rw [if_neg (by omega)])
    rw [if_pos trivial]
  · repeat (rw [if_neg (by omega)])
    rw [if_pos trivial]
  · rw [if_pos trivial]
theorem res25 (tm : Array Value) (W : World) (b2 b3 : Nat) (a1 a2 : Option Addr) (n : Nat) (h2 : tm[4]? = some (.pointer (some ⟨b2, 0, none⟩))) (h3 : tm[5]? = some (.pointer (some ⟨b3, 0, none⟩))) (c2 : W.cell? ⟨b2, 0, none⟩ = some (.slice a1 n n)) (c3 : W.cell? ⟨b3, 0, none⟩ = some (.slice a2 n n)) :
    (results Try.f25 tm).run Try.prog W = .ok (.tuple #[.slice a1 n n, .slice a2 n n]) W := by
  have hr : Try.f25.results = #[.cell 4 25, .cell 5 53] := rfl
  simp only [results, hr]
  simp [Sem.run_bind, Result.andThen, asAddr, loadVar, isAgg, run_underlying Try.underlying25, run_underlying Try.underlying53, load, h2, h3, go_sem]
  simp [Sem.run, c2, c3]
theorem blk_lt {w : World} {b : Nat} {o : Obj} (h : w.heap[b]? = some o) : b < w.heap.size := (Array.getElem?_eq_some_iff.1 h).1
/-- The world ahead of the range, in either order. -/
theorem si_start {w : World} {P : Nat} {a : Option Addr} {n c : Nat} {L : List Nd} {F : Value} {gc gg : Nat} {CH : Nat → (Nat → List Int) → Nat → Prop} {s : Nat → Nat → Nat} {W : World} (hb : Below w.heap.size w W) (sz : W.heap.size = w.heap.size + 7)
    (h0 : W.heap[w.heap.size]? = some (.cells #[.int .i64 (P : Nat), .slice a n c] 24 (0, 0))) (h1 : W.heap[w.heap.size + 1]? = some (.cells #[F] 57 (0, 0))) (h2 : W.heap[w.heap.size + 2]? = some (.cells #[.slice (some ⟨gc, 0, none⟩) n n] 25 (0, 0)))
    (h3 : W.heap[w.heap.size + 3]? = some (.cells #[.slice (some ⟨gg, 0, none⟩) n n] 53 (0, 0))) (h6 : W.heap[w.heap.size + 6]? = some (.cells #[.slice a n c] 22 (0, 0)))
    (hc : W.heap[gc]? = some (.cells (madeCells #[.int .i64 0] n) 3 (0, 0))) (hg : W.heap[gg]? = some (.cells (madeCells #[.slice none 0 0] n) 25 (0, 0))) : SI w P a n c L F gc gg CH s 0 W := by
  refine ⟨hb, by omega, h0, h1, h2, h3, h6, fun _ => 0, fun _ => slNone, ⟨blk_lt hc, fun j hj => ⟨(cell_in' hc j).1.trans (made_cell _ n j hj), (cell_in' hc j).2⟩⟩, ⟨blk_lt hg, fun j hj => ⟨(cell_in' hg j).1.trans (made_cell _ n j hj), (cell_in' hg j).2⟩⟩, fun j h1 h2 => by omega, fun _ _ => rfl, fun j h1 h2 => by omega⟩
theorem done_next {P n : Nat} {L : List Nd} {s : Nat → Nat → Nat} {CH : Nat → (Nat → List Int) → Nat → Prop} {ch : Nat → Int} {ge : Nat → Sl} {j : Nat} {x : Int} {y : Sl} (hT : GT P n L s) (h : Done L n (j + 1) CH s ch ge) (hj : j < n)
    (h0 : (ndAt L j).k.ln = 0 → x = 0 ∧ y = (ndAt L j).p) (h1 : 0 < (ndAt L j).k.ln → ∃ v : Nat, x = v ∧ v < (ndAt L j).k.ln ∧ CH j (fun i => (ge (s j i)).ints) v ∧ y = ge (s j v)) :
    Done L n j CH s (upd ch j x) (updS ge j y) := by
  intro q hq hqn
  have hs := hT.pos q hqn
  have e1 : ∀ i, updS ge j y (s q i) = ge (s q i) := fun i => if_neg (by have := hs i; omega)
  have e2 : (fun i => (updS ge j y (s q i)).ints) = fun i => (ge (s q i)).ints := by funext i; rw [e1]
  by_cases e : q = j
  · subst e
    have e3 : updS ge q y q = y := if_pos rfl
    rw [e3, upd_at]
    refine ⟨h0, fun hk => ?_⟩
    obtain ⟨v, v1, v2, v3, v4⟩ := h1 hk
    exact ⟨v, v1, v2, by rw [e2]; exact v3, by rw [e1]; exact v4⟩
  · have hh := h q (by omega) hqn
    have e3 : updS ge j y q = ge q := if_neg e
    rw [e3, upd_ne e]
    refine ⟨hh.1, fun hk => ?_⟩
    obtain ⟨v, v1, v2, v3, v4⟩ := hh.2 hk
    exact ⟨v, v1, v2, by rw [e2]; exact v3, by rw [e1]; exact v4⟩
/-- What settle answers. -/
def SetP (w : World) (P n : Nat) (L : List Nd) (CH : Nat → (Nat → List Int) → Nat → Prop) (s : Nat → Nat → Nat) (e : Ending) (w' : World) : Prop :=
  ∃ gc gg ch ge, e = .returned (.tuple #[.slice (some ⟨gc, 0, none⟩) n n, .slice (some ⟨gg, 0, none⟩) n n]) ∧ w.heap.size ≤ gc ∧ w.heap.size ≤ gg ∧ RowI w' gc n ch ∧ RowG w' gg n ge ∧ Done L n 0 CH s ch ge ∧ (∀ j, j < n → (ge j).ln = P ∧ SlIn w (ge j)) ∧ Below w.heap.size w w'
set_option maxRecDepth 100000 in
set_option maxHeartbeats 4000000 in
theorem settle_any (P : Nat) (a : Option Addr) (n c : Nat) (L : List Nd) (s : Nat → Nat → Nat) (fid : Nat) (lb : Array Value) (CH : Nat → (Nat → List Int) → Nat → Prop) (w : World) (h : Nodes w a n c L) (hT : GT P n L s) (heg : ∀ args w, (callFunc fid args).run Try.prog w = .ok (.enter fid args) w)
    (hcg : ∀ j u u' v, (∀ i, i < (ndAt L j).k.ln → u i = u' i) → CH j u v → CH j u' v)
    (hCH : ∀ j, j < n → 0 < (ndAt L j).k.ln → ∀ KL : List Sl, KL.length = (ndAt L j).k.ln → (∀ i, i < (ndAt L j).k.ln → (slAt KL i).ln = P) → ∃ v : Nat, v < (ndAt L j).k.ln ∧ CH j (fun i => (slAt KL i).ints) v ∧
      ∀ W2 ka kc, Below w.heap.size w W2 → Lsts W2 ka (ndAt L j).k.ln kc KL → Calls Try.prog fid (#[.int .i64 (j : Int), .slice ka (ndAt L j).k.ln kc] ++ lb) W2 fun e w' => e = .returned (.int .i64 v) ∧ Below W2.heap.size W2 w') :
    Calls Try.prog 25 #[tV P a n c, .func (.func fid) #[] lb] w (SetP w P n L CH s) := by
  have hc1 := h.2.1
  have hc2 := h.2.2.1
  unfold maxLen at hc2
  have n1 := hT.n1
  have n40 := hT.n40
  have hm25 := fun X => mk25 (n := n) n40 X
  have hm53 := fun X => mk53 (n := n) n40 X
  have HN := hide h
  have HT := hide hT
  have HCH := hide hCH
  have HCG := hide hcg
  obtain ⟨b, off, ea, hb, hcell⟩ := h.cellAt n1
  subst ea
  have HC := hide hcell
  unfold tV
  clear h hT hCH hcell hcg
  refine (callsIn_wide (n := 9)).1 ?_
  refine callsIn_of_wp_marks Try.func25 rfl trivial ?_
  simp only [Try.ntmps25, List.size_toArray, List.length_cons, List.length_nil, Nat.reduceAdd, Nat.reduceSub, Array.replicate_succ, Array.replicate_zero, List.push_toArray, List.append_toArray, List.nil_append, List.cons_append]
  refine (wpIn_wide).2 ?_
  go_wp2_with fail
  go_cut [6] from 11 to 18 (fun _ wc => ∃ gc gg, gc ≠ gg ∧ w.heap.size + 4 ≤ gc ∧ gc < w.heap.size + 6 ∧ w.heap.size + 4 ≤ gg ∧ gg < w.heap.size + 6 ∧ wc.heap.size = w.heap.size + 6 ∧ Below w.heap.size w wc ∧ wc.heap[w.heap.size]? = some (.cells #[.int .i64 (P : Nat), .slice (some ⟨b, off, none⟩) n c] 24 (0, 0)) ∧ wc.heap[w.heap.size + 1]? = some (.cells #[.func (.func fid) #[] lb] 57 (0, 0)) ∧ wc.heap[w.heap.size + 2]? = some (.cells #[.slice (some ⟨gc, 0, none⟩) n n] 25 (0, 0)) ∧ wc.heap[w.heap.size + 3]? = some (.cells #[.slice (some ⟨gg, 0, none⟩) n n] 53 (0, 0)) ∧ wc.heap[gc]? = some (.cells (madeCells #[.int .i64 0] n) 3 (0, 0)) ∧ wc.heap[gg]? = some (.cells (madeCells #[.slice none 0 0] n) 25 (0, 0)))
  case first =>
    go_region
    · go_wp2_with fail
      go_meet
      case rel =>
        obtain ⟨qs, q0, q1, q2, q3, q4, q5⟩ := six w _ _ _ _ _ _ _ rfl
        exact ⟨w.heap.size + 4, w.heap.size + 5, by omega, by omega, by omega, by omega, by omega, qs, by go_grown, q0, q1, q2, q3, q4, q5⟩
    · go_wp2_with fail
      go_meet
      case rel =>
        obtain ⟨qs, q0, q1, q2, q3, q4, q5⟩ := six w _ _ _ _ _ _ _ rfl
        exact ⟨w.heap.size + 5, w.heap.size + 4, by omega, by omega, by omega, by omega, by omega, qs, by go_grown, q0, q1, q2, q3, q5, q4⟩
  case rest =>
    obtain ⟨gc, gg, hne, gc1, gc2, gg1, gg2, hsz, hbel, h0, h1, h2, h3, h4, h5⟩ := hcut
    have hbel2 : Below w.heap.size w (wc.alloc (.cells #[.slice (some ⟨b, off, none⟩) n c] 22)) := hbel.trans ((by go_grown : Below wc.heap.size wc (wc.alloc (.cells #[.slice (some ⟨b, off, none⟩) n c] 22))).mono (by omega))
    have hblk : ∀ q, q < w.heap.size + 6 → (wc.alloc (.cells #[.slice (some ⟨b, off, none⟩) n c] 22)).heap[q]? = wc.heap[q]? := fun q hq => Below.heap_alloc _ _ _ (by omega)
    have hS0 : SI w P (some ⟨b, off, none⟩) n c L (.func (.func fid) #[] lb) gc gg CH s 0 (wc.alloc (.cells #[.slice (some ⟨b, off, none⟩) n c] 22)) := by
      refine si_start hbel2 (by simp; omega) ((hblk _ (by omega)).trans h0) ((hblk _ (by omega)).trans h1) ((hblk _ (by omega)).trans h2) ((hblk _ (by omega)).trans h3) ?_ ((hblk _ (by omega)).trans h4) ((hblk _ (by omega)).trans h5)
      rw [← hsz]
      exact World.alloc_heap_new wc _
    have HS0 := hide hS0
    have c1 := (cell_in' h0 1).1
    have c0 := (cell_in' h0 0).1
    simp at c0 c1
    have hszA : (wc.alloc (.cells #[.slice (some ⟨b, off, none⟩) n c] 22)).heap.size = w.heap.size + 7 := by simp; omega
    clear hbel2 hblk hS0 h0 h1 h2 h3 h4 h5 hbel hm25
    go_wp2_with fail
    refine (back46 (some ⟨b, off, none⟩) n c _).mono ?_
    rintro e w2 ⟨rfl, hw2⟩
    subst w2
    rw [hsz]
    generalize wc.alloc (.cells #[.slice (some ⟨b, off, none⟩) n c] 22) = WR at *
    go_wp2_with fail
    refine (wpIn_wide (n := 9)).1 ?_
    refine range_k (by omega) (gf := 56) (lb := #[.pointer (some ⟨w.heap.size + 6, 0, none⟩)]) rfl (enters_of Try.func56 (by kernel_rfl) rfl) n (bkV n L) (fun k => rfl)
      (fun k W => SI w P (some ⟨b, off, none⟩) n c L (.func (.func fid) #[] lb) gc gg CH s k W) (fun k W W' hi kp => hi.frame (by omega) (by omega) (kp.sub (fun b hb => by rw [hszA]; exact hb))) (unhide HS0) ?iter ?round ?done
    case iter =>
      intro l J hJI hY W hJ0
      refine back56 b off n c L (w.heap.size + 6) l _ n1 n40 J (fun k W hj => ?_) hY W hJ0
      have hs := hJI k W hj
      exact ⟨by simpa using (cell_in' hs.h6 0).1, fun j hj => unhide HC W hs.bel j hj⟩
    case round =>
      intro l m k W hl hl2 hk hi hsw
      apply Exists.intro
      apply Exists.intro
      refine ⟨?keep, ?assign, ?body⟩
      case assign =>
        intro K' hK
        unfold bkV nV
        gi_wp2
        exact hK
      case keep => exact Keep.of_below (by go_grown : Below W.heap.size W _) (fun b hb => hb)
      case body =>
        intro W₂ kp hsz2
        have hj : n - 1 - k < n := by omega
        have hkp : Keep (fun b => b < W.heap.size ∧ b ≠ l) W W₂ := (Keep.of_below (by go_grown : Below W.heap.size W _) (fun b hb => hb.1)).trans (kp.sub (fun b hb => hb.2))
        have hi2 := hi.frame (by omega) (by omega) (hkp.sub (fun b hb => ⟨by omega, by omega⟩))
        have hnb := (kp.block W.heap.size (by omega)).trans (World.alloc_heap_new W _)
        have hnk : n - k = (n - 1 - k) + 1 := by omega
        have hnk2 : n - (k + 1) = n - 1 - k := by omega
        have hsz3 : W.heap.size < W₂.heap.size := by rw [hsz2]; simp
        obtain ⟨j, ej⟩ : ∃ j, n - 1 - k = j := ⟨_, rfl⟩
        rw [ej] at hj hnb hnk hnk2
        rw [ej]
        obtain ⟨ch, ge, rI, rG, hD, hz, hP⟩ := hi2.rows
        rw [hnk] at hD hz hP
        have x3 := (cell_in' hi2.h3 0).1
        have x2 := (cell_in' hi2.h2 0).1
        simp at x3 x2
        have y0 := (cell_in' hnb 0).1
        have y1 := (cell_in' hnb 1).1
        have y2 := (cell_in' hnb 2).1
        simp at y0 y1 y2
        have hM := (unhide HN).mem hj
        have HM := hide hM
        have HI2 := hide hi2
        have HD := hide hD
        have HZ := hide hz
        have HP := hide hP
        have HRI := hide rI
        have HRG := hide rG
        have HKP := hide hkp
        have hnb1 : w.heap.size + 7 ≤ W.heap.size := by omega
        have hkl := hM.1.2.1
        have hkm := hM.1.2.2.1
        unfold maxLen at hkm
        have gj := (rG.2 j hj)
        have ij := (rI.2 j hj)
        clear hi hi2 hnb kp hkp hsz2 hD hz hP hM rI
        by_cases hk0 : (ndAt L j).k.ln = 0
        · have hE := (unhide HT).ender j hj hk0
          have HF : Hid (SI w P (some ⟨b, off, none⟩) n c L (.func (.func fid) #[] lb) gc gg CH s (k + 1) (W₂.setCell ⟨gg, j, none⟩ (.slice (ndAt L j).p.la (ndAt L j).p.ln (ndAt L j).p.lc)) ∧ Keep (fun b => w.heap.size + 7 ≤ b ∧ b < W₂.heap.size) W₂ (W₂.setCell ⟨gg, j, none⟩ (.slice (ndAt L j).p.la (ndAt L j).p.ln (ndAt L j).p.lc))) := by
            have hblk : ∀ q, q ≠ gg → (W₂.setCell ⟨gg, j, none⟩ (.slice (ndAt L j).p.la (ndAt L j).p.ln (ndAt L j).p.lc)).heap[q]? = W₂.heap[q]? := fun q hq => Below.heap_setCell _ _ _ _ hq
            have h2 := unhide HI2
            refine ⟨⟨h2.bel.setCell (p := ⟨gg, j, none⟩) (by show _ ≤ gg; omega) _, by simpa using h2.sz, (hblk _ (by omega)).trans h2.h0, (hblk _ (by omega)).trans h2.h1, (hblk _ (by omega)).trans h2.h2, (hblk _ (by omega)).trans h2.h3, (hblk _ (by omega)).trans h2.h6, ch, updS ge j (ndAt L j).p, (unhide HRI).keep (hblk _ hne) (by simp), (unhide HRG).set hj, ?_, fun q hq => ?_, fun q h1 h2 => ?_⟩, ⟨rfl, rfl, rfl, by simp, fun q hq => hblk q (by omega)⟩⟩
            · rw [hnk2, ← upd_self ch j]
              exact done_next (unhide HT) (unhide HD) hj (fun _ => ⟨unhide HZ j (by omega), rfl⟩) (fun h => by omega)
            · exact unhide HZ q (by omega)
            · unfold updS
              by_cases e : q = j
              · rw [if_pos e]
                exact ⟨hE.2, (unhide HM).2⟩
              · rw [if_neg e]
                exact unhide HP q (by omega) h2
          generalize ndAt L j = d at *
          obtain ⟨pl, ⟨ka, kn, kc, kids⟩, ⟨qa, qn, qc, pay⟩⟩ := d
          simp only at y0 y1 y2 hk0 HF hkl hkm
          subst hk0
          clear hE
          gi_wp2
          exact unhide HF
        · have hk1 : 0 < (ndAt L j).k.ln := by omega
          have hk5 := (unhide HT).k5 j hj
          have HKID := hide ((unhide HT).kid j hj)
          have HKLT : Hid (∀ i, i < (ndAt L j).k.ln → j < s j i ∧ s j i < n) := fun i hi => ⟨(unhide HT).pos j hj i, (unhide HT).klt j hj i hi⟩
          have HCJ := hide (unhide HCH j hj hk1)
          have HGJ := hide (unhide HCG j)
          have HKI : Hid (SlIn w (ndAt L j).k) := (unhide HM).1
          have HDN := hide (fun (x : Int) (y : Sl) h1 => done_next (x := x) (y := y) (unhide HT) (unhide HD) hj (fun h => absurd h hk0) h1)
          generalize ndAt L j = d at *
          obtain ⟨pl, ⟨ka, kn, kc, kids⟩, ⟨qa, qn, qc, pay⟩⟩ := d
          unfold SlIn at HKI
          simp only at y0 y1 y2 hk0 hk1 hk5 HKID HKLT HCJ HKI HDN hkl hkm HGJ
          have hmk := fun X => mk53 (n := kn) (by omega) X
          clear HM
          gi_wp2
          have hkA : Keep (fun b => b < W₂.heap.size) W₂ (W₂.alloc (.cells (madeCells #[.slice none 0 0] kn) 25)) := Keep.of_below (by go_grown : Below W₂.heap.size W₂ _) (fun b hb => hb)
          have hGA : (W₂.alloc (.cells (madeCells #[.slice none 0 0] kn) 25)).heap[W₂.heap.size]? = some (.cells (madeCells #[.slice none 0 0] kn) 25 (0, 0)) := World.alloc_heap_new W₂ _
          have HKA := hide hkA
          have HGA : Hid (RowG (W₂.alloc (.cells (madeCells #[.slice none 0 0] kn) 25)) W₂.heap.size kn (fun t => if t < 0 then ge (s j t) else slNone)) := ⟨blk_lt hGA, fun t ht => ⟨(cell_in' hGA t).1.trans (made_cell _ kn t ht), (cell_in' hGA t).2⟩⟩
          have HBW : Hid (∀ wr, Keep (fun b => b < W₂.heap.size) W₂ wr → Below w.heap.size w wr) := fun wr kq => (unhide HI2).bel.trans ⟨kq.os, kq.tape, kq.output, kq.size, fun q hq => kq.block q (by have := (unhide HI2).sz; omega)⟩
          have HX3 : Hid (∀ wr, Keep (fun b => b < W₂.heap.size) W₂ wr → wr.cell? ⟨w.heap.size + 3, 0, none⟩ = some (.slice (some ⟨gg, 0, none⟩) n n)) := fun wr kq => (kq.cell (p := ⟨w.heap.size + 3, 0, none⟩) (by show w.heap.size + 3 < _; omega)).trans x3
          have HGG : Hid (∀ wr, Keep (fun b => b < W₂.heap.size) W₂ wr → RowG wr gg n ge) := fun wr kq => (unhide HRG).keep (kq.block _ (by omega)) kq.size
          clear hkA hGA
          gi_loopw [40, 9, 10] (fun i _ _ wr => Hid (Keep (fun b => b < W₂.heap.size) W₂ wr) ∧ ∃ q : Nat, q ≤ kn ∧ i = .int .i64 q ∧ Hid (RowG wr W₂.heap.size kn (fun t => if t < q then ge (s j t) else slNone))) (fun i _ _ _ => kn - (intOf i).toNat)
          case atStart => exact ⟨HKA, 0, Nat.zero_le _, rfl, HGA⟩
          case round =>
            clear HKA HGA
            obtain ⟨HKr, q, hq, rfl, HGr⟩ := hrel
            by_cases hql : q < kn
            · obtain ⟨kb, ko, eka, hkb, hkc⟩ := ((unhide HKI).later (unhide HBW _ (unhide HKr))).nth (by omega)
              subst eka
              have z1 := hkc q hql
              rw [unhide HKID q hql] at z1
              have hkl2 := unhide HKLT q hql
              have z2 := unhide HX3 _ (unhide HKr)
              obtain ⟨z3, -⟩ := (unhide HGG _ (unhide HKr)).2 (s j q) hkl2.2
              obtain ⟨z4, z5⟩ := (unhide HGr).2 q hql
              dsimp only at z4
              rw [if_neg (by omega)] at z4
              have z6 := (unhide HGr).1
              have HF : Hid (Keep (fun b => b < W₂.heap.size) W₂ (wr.setCell ⟨W₂.heap.size, q, none⟩ (.slice (ge (s j q)).la (ge (s j q)).ln (ge (s j q)).lc)) ∧ RowG (wr.setCell ⟨W₂.heap.size, q, none⟩ (.slice (ge (s j q)).la (ge (s j q)).ln (ge (s j q)).lc)) W₂.heap.size kn (fun t => if t < q + 1 then ge (s j t) else slNone)) := by
                refine ⟨(unhide HKr).trans ⟨rfl, rfl, rfl, by simp, fun p hp => Below.heap_setCell _ _ _ _ (by show p ≠ W₂.heap.size; omega)⟩, ?_⟩
                have hst := (unhide HGr).set (x := ge (s j q)) hql
                refine ⟨hst.1, fun t ht => ?_⟩
                have := hst.2 t ht
                unfold updS at this
                dsimp only at this ⊢
                by_cases e : t = q
                · subst e
                  rw [if_pos rfl] at this
                  rw [if_pos (by omega)]
                  exact this
                · rw [if_neg e] at this
                  by_cases e2 : t < q
                  · rw [if_pos e2] at this
                    rw [if_pos (by omega)]
                    exact this
                  · rw [if_neg e2] at this
                    rw [if_neg (by omega)]
                    exact this
              have e1 : True := trivial
              clear hkc
              obtain ⟨sq, esq⟩ : ∃ sq, s j q = sq := ⟨_, rfl⟩
              rw [esq] at z1 z3 HF hkl2
              generalize ge sq = G at *
              obtain ⟨la, ln, lc, li⟩ := G
              simp only at z3 HF
              have z4' : wr.cell? ⟨W₂.heap.size, q, none⟩ = some (.slice none 0 0) := z4
              clear z4 e1 esq
              gi_wp2
              go_roundw
              case rel => exact ⟨(unhide HF).1, q + 1, by omega, by go_num, (unhide HF).2⟩
              case measure => simp [intOf]; omega
            · obtain rfl : kn = q := by omega
              obtain ⟨KL, hKL⟩ : ∃ KL : List Sl, KL = (List.range kn).map (fun t => ge (s j t)) := ⟨_, rfl⟩
              have hKA : ∀ t, t < kn → slAt KL t = ge (s j t) := fun t ht => by
                rw [hKL]
                unfold slAt
                rw [List.getElem?_map, List.getElem?_range ht]
                rfl
              have hLs : Lsts wr (some ⟨W₂.heap.size, 0, none⟩) kn kn KL := by
                refine ⟨by rw [hKL]; simp, Nat.le_refl _, by unfold maxLen; omega, fun x hx => ?_, .inr ⟨W₂.heap.size, 0, rfl, (unhide HGr).1, fun t ht => ?_⟩⟩
                · rw [hKL] at hx
                  obtain ⟨t, ht, rfl⟩ := List.mem_map.1 hx
                  have ht' : t < kn := List.mem_range.1 ht
                  have := unhide HKLT t ht'
                  exact Ints.later (unhide HP (s j t) (by omega) this.2).2 (unhide HBW _ (unhide HKr))
                · have := ((unhide HGr).2 t ht).1
                  dsimp only at this
                  rw [if_pos ht] at this
                  rw [Nat.zero_add, hKA t ht]
                  exact this
              have hLn : ∀ i, i < kn → (slAt KL i).ln = P := fun i hi => by
                rw [hKA i hi]
                have := unhide HKLT i hi
                exact (unhide HP (s j i) (by omega) this.2).1
              have hbd : Below wr.heap.size wr wr.drew := (Below.refl _ _).drew
              have hBWr := unhide HBW _ (unhide HKr)
              obtain ⟨v, hv, hCHv, hcall⟩ := unhide HCJ KL hLs.1.symm hLn
              have hCH2 := unhide HGJ _ (fun i => (ge (s j i)).ints) v (fun i hi => by show (slAt KL i).ints = _; rw [hKA i hi]) hCHv
              have HCV := hide hCH2
              have HCALL : Hid (∀ Z, Below wr.drew.heap.size wr.drew Z → Calls Try.prog fid (#[.int .i64 (j : Int), .slice (some ⟨W₂.heap.size, 0, none⟩) kn kn] ++ lb) Z fun e w' => e = .returned (.int .i64 v) ∧ Below wr.drew.heap.size wr.drew w') := fun Z hZ => (hcall Z _ _ ((hBWr.trans (hbd.mono hBWr.size)).trans (hZ.mono (Nat.le_trans hBWr.size hbd.size))) ((hLs.later hbd).later hZ)).mono (fun e w' ⟨h1, h2⟩ => ⟨h1, hZ.trans (h2.mono hZ.size)⟩)
              clear hcall hCHv hCH2
              have HKAl := hide hKA
              have hcF : (fun i => (slAt KL i).ints) = (fun i => (slAt KL i).ints) := rfl
              have v1 : wr.cell? ⟨w.heap.size + 1, 0, none⟩ = some (.func (.func fid) #[] lb) := by
                have h1 := (cell_in' (unhide HI2).h1 0).1
                simp at h1
                exact ((unhide HKr).cell (p := ⟨w.heap.size + 1, 0, none⟩) (by show w.heap.size + 1 < _; omega)).trans h1
              have v2 : wr.cell? ⟨w.heap.size + 2, 0, none⟩ = some (.slice (some ⟨gc, 0, none⟩) n n) := ((unhide HKr).cell (p := ⟨w.heap.size + 2, 0, none⟩) (by show w.heap.size + 2 < _; omega)).trans x2
              have hdd : Fence.wide.depth.isSome = true → 1 ≤ m := fun h => by simp [Fence.wide] at h
              have HRIr := hide ((unhide HRI).keep ((unhide HKr).block gc (by omega)) (unhide HKr).size)
              have HT5 : Hid (∀ w5, Below wr.drew.heap.size wr.drew w5 → w5.cell? ⟨w.heap.size + 2, 0, none⟩ = some (.slice (some ⟨gc, 0, none⟩) n n) ∧ w5.cell? ⟨gc, j, none⟩ = some (.int .i64 (ch j)) ∧ w5.frozen? ⟨gc, j, none⟩ = false ∧ gc < w5.heap.size) := fun w5 hb => by
                have hr := (unhide HRIr).keep (W' := w5) (hb.block gc (unhide HRIr).1) hb.size
                exact ⟨(hb.cell (p := ⟨w.heap.size + 2, 0, none⟩) (World.block_lt_of_cell? wr _ v2)).trans v2, (hr.2 j hj).1, (hr.2 j hj).2, hr.1⟩
              clear hcF hKL hLs hLn hKA hmk hm53 y0 y1 y2 gj ij x3 x2 hbd hBWr
              gi_wp2
              refine wpIn_calm_tail (fun Z => Below wr.drew.heap.size wr.drew Z) 6 (by kernel_rfl) (by kernel_rfl) (by intro o ho c; simp at ho; rcases ho with rfl | rfl | rfl | rfl | rfl | rfl | rfl | rfl <;> (intro h; cases h)) (Below.refl _ _) ?_
              simp only [List.take_succ_cons, List.take_zero, List.drop_succ_cons, List.drop_zero]
              have HV1 : Hid (∀ Z, Below wr.drew.heap.size wr.drew Z → Z.cell? ⟨w.heap.size + 1, 0, none⟩ = some (.func (.func fid) #[] lb)) := fun Z hZ => (hZ.cell (p := ⟨w.heap.size + 1, 0, none⟩) (World.block_lt_of_cell? wr _ v1)).trans v1
              refine walkC_yes (.slice (some ⟨gc, 0, none⟩) n n) (by kernel_rfl) (fun Z hZ => ?_) ?_
              · simp [upC, go_sem, (unhide HT5 Z hZ).1]
                exact hZ
              simp only [Act.put, List.setIfInBounds_toArray, List.set_cons_succ, List.set_cons_zero]
              refine walkC_yes (.int .i64 (j : Int)) (by kernel_rfl) (fun Z hZ => ?_) ?_
              · simp [upC, go_sem]
                exact hZ
              simp only [Act.put, List.setIfInBounds_toArray, List.set_cons_succ, List.set_cons_zero]
              refine walkC_yes (.func (.func fid) #[] lb) (by kernel_rfl) (fun Z hZ => ?_) ?_
              · simp [upC, go_sem, unhide HV1 Z hZ]
                exact hZ
              simp only [Act.put, List.setIfInBounds_toArray, List.set_cons_succ, List.set_cons_zero]
              refine walkC_yes (.int .i64 (j : Int)) (by kernel_rfl) (fun Z hZ => ?_) ?_
              · simp [upC, go_sem]
                exact hZ
              simp only [Act.put, List.setIfInBounds_toArray, List.set_cons_succ, List.set_cons_zero]
              refine walkC_yes (.slice (some ⟨W₂.heap.size, 0, none⟩) kn kn) (by kernel_rfl) (fun Z hZ => ?_) ?_
              · simp [upC, go_sem]
                exact hZ
              simp only [Act.put, List.setIfInBounds_toArray, List.set_cons_succ, List.set_cons_zero]
              refine walkC_yes (.int .i64 (v : Int)) (by kernel_rfl) (fun Z hZ => ?_) ?_
              · simp [upC, go_sem, heg]
                exact unhide HCALL Z hZ
              simp only [Act.put, List.setIfInBounds_toArray, List.set_cons_succ, List.set_cons_zero]
              intro w5 hb5
              obtain ⟨t1, t2, t3, t4⟩ := unhide HT5 w5 hb5
              have hb5' : Below wr.heap.size wr w5 := (show Below wr.heap.size wr wr.drew from (Below.refl _ _).drew).trans hb5
              have hK5 : Keep (fun b => b < W₂.heap.size) W₂ w5 := (unhide HKr).trans (Keep.of_below hb5' (fun b hb => Nat.lt_of_lt_of_le hb (unhide HKr).size))
              have hG5 := unhide HGG w5 hK5
              have hI5 := (unhide HRIr).keep (W' := w5) (hb5.block gc (unhide HRIr).1) hb5.size
              have hR5 := (unhide HGr).keep (W' := w5) (hb5.block W₂.heap.size (unhide HGr).1) hb5.size
              have hx5 := unhide HX3 w5 hK5
              obtain ⟨w6, hw6⟩ : ∃ w6, w5.setCell ⟨gc, j, none⟩ (.int .i64 (v : Int)) = w6 := ⟨_, rfl⟩
              have hs6 : w6.heap.size = w5.heap.size := by rw [← hw6]; simp
              have hblk6 : ∀ q, q ≠ gc → w6.heap[q]? = w5.heap[q]? := fun q hq => by rw [← hw6]; exact Below.heap_setCell _ _ _ _ hq
              have hI6 : RowI w6 gc n (upd ch j v) := by rw [← hw6]; exact hI5.set hj
              have hG6 : RowG w6 gg n ge := hG5.keep (hblk6 gg (fun e => hne e.symm)) (by omega)
              have hR6 := hR5.keep (W' := w6) (hblk6 W₂.heap.size (by omega)) (by omega)
              have u3 : w6.cell? ⟨w.heap.size + 3, 0, none⟩ = some (.slice (some ⟨gg, 0, none⟩) n n) := (World.cell?_of_block (a := ⟨w.heap.size + 3, 0, none⟩) (hblk6 (w.heap.size + 3) (by omega))).trans hx5
              have u2 : w6.cell? ⟨w.heap.size + 2, 0, none⟩ = some (.slice (some ⟨gc, 0, none⟩) n n) := (World.cell?_of_block (a := ⟨w.heap.size + 2, 0, none⟩) (hblk6 (w.heap.size + 2) (by omega))).trans t1
              have uc : w6.cell? ⟨gc, j, none⟩ = some (.int .i64 (v : Int)) := by have := (hI6.2 j hj).1; rwa [upd_at] at this
              have uk : w6.cell? ⟨W₂.heap.size, v, none⟩ = some (.slice (ge (s j v)).la (ge (s j v)).ln (ge (s j v)).lc) := by
                have := (hR6.2 v hv).1
                dsimp only at this
                rw [if_pos hv] at this
                exact this
              have ug := hG6.2 j hj
              have ug2 := hG6.1
              have hvj := unhide HKLT v hv
              have HF : Hid (∀ w7, w7 = w6.drew.setCell ⟨gg, j, none⟩ (.slice (ge (s j v)).la (ge (s j v)).ln (ge (s j v)).lc) → SI w P (some ⟨b, off, none⟩) n c L (.func (.func fid) #[] lb) gc gg CH s (k + 1) w7 ∧ Keep (fun b => w.heap.size + 7 ≤ b ∧ b < W₂.heap.size) W₂ w7) := fun w7 hw7 => by
                have hs7 : w7.heap.size = w6.heap.size := by rw [hw7]; simp
                have hblk7 : ∀ q, q ≠ gg → w7.heap[q]? = w6.heap[q]? := fun q hq => by rw [hw7]; exact Below.heap_setCell _ _ _ _ hq
                have hb7 : ∀ q, q ≠ gg → q ≠ gc → q < W₂.heap.size → w7.heap[q]? = W₂.heap[q]? := fun q h1 h2 h3 => (hblk7 q h1).trans ((hblk6 q h2).trans (hK5.block q h3))
                have ho : w7.os = w5.os ∧ w7.tape = w5.tape ∧ w7.output = w5.output := by rw [hw7, ← hw6]; exact ⟨rfl, rfl, rfl⟩
                have h2 := unhide HI2
                have hsz5 := hK5.size
                refine ⟨⟨⟨ho.1.trans (hK5.os.trans h2.bel.os), ho.2.1.trans (hK5.tape.trans h2.bel.tape), ho.2.2.trans (hK5.output.trans h2.bel.output), by have := h2.bel.size; omega, fun q hq => (hb7 q (by omega) (by omega) (by omega)).trans (h2.bel.block q hq)⟩, by have := h2.sz; omega, (hb7 _ (by omega) (by omega) (by omega)).trans h2.h0, (hb7 _ (by omega) (by omega) (by omega)).trans h2.h1, (hb7 _ (by omega) (by omega) (by omega)).trans h2.h2, (hb7 _ (by omega) (by omega) (by omega)).trans h2.h3, (hb7 _ (by omega) (by omega) (by omega)).trans h2.h6, upd ch j v, updS ge j (ge (s j v)), hI6.keep (hblk7 gc hne) (by omega), ?_, ?_, fun q hq => ?_, fun q h1 h2 => ?_⟩, ⟨ho.1.trans hK5.os, ho.2.1.trans hK5.tape, ho.2.2.trans hK5.output, by omega, fun q hq => hb7 q (by omega) (by omega) hq.2⟩⟩
                · rw [hw7]
                  exact (hG6.keep (W' := w6.drew) rfl (Nat.le_refl _)).set hj
                · rw [hnk2]
                  exact unhide HDN v (ge (s j v)) (fun _ => ⟨v, rfl, hv, unhide HCV, rfl⟩)
                · rw [upd_ne (by omega)]
                  exact unhide HZ q (by omega)
                · unfold updS
                  by_cases e : q = j
                  · rw [if_pos e]
                    exact unhide HP (s j v) (by omega) hvj.2
                  · rw [if_neg e]
                    exact unhide HP q (by omega) h2
              have HW6 := hide hw6
              have u3' := u3
              clear hb5 hb5' hK5 hG5 hI5 hR5 hx5 hblk6 hI6 hG6 hR6 hw6 t1 hs6 v1 v2
              generalize ge (s j v) = G at *
              obtain ⟨gla, gln, glc, gli⟩ := G
              simp only at uk HF
              generalize ch j = chj at *
              gi_wp2
              rw [unhide HW6]
              refine wpIn_calm_tail (fun Z => Z = w6.drew) 9 (by kernel_rfl) (by kernel_rfl) (by intro o ho c; simp at ho; rcases ho with rfl | rfl | rfl | rfl | rfl | rfl | rfl | rfl | rfl | rfl | rfl <;> (intro h; cases h)) rfl ?_
              simp only [List.take_succ_cons, List.take_zero, List.drop_succ_cons, List.drop_zero]
              refine walkC_yes (.slice (some ⟨gg, 0, none⟩) n n) (by kernel_rfl) (fun Z hZ => ?_) ?_
              · subst hZ
                simp [upC, go_sem, u3]
              simp only [Act.put, List.setIfInBounds_toArray, List.set_cons_succ, List.set_cons_zero]
              refine walkC_yes (.int .i64 (j : Int)) (by kernel_rfl) (fun Z hZ => ?_) ?_
              · subst hZ
                simp [upC, go_sem]
              simp only [Act.put, List.setIfInBounds_toArray, List.set_cons_succ, List.set_cons_zero]
              refine walkC_yes (.slice (some ⟨W₂.heap.size, 0, none⟩) kn kn) (by kernel_rfl) (fun Z hZ => ?_) ?_
              · subst hZ
                simp [upC, go_sem]
              simp only [Act.put, List.setIfInBounds_toArray, List.set_cons_succ, List.set_cons_zero]
              refine walkC_yes (.slice (some ⟨gc, 0, none⟩) n n) (by kernel_rfl) (fun Z hZ => ?_) ?_
              · subst hZ
                simp [upC, go_sem, u2]
              simp only [Act.put, List.setIfInBounds_toArray, List.set_cons_succ, List.set_cons_zero]
              refine walkC_yes (.int .i64 (j : Int)) (by kernel_rfl) (fun Z hZ => ?_) ?_
              · subst hZ
                simp [upC, go_sem]
              simp only [Act.put, List.setIfInBounds_toArray, List.set_cons_succ, List.set_cons_zero]
              refine walkC_yes (.pointer (some ⟨gc, j, none⟩)) (by kernel_rfl) (fun Z hZ => ?_) ?_
              · subst hZ
                simp [upC, go_sem, hj]
              simp only [Act.put, List.setIfInBounds_toArray, List.set_cons_succ, List.set_cons_zero]
              refine walkC_yes (.int .i64 (v : Int)) (by kernel_rfl) (fun Z hZ => ?_) ?_
              · subst hZ
                simp [upC, go_sem, uc]
              simp only [Act.put, List.setIfInBounds_toArray, List.set_cons_succ, List.set_cons_zero]
              refine walkC_yes (.pointer (some ⟨W₂.heap.size, v, none⟩)) (by kernel_rfl) (fun Z hZ => ?_) ?_
              · subst hZ
                simp [upC, go_sem, hv]
              simp only [Act.put, List.setIfInBounds_toArray, List.set_cons_succ, List.set_cons_zero]
              refine walkC_yes (.slice gla gln glc) (by kernel_rfl) (fun Z hZ => ?_) ?_
              · subst hZ
                simp [upC, go_sem, uk]
              simp only [Act.put, List.setIfInBounds_toArray, List.set_cons_succ, List.set_cons_zero]
              intro w7 hw7
              subst hw7
              obtain ⟨ug0, ug1⟩ := ug
              gi_wp2
              have hf := unhide HF _ rfl
              rw [← hszA] at hf
              exact hf
    case done =>
      intro D W hD hI hdef
      obtain ⟨ch, ge, rI, rG, hDn, hz, hP⟩ := hI.rows
      rw [Nat.sub_self] at hDn hP
      have x3 := (cell_in' hI.h3 0).1
      have x2 := (cell_in' hI.h2 0).1
      have f3 := (cell_in' hI.h3 0).2
      have f2 := (cell_in' hI.h2 0).2
      simp at x3 x2
      have HI := hide hI
      have HR := hide (And.intro rI (And.intro rG (And.intro hDn hP)))
      have HDF := hide hdef
      clear hI rI rG hDn hP hz hdef
      go_wp2_with fail
      go_region
      obtain ⟨W8, hW8⟩ : ∃ W8, ((W.setCell ⟨w.heap.size + 1 + 1, 0, none⟩ (.slice (some ⟨gc, 0, none⟩) n n)).setCell ⟨w.heap.size + 1 + 1 + 1, 0, none⟩ (.slice (some ⟨gg, 0, none⟩) n n)).drew = W8 := ⟨_, rfl⟩
      rw [hW8]
      have h2' := (unhide HI).h2
      have h3' := (unhide HI).h3
      have e1 : (W.setCell ⟨w.heap.size + 1 + 1, 0, none⟩ (.slice (some ⟨gc, 0, none⟩) n n)).heap[w.heap.size + 2]? = some (.cells #[.slice (some ⟨gc, 0, none⟩) n n] 25 (0, 0)) := by
        rw [show w.heap.size + 1 + 1 = w.heap.size + 2 by omega, heap_setCell_same _ _ _ _ _ _ h2']; rfl
      have k8 : ∀ q, q ≠ w.heap.size + 2 → q ≠ w.heap.size + 3 → W8.heap[q]? = W.heap[q]? := fun q h1 h2 => by
        rw [← hW8]
        show (World.setCell _ _ _).heap[q]? = _
        rw [Below.heap_setCell _ _ _ _ (by show q ≠ w.heap.size + 1 + 1 + 1; omega), Below.heap_setCell _ _ _ _ (by show q ≠ w.heap.size + 1 + 1; omega)]
      have m2 : W8.heap[w.heap.size + 2]? = some (.cells #[.slice (some ⟨gc, 0, none⟩) n n] 25 (0, 0)) := by
        rw [← hW8]
        show (World.setCell _ _ _).heap[w.heap.size + 2]? = _
        rw [Below.heap_setCell _ _ _ _ (by show _ ≠ w.heap.size + 1 + 1 + 1; omega)]
        exact e1
      have m3 : W8.heap[w.heap.size + 3]? = some (.cells #[.slice (some ⟨gg, 0, none⟩) n n] 53 (0, 0)) := by
        rw [← hW8]
        show (World.setCell _ _ _).heap[w.heap.size + 3]? = _
        have e3 : (W.setCell ⟨w.heap.size + 1 + 1, 0, none⟩ (.slice (some ⟨gc, 0, none⟩) n n)).heap[w.heap.size + 3]? = some (.cells #[.slice (some ⟨gg, 0, none⟩) n n] 53 (0, 0)) := by
          rw [Below.heap_setCell _ _ _ _ (by show _ ≠ w.heap.size + 1 + 1; omega)]; exact h3'
        rw [show w.heap.size + 1 + 1 + 1 = w.heap.size + 3 by omega, heap_setCell_same _ _ _ _ _ _ e3]; rfl
      have s8 : W8.heap.size = W.heap.size := by rw [← hW8]; simp
      have o8 : W8.os = W.os ∧ W8.tape = W.tape ∧ W8.output = W.output := by rw [← hW8]; exact ⟨rfl, rfl, rfl⟩
      have d8 : W8.heap[D]? = some (.deferred (some [])) := (k8 D (by omega) (by omega)).trans (unhide HDF)
      have HFIN : Hid (∀ W9, W9 = W8.putObj D (.deferred none) → SetP w P n L CH s (.returned (.tuple #[.slice (some ⟨gc, 0, none⟩) n n, .slice (some ⟨gg, 0, none⟩) n n])) W9 ∧ W9.cell? ⟨w.heap.size + 2, 0, none⟩ = some (.slice (some ⟨gc, 0, none⟩) n n) ∧ W9.cell? ⟨w.heap.size + 3, 0, none⟩ = some (.slice (some ⟨gg, 0, none⟩) n n)) := fun W9 h9 => by
        have k9 : ∀ q, q ≠ D → W9.heap[q]? = W8.heap[q]? := fun q hq => by rw [h9]; exact World.putObj_heap_other (fun e => hq e)
        have s9 : W9.heap.size = W8.heap.size := by rw [h9]; simp
        have o9 : W9.os = W8.os ∧ W9.tape = W8.tape ∧ W9.output = W8.output := by rw [h9]; exact ⟨rfl, rfl, rfl⟩
        have n2 := (cell_in' ((k9 (w.heap.size + 2) (by omega)).trans m2) 0).1
        have n3 := (cell_in' ((k9 (w.heap.size + 3) (by omega)).trans m3) 0).1
        simp at n2 n3
        obtain ⟨rI, rG, hDn, hP⟩ := unhide HR
        have hb := (unhide HI).bel
        refine ⟨⟨gc, gg, ch, ge, rfl, by omega, by omega, rI.keep ((k9 gc (by omega)).trans (k8 gc (by omega) (by omega))) (by omega), rG.keep ((k9 gg (by omega)).trans (k8 gg (by omega) (by omega))) (by omega), hDn, fun j hj => hP j (Nat.zero_le _) hj, ⟨(o9.1.trans o8.1).trans hb.os, (o9.2.1.trans o8.2.1).trans hb.tape, (o9.2.2.trans o8.2.2).trans hb.output, by have := hb.size; omega, fun q hq => ((k9 q (by omega)).trans (k8 q (by omega) (by omega))).trans (hb.block q hq)⟩⟩, n2, n3⟩
      clear hW8 h2' h3' e1 k8 m2 m3 x2 x3 f2 f3 o8 s8
      go_wp2_with fail
      refine ⟨by simp, .inl ⟨_, _, rfl, run_takeDeferred d8, ?_⟩⟩
      obtain ⟨hset, c2', c3'⟩ := unhide HFIN _ rfl
      refine ⟨.tuple #[.slice (some ⟨gc, 0, none⟩) n n, .slice (some ⟨gg, 0, none⟩) n n], ?_, hset⟩
      exact res25 _ _ (w.heap.size + 1 + 1) (w.heap.size + 1 + 1 + 1) _ _ n rfl rfl c2' c3'
end Go.Proofs.Ytbcchbhchfdbiaa
