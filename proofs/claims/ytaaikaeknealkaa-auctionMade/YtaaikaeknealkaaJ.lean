import Derived.Test.YtaaikaeknealkaaI
namespace Go.Proofs.Ytaaikaeknealkaa
open Go.RowKit
theorem erase_lsts {w0 w w' : World} {a : Option Addr} {n c g cap i : Nat} {L : List Sl} (h : Lsts w0 a n c L) (hb : Below w0.heap.size w0 w) (hg : w0.heap.size ≤ g) (hgs : g < w'.heap.size) (hbw : Below g w w') (hi : i < n) (hcap : n ≤ cap) (hcm : cap ≤ maxLen)
    (hc : ∀ k, k < i + (n - (i + 1)) → w'.cell? ⟨g, k, none⟩ = some (Sl.val (slAt L (if k < i then k else k + (i + 1 - i))))) : Lsts w' (some ⟨g, 0, none⟩) (i + (n - (i + 1))) cap (L.eraseIdx i) := by
  have hl := h.1
  have hb2 : Below w0.heap.size w0 w' := hb.trans (hbw.mono hg)
  refine ⟨by rw [List.length_eraseIdx, if_pos (by omega)]; omega, by omega, hcm, fun s hs' => (h.2.2.2.1 s (List.mem_of_mem_eraseIdx hs')).later hb2, .inr ⟨g, 0, rfl, hgs, fun k hk => ?_⟩⟩
  rw [Nat.zero_add, hc k hk, slAt_erase, show i + 1 - i = 1 by omega]
  rfl
theorem Ints.other {w : World} {a : Option Addr} {n c g o : Nat} {l : List Int} {v : Value} (h : Ints w a n c l) (hne : ∀ b o, a = some ⟨b, o, none⟩ → b ≠ g) : Ints (w.setCell ⟨g, o, none⟩ v) a n c l := by
  obtain ⟨h1, h2, h3, h4⟩ := h
  refine ⟨h1, h2, h3, h4.imp id ?_⟩
  rintro ⟨b, off, e, hb, hc⟩
  exact ⟨b, off, e, by simpa using hb, fun j hj => by rw [World.cell?_setCell_other _ _ _ _ (by intro hh; cases hh; exact hne _ _ e rfl)]; exact hc j hj⟩
set_option maxRecDepth 100000 in
set_option maxHeartbeats 4000000 in
theorem share_any (it : Int) (a : Option Addr) (n c : Nat) (L : List Sl) (w : World) (h : Lsts w a n c L) :
    Calls Try.prog 7 #[bidV it a n c] w (ShareP it n L w) := by
  have CM := hide (fun W hW => may_any it a n c L W (h.later (w' := W) hW))
  unfold bidV at *
  have hA : Below w.heap.size w ((w.alloc (.cells #[.int .i64 it, .slice a n c] 24)).alloc (.cells #[.slice none 0 0, .slice none 0 0] 28)) := by go_grown
  have hBx : ((w.alloc (.cells #[.int .i64 it, .slice a n c] 24)).alloc (.cells #[.slice none 0 0, .slice none 0 0] 28)).heap[w.heap.size]? = some (.cells #[.int .i64 it, .slice a n c] 24 (0, 0)) := by
    rw [heap_alloc_old _ _ (by simp)]; exact heap_alloc_new _ _
  have hBy : ((w.alloc (.cells #[.int .i64 it, .slice a n c] 24)).alloc (.cells #[.slice none 0 0, .slice none 0 0] 28)).heap[w.heap.size + 1]? = some (.cells #[.slice none 0 0, .slice none 0 0] 28 (0, 0)) := heap_alloc2_new _ _ _
  have hsz0 : ((w.alloc (.cells #[.int .i64 it, .slice a n c] 24)).alloc (.cells #[.slice none 0 0, .slice none 0 0] 28)).heap.size = w.heap.size + 2 := by simp
  by_cases hz : seE it L = 0
  · obtain ⟨h0, h4, hn1, hn4, hLok, -⟩ := seE_zero hz
    have hl : n = L.length := h.1
    rw [← hl] at hn1 hn4
    obtain ⟨t, rfl⟩ : ∃ t : Nat, it = t := ⟨it.toNat, by omega⟩
    rw [Int.toNat_natCast] at hLok
    have ht : t ≤ 4 := by omega
    obtain ⟨P, hP⟩ : ∃ P : Nat, P = 2 ^ t := ⟨_, rfl⟩
    have hwp := wrap_pow hP ht
    have hP16 : P ≤ 16 := by rw [hP]; exact pow_le ht
    have hP0 : 0 < P := by rw [hP]; exact Nat.two_pow_pos t
    obtain ⟨al, hal⟩ : ∃ al, al = P - 1 := ⟨_, rfl⟩
    have hali : (P : Int) - 1 = (al : Int) := by omega
    have HF : Hid (∀ w' sa sc pa pc, Below w.heap.size w w' → Ints w' sa n sc (bst (fs L) al).2 → Ints w' pa n pc (lF n (pay L al)) → ShareP (t : Int) n L w (.returned (.tuple #[.agg #[.slice sa n sc, .slice pa n pc], .int .i64 0])) w') := fun w' sa sc pa pc q1 q2 q3 => by
      refine ⟨q1, .inr ⟨hz, sa, sc, pa, pc, rfl, ?_, ?_⟩⟩
      · rw [Int.toNat_natCast, ← hP, ← hal]; exact q2
      · rw [Int.toNat_natCast, ← hP, ← hal]; exact q3
    rw [← hP] at hLok
    have HLK := hide hLok
    have HL : Hid (∀ W, Below w.heap.size w W → Lsts W a n c L) := fun W hW => h.later hW
    have HB1 := hide (fun W hW => best_any P hP16 L a n c al W (h.later (w' := W) hW) hn4 (by omega) hLok)
    have hble := bst_le (fs L) hLok.wok al (by omega)
    have hblen := bst_len (fs L) hLok.wok al (by omega)
    have hfl : (fs L).length = n := by rw [hl]; simp [fs]
    rw [hfl] at hble hblen
    have HRG : Hid (∀ j, j < n → 0 ≤ nth (bst (fs L) al).2 j ∧ nth (bst (fs L) al).2 j ≤ al) := fun j hj => bst_rng (fs L) hLok.wok al (by omega) _ (by unfold nth; rw [List.getElem?_eq_getElem (by omega)]; exact List.getElem_mem _)
    have HPY : Hid (∀ j, j < n → 0 ≤ (bst (fs (L.eraseIdx j)) al).1 ∧ (bst (fs (L.eraseIdx j)) al).1 ≤ 4000) := fun j hj => by
      have := bst_le (fs (L.eraseIdx j)) (hLok.erase j).wok al (by omega)
      have e : (fs (L.eraseIdx j)).length = n - 1 := by unfold fs; rw [List.length_map, List.length_eraseIdx, if_pos (by omega)]; omega
      rw [e] at this
      omega
    have HV : Hid (∀ j q, j < n → 0 ≤ q → q ≤ (al : Int) → 0 ≤ nth (slAt L j).ints q.toNat ∧ nth (slAt L j).ints q.toNat ≤ 1000) := fun j q hj q0 q1 => (hLok _ (slAt_mem (by omega))).2 q.toNat (by omega)
    have HPE : Hid (∀ j, pay L al j = (bst (fs (L.eraseIdx j)) al).1 - ((bst (fs L) al).1 - nth (slAt L j).ints (nth (bst (fs L) al).2 j).toNat)) := fun j => rfl
    have HLN : Hid (∀ j, j < n → (slAt L j).ln = P) := fun j hj => (hLok _ (slAt_mem (by omega))).1
    rw [hz] at CM
    obtain ⟨i3, hi3, hz0, hz1, hz2⟩ := info_parts info3
    clear hz hLok h hl hfl hP hal h0 h4
    generalize ShareP (t : Int) n L w = PP at *
    go_enter Try.func7, Try.ntmps7
    go_wp2_with fail
    generalize (w.alloc (.cells #[.int .i64 (t : Int), .slice a n c] 24)).alloc (.cells #[.slice none 0 0, .slice none 0 0] 28) = W0 at *
    refine (unhide CM W0 hA).mono ?_
    rintro e w1 ⟨rfl, hb1⟩
    have hbA := hA.trans (hb1.mono hA.size)
    obtain ⟨c0, _⟩ := cell_in' ((hb1.block w.heap.size (by omega)).trans hBx) 0
    obtain ⟨c1, _⟩ := cell_in' ((hb1.block w.heap.size (by omega)).trans hBx) 1
    simp at c0 c1
    go_wp2_with fail
    refine (unhide HB1 w1 hbA).mono ?_
    rintro e w2 ⟨v2, rfl, hR2, hb2⟩
    have hbB := hbA.trans (hb2.mono hbA.size)
    obtain ⟨sa, sc, hv2, hI2⟩ := hR2.ints
    have HSB : Hid (∀ b o, sa = some ⟨b, o, none⟩ → w.heap.size + 2 ≤ b) := fun b o e => by
      rcases hR2 with ⟨_, e2⟩ | ⟨_, g, cap, e2, hg, _⟩
      · rw [hv2, e] at e2; cases e2
      · rw [hv2, e] at e2
        cases e2
        have := hb1.size
        omega
    subst hv2
    have HSI : Hid (Ints w2 sa n sc (bst (fs L) al).2) := by
      have e : lF n (nth (bst (fs L) al).2) = (bst (fs L) al).2 := by
        apply List.ext_getElem?
        intro j
        unfold lF nth
        by_cases hj : j < n
        · rw [List.getElem?_map, List.getElem?_range hj]
          show some ((bst (fs L) al).2[j]?.getD 0) = _
          rw [List.getElem?_eq_getElem (by omega)]; rfl
        · rw [List.getElem?_eq_none (by simp; omega), List.getElem?_eq_none (by omega)]
      rw [e] at hI2
      exact hI2
    have hsc1 := hI2.2.1
    have hsc2 := hI2.2.2.1
    unfold maxLen at hsc2
    clear hI2 hR2 c0 c1
    have HX : Hid (∀ W, Below w2.heap.size w2 W → W.cell? ⟨w.heap.size, 1, none⟩ = some (.slice a n c) ∧ W.heap[w.heap.size + 1]? = some (.cells #[.slice none 0 0, .slice none 0 0] 28 (0, 0))) := fun W hW => by
      have hb02 : Below W0.heap.size W0 W := (hb1.trans (hb2.mono hb1.size)).trans (hW.mono (Nat.le_trans hb1.size hb2.size))
      exact ⟨(cell_in' ((hb02.block w.heap.size (by omega)).trans hBx) 1).1, (hb02.block (w.heap.size + 1) (by omega)).trans hBy⟩
    obtain ⟨S, hS⟩ : ∃ S, S = (bst (fs L) al).2 := ⟨_, rfl⟩
    obtain ⟨M, hM⟩ : ∃ M, M = (bst (fs L) al).1 := ⟨_, rfl⟩
    rw [← hS] at HSI HF HRG HPE
    rw [← hM] at hble HPE
    rw [← hM]
    have HSZ : Hid (w.heap.size + 2 ≤ w2.heap.size) := by
      have := hb1.size
      have := hb2.size
      show _ ≤ _
      omega
    clear hS hM hBx hBy hsz0 HB1 CM hblen
    go_wp2_with (at_make; refine wpList_make_full _ rfl _ _ 26 rfl w2.heap.size 3 i3 _ 1 Try.underlying26 hi3 hz0 hz1 .i64 .i64 _ _ n rfl rfl rfl rfl (by rw [hz2]; omega) (by unfold maxLen; omega) (Nat.le_refl _) ?_; intro w3 ho3 hg3)
    have hbC : Below w2.heap.size w2 w3 := (Below.refl w2.heap.size w2).grown hg3 (Nat.le_refl _) (fun k hk => by cases hk)
    have HR3 := hide (row_made ho3)
    clear ho3 hg3
    go_wp2_with fail
    go_loopw [35, 9, 10, 11, 12] (fun k _ _ _ _ wr => Below w2.heap.size w2 wr ∧ ∃ (x : Nat) (f : Nat → Int), x ≤ n ∧ k = .int .i64 x ∧ Row w2.heap.size wr (some ⟨w2.heap.size, 0, none⟩) n f ∧ (∀ j, j < x → f j = pay L al j)) (fun k _ _ _ _ _ => n - (intOf k).toNat)
    case atStart => exact ⟨hbC, 0, fun _ => 0, Nat.zero_le _, rfl, unhide HR3, fun j hj => by omega⟩
    case round =>
      obtain ⟨hbr, x, f, hx, rfl, hR, hpay⟩ := hrel
      have HR := hide hR
      have HPAY := hide hpay
      clear hR hpay
      have hbw := hbB.trans (hbr.mono hbB.size)
      obtain ⟨xc, -⟩ := unhide HX wr hbr
      by_cases hlt : x < n
      · have hLw := unhide HL wr hbw
        obtain ⟨sb, so, hsae, hsb, hscell⟩ := ((unhide HSI).later hbr).nth (by omega)
        subst hsae
        have hsx := hscell x hlt
        have hrg := unhide HRG x hlt
        have hpe := unhide HPE x
        have hpy := unhide HPY x hlt
        have hvv := unhide HV x (nth S x) hlt hrg.1 hrg.2
        have CC := hide (cloneL_any a n c L wr hLw (by omega) (by omega))
        clear hscell
        obtain ⟨q, hq⟩ : ∃ q : Nat, nth S x = q := ⟨(nth S x).toNat, by omega⟩
        rw [hq] at hsx hrg hpe hvv
        rw [Int.toNat_natCast] at hpe hvv
        clear hq
        go_wp2_with fail
        refine (unhide CC).mono ?_
        rintro e w4 ⟨v4, rfl, ho4, hb4⟩
        obtain ⟨g, cap, hv4, hgb, hgg, hncap, hcapm, hcur⟩ : ∃ g cap, v4 = .slice (some ⟨g, 0, none⟩) n cap ∧ wr.heap.size ≤ g ∧ g < w4.heap.size ∧ n ≤ cap ∧ cap ≤ maxLen ∧ ∀ k, k < n → w4.cell? ⟨g, k, none⟩ = some (Sl.val (slAt L k)) ∧ w4.frozen? ⟨g, k, none⟩ = false := by
          have ho := ho4
          rcases ho4.2 with ⟨_, e⟩ | ⟨g, cap, cur, e, hbg, hgg, hnc, hcm, hcs, htake⟩
          · omega
          · refine ⟨g, cap, e, hbg, (Array.getElem?_eq_some_iff.1 hgg).1, hnc, hcm, fun k hk => ⟨?_, by simp [World.frozen?, hgg]⟩⟩
            subst e
            rw [ho.cellAt k (by have := ho.1; omega), slVals_at L k (by have := hLw.1; omega)]
            rfl
        subst hv4
        have CD := delL_any g n cap x (x + 1) (fun k => Sl.val (slAt L k)) w4 (fun k hk => (hcur k hk).1) (fun k hk => (hcur k hk).2) (fun k hk => rfl) hncap hcapm (by omega) (by omega)
        have hxi : ((x + 1 : Nat) : Int) = (x : Int) + 1 := by omega
        rw [hxi] at CD
        have CD := hide CD
        clear hcur ho4
        go_wp2_with fail
        refine (unhide CD).mono ?_
        rintro e w5 ⟨rfl, hb5, hc5⟩
        have hgs5 : g < w5.heap.size := Nat.lt_of_lt_of_le hgg hb5.size
        have hL5 := erase_lsts hLw hb4 hgb hgs5 hb5 hlt hncap hcapm hc5
        have hbR5 : Below wr.heap.size wr w5 := hb4.trans (hb5.mono hgb)
        have CB := hide (best_any P hP16 (L.eraseIdx x) _ _ _ al w5 hL5 (by omega) (by omega) ((unhide HLK).erase x))
        clear hc5 hL5
        generalize hB2 : bst (fs (L.eraseIdx x)) al = B2 at *
        clear hB2
        go_wp2_with fail
        refine (unhide CB).mono ?_
        rintro e w6 ⟨v6, rfl, _, hb6⟩
        have hbR6 := hbR5.trans (hb6.mono hbR5.size)
        have hbr6 := hbr.trans (hbR6.mono hbr.size)
        have hbw6 := hbB.trans (hbr6.mono hbB.size)
        obtain ⟨yc, -⟩ := unhide HX w6 hbr6
        have hLw6 := unhide HL w6 hbw6
        obtain ⟨lb, lo, hlae, hlb, hlcell⟩ := hLw6.cellAt (by omega)
        subst hlae
        have hlx := hlcell x hlt
        have hI6 := hLw6.mem hlt
        have hlnx := unhide HLN x hlt
        obtain ⟨mb, mo, hmae, hmb, hmcell⟩ := hI6.nth (by omega)
        have hmx := hmcell q (by omega)
        have hk1 := hI6.2.1
        have hk2 := hI6.2.2.1
        unfold maxLen at hk2
        clear hmcell hlcell hI6 hLw6 hLw CB CD CC
        have hR6 := (unhide HR).later hbR6
        obtain ⟨pc0, pf0, psz, pge⟩ := hR6.at hlt
        have HR6 := hide hR6
        clear hR6 HR
        generalize hvq : nth (slAt L x).ints q = y at *
        generalize slAt L x = s at *
        obtain ⟨s1, s2, s3, s4⟩ := s
        simp only at hlx hlnx hmae hk1 hk2
        subst hmae hlnx
        obtain ⟨B21, B22⟩ := B2
        simp only at hpe hpy ⊢
        have HPX : Hid (Row w2.heap.size (w6.setCell ⟨w2.heap.size, x, none⟩ (.int .i64 (B21 - (M - y)))) (some ⟨w2.heap.size, 0, none⟩) n (upd f x (B21 - (M - y)))) := (unhide HR6).set hlt (fun j _ hj => by rw [upd_ne hj]) (upd_at _ _ _).symm
        have HPY2 : Hid (∀ j, j < x + 1 → upd f x (B21 - (M - y)) j = pay L al j) := fun j hj => by
          by_cases e : j = x
          · subst e; rw [upd_at, hpe]
          · rw [upd_ne e]; exact unhide HPAY j (by omega)
        have hb7 : Below w2.heap.size w2 (w6.setCell ⟨w2.heap.size, x, none⟩ (.int .i64 (B21 - (M - y)))) := hbr6.setCell (p := ⟨w2.heap.size, x, none⟩) (Nat.le_refl _) _
        clear hvq hpe
        generalize f x = f0 at *
        go_wp2_with fail
        exact ⟨⟨hb7, x + 1, _, by omega, by go_num, unhide HPX, unhide HPY2⟩, by simp [intOf]; omega⟩
      · obtain rfl : n = x := by omega
        obtain ⟨-, hy⟩ := unhide HX wr hbr
        obtain ⟨c0, f0⟩ := cell_in' hy 0
        obtain ⟨c1, f1⟩ := cell_in' hy 1
        simp at c0 c1
        have hsz : w.heap.size + 1 < wr.heap.size := by
          have := unhide HSZ
          have := hbr.size
          omega
        have HY := hide hy
        have HFX : Hid (PP (.returned (.tuple #[.agg #[.slice sa n sc, .slice (some ⟨w2.heap.size, 0, none⟩) n n], .int .i64 0])) ((wr.setCell ⟨w.heap.size + 1, 0, none⟩ (.slice sa n sc)).setCell ⟨w.heap.size + 1, 1, none⟩ (.slice (some ⟨w2.heap.size, 0, none⟩) n n))) := by
          refine unhide HF _ _ _ _ _ ((hbw.setCell (p := ⟨w.heap.size + 1, 0, none⟩) (by show _ ≤ w.heap.size + 1; omega) _).setCell (p := ⟨w.heap.size + 1, 1, none⟩) (by show _ ≤ w.heap.size + 1; omega) _) ?_ ?_
          · exact (((unhide HSI).later hbr).other (fun b o e => by have := unhide HSB b o e; omega)).other (fun b o e => by have := unhide HSB b o e; omega)
          · refine (((unhide HR).ints (l := lF n (pay L al)) (lF_len _ _).symm (Nat.le_refl _) (by unfold maxLen; omega) (fun j hj => ?_)).other (fun b o e => ?_)).other (fun b o e => ?_)
            · rw [unhide HPAY j hj]; exact (lF_at hj).symm
            · cases e; have := unhide HSZ; omega
            · cases e; have := unhide HSZ; omega
        clear hy HX HF HR HPAY HSI xc
        go_wp2_with fail
        have hr : ((wr.setCell ⟨w.heap.size + 1, 0, none⟩ (.slice sa n sc)).setCell ⟨w.heap.size + 1, 1, none⟩ (.slice (some ⟨w2.heap.size, 0, none⟩) n n)).heap[w.heap.size + 1]? = some (.cells #[.slice sa n sc, .slice (some ⟨w2.heap.size, 0, none⟩) n n] 28 (0, 0)) := by
          rw [heap_setCell_same _ _ _ _ _ _ (heap_setCell_same _ _ _ _ _ _ (unhide HY))]; rfl
        (try simp only [Exit.inBlock, Exit.then])
        refine bodyPost_ret (results_row_tmp rfl _ _ _ (w.heap.size + 1) _ rfl (run_loadVar_row _ (w.heap.size + 1) 28 28 _ (0, 0) _ hr Try.underlying28 rfl (by show _ = some 2; kernel_rfl))) rfl ?_
        exact unhide HFX
  · have HF : Hid (∀ w', Below w.heap.size w w' → ShareP it n L w (.returned (.tuple #[.agg #[.slice none 0 0, .slice none 0 0], .int .i64 (seE it L)])) w') := fun w' q => ⟨q, .inl ⟨hz, rfl⟩⟩
    have hz2 : (seE it L == 0) = false := by simpa using hz
    clear hz h
    generalize ShareP it n L w = PP at *
    generalize seE it L = E at *
    go_enter Try.func7, Try.ntmps7
    go_wp2_with fail
    generalize (w.alloc (.cells #[.int .i64 it, .slice a n c] 24)).alloc (.cells #[.slice none 0 0, .slice none 0 0] 28) = W0 at *
    refine (unhide CM W0 hA).mono ?_
    rintro e w1 ⟨rfl, hb1⟩
    have hbA := hA.trans (hb1.mono hA.size)
    have hy := (hb1.block (w.heap.size + 1) (by omega)).trans hBy
    obtain ⟨c0, f0⟩ := cell_in' hy 0
    obtain ⟨c1, f1⟩ := cell_in' hy 1
    simp at c0 c1
    have HY := hide hy
    have HFX := hide (unhide HF _ ((hbA.setCell (p := ⟨w.heap.size + 1, 0, none⟩) (by show _ ≤ w.heap.size + 1; omega) (.slice none 0 0)).setCell (p := ⟨w.heap.size + 1, 1, none⟩) (by show _ ≤ w.heap.size + 1; omega) (.slice none 0 0)))
    clear hy hBx hBy HF
    go_wp2_with fail
    have hr : ((w1.setCell ⟨w.heap.size + 1, 0, none⟩ (.slice none 0 0)).setCell ⟨w.heap.size + 1, 1, none⟩ (.slice none 0 0)).heap[w.heap.size + 1]? = some (.cells #[.slice none 0 0, .slice none 0 0] 28 (0, 0)) := by
      rw [heap_setCell_same _ _ _ _ _ _ (heap_setCell_same _ _ _ _ _ _ (unhide HY))]; rfl
    (try simp only [Exit.inBlock, Exit.then])
    refine bodyPost_ret (results_row_tmp rfl _ _ _ (w.heap.size + 1) _ rfl (run_loadVar_row _ (w.heap.size + 1) 28 28 _ (0, 0) _ hr Try.underlying28 rfl (by show _ = some 2; kernel_rfl))) rfl ?_
    exact unhide HFX
end Go.Proofs.Ytaaikaeknealkaa
