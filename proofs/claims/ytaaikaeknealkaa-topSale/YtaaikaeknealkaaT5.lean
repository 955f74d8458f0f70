import Derived.Test.YtaaikaeknealkaaT4
namespace Go.Proofs.Ytaaikaeknealkaa
open Go.RowKit
theorem share_made {it : Nat} {a : Option Addr} {n c : Nat} {L : List Sl} {w : World} (h : Lsts w a n c L) (hit : it ≤ 4) (hn1 : 1 ≤ n) (hn4 : n ≤ 4) (hG : ∀ s ∈ L, Gd it s) :
    Calls Try.prog 7 #[.agg #[.int .i64 (it : Int), .slice a n c]] w fun e w' => Below w.heap.size w w' ∧ ∃ sa sc pa pc, e = .returned (.tuple #[.agg #[.slice sa n sc, .slice pa n pc], .int .i64 0]) ∧ Ints w' sa n sc (bst (fs L) (2 ^ it - 1)).2 ∧ Ints w' pa n pc (lF n (pay L (2 ^ it - 1))) := by
  have hl := h.1
  have hz := seE_made hit (by omega) (by omega) hG
  refine (share_any (it : Int) a n c L w h).mono ?_
  rintro e w' ⟨hb, ⟨hne, _⟩ | ⟨_, sa, sc, pa, pc, rfl, h1, h2⟩⟩
  · exact absurd hz hne
  · rw [Int.toNat_natCast] at h1 h2
    exact ⟨hb, sa, sc, pa, pc, rfl, h1, h2⟩
theorem given_made {it : Nat} {a : Option Addr} {n c : Nat} {L : List Sl} {w : World} (h : Lsts w a n c L) (hit : it ≤ 4) (hn1 : 1 ≤ n) (hn4 : n ≤ 4) (hG : ∀ s ∈ L, Gd it s) :
    Calls Try.prog 16 #[.agg #[.int .i64 (it : Int), .slice a n c], .slice none 0 0, .int .i64 (-1)] w (GivP n (bst (fs L) (2 ^ it - 1)) w) := by
  have hk := Gd.lok hit hG
  have := given_any it hit (-1) (by omega) L a n c hn1 hn4 hk it [] none 0 w (by simp) h ⟨rfl, Nat.le_refl _, by unfold maxLen; omega, .inl rfl⟩ (fun x hx => by cases hx)
  rw [gv_bst hit hk.wok] at this
  exact this
theorem gd_le {it : Nat} (hit : it ≤ 4) {s : Sl} (h : Gd it s) {q : Nat} (hq : q < 2 ^ it) : 0 ≤ nth s.ints q ∧ nth s.ints q ≤ 200 := by
  have := h.2.2.1 q hq
  have := pow_le hit
  omega
theorem vf_all {it : Nat} (hit : it ≤ 4) {L : List Sl} (h : ∀ s ∈ L, Gd it s) : val ((fs L).take L.length) ((bst (fs L) (2 ^ it - 1)).2.take L.length) = (bst (fs L) (2 ^ it - 1)).1 ∧ (bst (fs L) (2 ^ it - 1)).2.length = L.length ∧ ∀ k, k ≤ L.length → 0 ≤ val ((fs L).take k) ((bst (fs L) (2 ^ it - 1)).2.take k) ∧ val ((fs L).take k) ((bst (fs L) (2 ^ it - 1)).2.take k) ≤ 1000 * L.length := by
  have hk := Gd.lok hit h
  have hal : 2 ^ it - 1 < 2 ^ it := by have := Nat.two_pow_pos it; omega
  obtain ⟨b1, b2, b3⟩ := bst_spec (pow_le hit) (fs L) hk.wok (2 ^ it - 1) hal
  have hfl : (fs L).length = L.length := by simp [fs]
  have hbl := b1.lt
  refine ⟨by rw [List.take_of_length_le (by omega), List.take_of_length_le (by omega), b2], by omega, fun k _ => ?_⟩
  have := val_nn (m := 2 ^ it) ((fs L).take k) ((bst (fs L) (2 ^ it - 1)).2.take k) (fun v hv => hk.wok v (List.mem_of_mem_take hv)) (fun x hx => by
    have := bst_rng (fs L) hk.wok (2 ^ it - 1) hal x (List.mem_of_mem_take hx)
    omega)
  have hl2 : ((fs L).take k).length ≤ L.length := by rw [List.length_take]; omega
  omega
theorem vf_step {L : List Sl} {S : List Int} {k q : Nat} (hS : S.length = L.length) (hk : k < L.length) (hq : nth S k = (q : Int)) : val ((fs L).take (k + 1)) (S.take (k + 1)) = val ((fs L).take k) (S.take k) + nth (slAt L k).ints q := by
  rw [val_take _ _ k (by simp [fs]; omega) (by simp [fs]; omega), fs_at hk, hq, Int.toNat_natCast]
set_option maxRecDepth 100000 in
set_option maxHeartbeats 8000000 in
theorem topSale_any (ra : Option Addr) (rn rc : Nat) (raw : List Int) (x1 x2 x3 : Int) (la : Option Addr) (ln lc : Nat) (lie : List Int) (w : World) (hR : Ints w ra rn rc raw) (hRi : ∀ x ∈ raw, InR x) (h1 : InR x1) (h2 : InR x2) (h3 : InR x3)
    (hL : Ints w la ln lc lie) (hLi : ∀ x ∈ lie, InR x) (hm0 : rn ≤ 140737488351232) (hm1 : ln ≤ 140737488351232) :
    Calls Try.prog 5 #[.slice ra rn rc, .int .i64 x1, .int .i64 x2, .int .i64 x3, .slice la ln lc] w fun e w' => e = .returned (.bool true) ∧ Below w.heap.size w w' := by
  by_cases hbig : 256 < rn + ln
  · clear hR hL
    go_enter Try.func5, Try.ntmps5
    go_wp2
    go_ret
    exact ⟨rfl, Below.refl _ _⟩
  · have C1 := hide (pick_val x1 3 h1 (by omega) (by omega) w)
    have hp1 := pkN_lt x1 (show 0 < 3 by omega)
    generalize pkN x1 3 = p1 at *
    obtain ⟨N, hN⟩ : ∃ N, N = 1 + p1 := ⟨_, rfl⟩
    have zN : (1 : Int) + (p1 : Int) = (N : Int) := by omega
    have hN1 : 1 ≤ N := by omega
    have hN4 : N ≤ 4 := by omega
    have C2 := hide (pick_val x2 4 h2 (by omega) (by omega) w)
    have hit := pkN_lt x2 (show 0 < 4 by omega)
    generalize pkN x2 4 = it at *
    have C3 := hide (pick_val x3 N h3 (by omega) (by omega) w)
    have hwho := pkN_lt x3 (show 0 < N by omega)
    generalize pkN x3 N = who at *
    have C4 := bidsOf_any ra rn rc raw N it w hR hRi (by omega) hN1 hN4 (by omega)
    unfold bidV at C4
    have C4 := hide C4
    have HL := hide hL
    have HLi := hide hLi
    have hln : ln ≤ 256 := by omega
    clear hR hRi hL hLi hN hp1
    go_enter Try.func5, Try.ntmps5
    go_wp2_with fail
    refine (unhide C1).mono ?_
    rintro e w2 ⟨rfl, hw2⟩
    subst w2
    go_wp2_with fail
    refine (unhide C2).mono ?_
    rintro e w2 ⟨rfl, hw2⟩
    subst w2
    go_wp2_with fail
    refine (unhide C3).mono ?_
    rintro e w2 ⟨rfl, hw2⟩
    subst w2
    go_wp2_with fail
    refine (unhide C4).mono ?_
    rintro e w2 ⟨a, c, L, rfl, hLs, hG, hb2⟩
    clear C1 C2 C3 C4
    have HG := hide hG
    have hlN : L.length = N := hLs.1.symm
    have hc1 := hLs.2.1
    have hc2 := hLs.2.2.1
    unfold maxLen at hc2
    have hA : Below w2.heap.size w2 (w2.alloc (.cells #[.int .i64 (it : Int), .slice a N c] 24)) := by go_grown
    have hB11 : (w2.alloc (.cells #[.int .i64 (it : Int), .slice a N c] 24)).heap[w2.heap.size]? = some (.cells #[.int .i64 (it : Int), .slice a N c] 24 (0, 0)) := heap_alloc_new _ _
    have hsz3 : (w2.alloc (.cells #[.int .i64 (it : Int), .slice a N c] 24)).heap.size = w2.heap.size + 1 := by simp
    have HLs : Hid (∀ W, Below w2.heap.size w2 W → Lsts W a N c L) := fun W hW => hLs.later hW
    have C7 := hide (share_made (hLs.later hA) (by omega) hN1 hN4 hG)
    clear hLs hG
    go_wp2_with fail
    generalize w2.alloc (.cells #[.int .i64 (it : Int), .slice a N c] 24) = W3 at *
    refine (unhide C7).mono ?_
    rintro e w4 ⟨hb4, sa, sc, pa, pc, rfl, hIs, hIp⟩
    have HX : Hid (∀ W, Below W3.heap.size W3 W → W.cell? ⟨w2.heap.size, 0, none⟩ = some (.int .i64 (it : Int)) ∧ W.cell? ⟨w2.heap.size, 1, none⟩ = some (.slice a N c) ∧ w2.heap.size < W.heap.size) := fun W hW => ⟨(cell_in' ((hW.block w2.heap.size (by omega)).trans hB11) 0).1, (cell_in' ((hW.block w2.heap.size (by omega)).trans hB11) 1).1, by have := hW.size; omega⟩
    have hbA := hA.trans (hb4.mono hA.size)
    have hb5 : Below w4.heap.size w4 (w4.alloc (.cells #[.slice sa N sc, .slice pa N pc] 28)) := by go_grown
    have hB12 : (w4.alloc (.cells #[.slice sa N sc, .slice pa N pc] 28)).heap[w4.heap.size]? = some (.cells #[.slice sa N sc, .slice pa N pc] 28 (0, 0)) := heap_alloc_new _ _
    have hsz5 : (w4.alloc (.cells #[.slice sa N sc, .slice pa N pc] 28)).heap.size = w4.heap.size + 1 := by simp
    have hbB := hbA.trans (hb5.mono hbA.size)
    have hb35 := hb4.trans (hb5.mono hb4.size)
    obtain ⟨x0, xx1, xs⟩ := unhide HX w4 hb4
    have hn6 : ¬ w2.heap.size = w4.heap.size + 1 := by omega
    have hs1 := hIs.2.1
    have hs2 := hIs.2.2.1
    have hq1 := hIp.2.1
    have hq2 := hIp.2.2.1
    unfold maxLen at hs2 hq2
    have HIs := hide (hIs.later hb5)
    have HIp := hide (hIp.later hb5)
    have hL5 := hide (unhide HLs _ hbB)
    have hn5 : ¬ w2.heap.size = w4.heap.size := by have := hb4.size; omega
    have HO0 := hide (own_empty23 (w4.alloc (.cells #[.slice sa N sc, .slice pa N pc] 28)) (w4.alloc (.cells #[.slice sa N sc, .slice pa N pc] 28)).heap.size (Nat.le_refl _))
    have hb50 : Below (w4.alloc (.cells #[.slice sa N sc, .slice pa N pc] 28)).heap.size (w4.alloc (.cells #[.slice sa N sc, .slice pa N pc] 28)) ((w4.alloc (.cells #[.slice sa N sc, .slice pa N pc] 28)).alloc (.cells #[] 26)) := by go_grown
    clear hIs hIp hB11
    go_wp2_with (at_builtin; refine wpList_append_lsts _ rfl _ _ rfl (w4.alloc (.cells #[.slice sa N sc, .slice pa N pc] 28)).heap.size _ 0 [] (by first | rfl | (simp [Act.eval]; done)) (unhide HO0) a N c L rfl ((unhide hL5).later hb50) (by omega) (by simp) ?_; intro v6 w6 ho6 hg6; have ho7 : w6.ownsRow (w4.alloc (.cells #[.slice sa N sc, .slice pa N pc] 28)).heap.size 26 1 v6 N (slVals L) := (by simpa using ho6); obtain ⟨g6, cap6, hv6⟩ := own_slice ho7 (by omega); subst hv6; have HO6 := hide ho7; have HG6 := hide hg6; clear ho6 ho7 hg6)
    have hb6 : Below (w4.alloc (.cells #[.slice sa N sc, .slice pa N pc] 28)).heap.size (w4.alloc (.cells #[.slice sa N sc, .slice pa N pc] 28)) w6 := hb50.trans ((Below.refl _ _).grown (unhide HG6) (by simp) (fun k hk => ((unhide HO0).lt k hk).1))
    obtain ⟨hg6b, hg6s, hcap1, hcap2, hcell6⟩ : (w4.alloc (.cells #[.slice sa N sc, .slice pa N pc] 28)).heap.size ≤ g6 ∧ g6 < w6.heap.size ∧ N ≤ cap6 ∧ cap6 ≤ maxLen ∧ ∀ k, k < N → w6.cell? ⟨g6, k, none⟩ = some (.slice (slAt L k).la (slAt L k).ln (slAt L k).lc) ∧ w6.frozen? ⟨g6, k, none⟩ = false := by
      have ho := unhide HO6
      rcases ho.2 with ⟨_, e⟩ | ⟨g, cap, cur, e, hbg, hgg, hnc, hcm, hcs, htake⟩
      · omega
      · cases e
        refine ⟨hbg, (Array.getElem?_eq_some_iff.1 hgg).1, hnc, hcm, fun k hk => ⟨?_, by simp [World.frozen?, hgg]⟩⟩
        rw [ho.cellAt k (by have := ho.1; omega), slVals_at L k (by omega)]
    clear HO0 hb50 HG6 HO6 x0 xx1 xs
    generalize w4.alloc (.cells #[.slice sa N sc, .slice pa N pc] 28) = W5 at *
    have HY : Hid (∀ W, Below W5.heap.size W5 W → W.cell? ⟨w4.heap.size, 0, none⟩ = some (.slice sa N sc) ∧ W.cell? ⟨w4.heap.size, 1, none⟩ = some (.slice pa N pc) ∧ w4.heap.size < W.heap.size) := fun W hW => ⟨(cell_in' ((hW.block w4.heap.size (by omega)).trans hB12) 0).1, (cell_in' ((hW.block w4.heap.size (by omega)).trans hB12) 1).1, by have := hW.size; omega⟩
    have hb7 : Below w6.heap.size w6 (w6.alloc (.cells #[.int .i64 (it : Int), .slice (some ⟨g6, 0, none⟩) N cap6] 24)) := by go_grown
    have hB14 : (w6.alloc (.cells #[.int .i64 (it : Int), .slice (some ⟨g6, 0, none⟩) N cap6] 24)).heap[w6.heap.size]? = some (.cells #[.int .i64 (it : Int), .slice (some ⟨g6, 0, none⟩) N cap6] 24 (0, 0)) := heap_alloc_new _ _
    have hsz7 : (w6.alloc (.cells #[.int .i64 (it : Int), .slice (some ⟨g6, 0, none⟩) N cap6] 24)).heap.size = w6.heap.size + 1 := by simp
    generalize w6.alloc (.cells #[.int .i64 (it : Int), .slice (some ⟨g6, 0, none⟩) N cap6] 24) = W7 at *
    have hb57 := hb6.trans (hb7.mono hb6.size)
    have hbw7 : Below w.heap.size w W7 := (hb2.trans (hbB.mono hb2.size)).trans (hb57.mono (Nat.le_trans hb2.size hbB.size))
    have hbd : Below W7.heap.size W7 W7.drew := (Below.refl _ _).drew
    have hLd := hide ((unhide HL).later (hbw7.trans (hbd.mono hbw7.size)))
    have hmL : cap6 ≤ 9223372036854775807 := by unfold maxLen at hcap2; omega
    obtain ⟨P, hP⟩ : ∃ P : Nat, P = 2 ^ it := ⟨_, rfl⟩
    have hP0 : 0 < P := by rw [hP]; exact Nat.two_pow_pos it
    have HWK : Hid (∀ (f : Nat → Int) (w8 : World), WS it f (2 ^ it) → Row W7.heap.size w8 (some ⟨W7.heap.size, 0, none⟩) (2 ^ it) f → Below W7.drew.heap.size W7.drew w8 →
        w8.cell? ⟨w6.heap.size, 1, none⟩ = some (.slice (some ⟨g6, 0, none⟩) N cap6) ∧ (∃ u, w8.cell? ⟨g6, who, none⟩ = some u) ∧ w8.frozen? ⟨g6, who, none⟩ = false ∧
        ∃ s', Gd it s' ∧ Lsts (w8.setCell ⟨g6, who, none⟩ (.slice (some ⟨W7.heap.size, 0, none⟩) (2 ^ it) (2 ^ it))) (some ⟨g6, 0, none⟩) N cap6 (L.set who s') ∧ Below W5.heap.size W5 (w8.setCell ⟨g6, who, none⟩ (.slice (some ⟨W7.heap.size, 0, none⟩) (2 ^ it) (2 ^ it))) ∧
          (w8.setCell ⟨g6, who, none⟩ (.slice (some ⟨W7.heap.size, 0, none⟩) (2 ^ it) (2 ^ it))).heap[w6.heap.size]? = some (.cells #[.int .i64 (it : Int), .slice (some ⟨g6, 0, none⟩) N cap6] 24 (0, 0)) ∧ w6.heap.size < w8.heap.size) := fun f w8 hWS hR8 hb8 => by
      have hb78 : Below W7.heap.size W7 w8 := hbd.trans hb8
      have hb68 := hb7.trans (hb78.mono (by omega))
      have h14 := (hb78.block w6.heap.size (by omega)).trans hB14
      have hc8 : ∀ k, k < N → w8.cell? ⟨g6, k, none⟩ = some (.slice (slAt L k).la (slAt L k).ln (slAt L k).lc) := fun k hk => (hb68.cell (p := ⟨g6, k, none⟩) hg6s).trans (hcell6 k hk).1
      refine ⟨by simpa using (cell_in' h14 1).1, ⟨_, hc8 who hwho⟩, (hb68.frozen (p := ⟨g6, who, none⟩) hg6s).trans (hcell6 who hwho).2, ⟨some ⟨W7.heap.size, 0, none⟩, 2 ^ it, 2 ^ it, lF (2 ^ it) f⟩, ⟨rfl, by show WS it (nth (lF (2 ^ it) f)) (2 ^ it); rw [nth_lF hWS]; exact hWS⟩, ?_, ?_, ?_, by have := hb78.size; omega⟩
      · have hb5w : Below w2.heap.size w2 w8 := (hbB.trans (hb57.mono hbB.size)).trans (hb78.mono (Nat.le_trans hbB.size hb57.size))
        refine Lsts.set (s := ⟨some ⟨W7.heap.size, 0, none⟩, 2 ^ it, 2 ^ it, lF (2 ^ it) f⟩) (unhide HLs w2 (Below.refl _ _)) hb5w (Nat.le_trans hbB.size hg6b) (by have := hb68.size; omega) hc8 hcap1 hcap2 hwho ?_ (.inr ⟨W7.heap.size, 0, rfl, by omega⟩)
        exact hR8.ints (lF_len _ _).symm (Nat.le_refl _) (by have h16 := pow_le (show it ≤ 4 by omega); unfold maxLen; exact Nat.le_trans h16 (by omega)) (fun j hj => (lF_at hj).symm)
      · exact (hb57.trans (hb78.mono hb57.size)).setCell (p := ⟨g6, who, none⟩) hg6b _
      · rw [Below.heap_setCell _ _ _ _ (by show _ ≠ g6; omega)]; exact h14
    obtain ⟨y1, y1f⟩ := cell_in' hB14 1
    simp at y1
    have hn67 : ¬ w6.heap.size = W7.heap.size := by omega
    have HS7 := hide hsz7
    have HS5 := hide hsz5
    have HS3 := hide hsz3
    clear hsz7 hsz5 hsz3
    go_cut [58] from 53 to 59 (fun _ wc => ∃ s', Gd it s' ∧ Lsts wc (some ⟨g6, 0, none⟩) N cap6 (L.set who s') ∧ Below W5.heap.size W5 wc ∧ wc.heap[w6.heap.size]? = some (.cells #[.int .i64 (it : Int), .slice (some ⟨g6, 0, none⟩) N cap6] 24 (0, 0)) ∧ w6.heap.size < wc.heap.size)
    case first =>
      go_region_law (first
        | (refine step_worth _ rfl (.tmp 56) (.tmp 57) rfl la ln lc lie it (by first | (simp [Act.eval]; done) | (simp [Act.put]; done) | (simp [Act.eval]; rfl) | (simp [Act.eval, Act.put]; done)) (by first | (simp [Act.eval]; done) | (simp [Act.put]; done) | (simp [Act.eval]; rfl) | (simp [Act.eval, Act.put]; done)) (unhide hLd) (unhide HLi) hln (by omega) ?_; intro f w8 hWS hR8 hb8; obtain ⟨z1, ⟨zu, z2⟩, z3, z4⟩ := unhide HWK f w8 hWS hR8 hb8; have HZ4 := hide z4; clear z4 hWS hR8 hb8))
      all_goals
        go_wp2_with fail
        go_meet
        case rel =>
          obtain ⟨s', q1, q2, q3, q4, q5⟩ := unhide HZ4
          exact ⟨s', q1, q2, q3, q4, by simpa using q5⟩
    case rest =>
      obtain ⟨s', hgs, hL9, hb9, h14, hs9⟩ := hcut
      have hG2 := gd_set (i := who) (unhide HG) hgs
      have hb39 := hb35.trans (hb9.mono hb35.size)
      have hbC := hbB.trans (hb9.mono hbB.size)
      obtain ⟨c140, _⟩ := cell_in' h14 0
      obtain ⟨c141, _⟩ := cell_in' h14 1
      simp at c140 c141
      have C10 := hide (share_made hL9 (by omega) hN1 hN4 hG2)
      have HL1 := hide (fun i (hi : i < L.length) => sale_one (by omega : it ≤ 4) (unhide HG) hi)
      have HLY := hide (sale_lie (by omega : it ≤ 4) (unhide HG) (show who < L.length by omega) hgs)
      have HGS := hide hgs
      clear hG2 hL9 hgs HWK hcell6 hLd HL HLi
      go_wp2_with fail
      refine (unhide C10).mono ?_
      rintro e w10 ⟨hb10, da, dc, ea, ec, rfl, hId, hIe⟩
      have hb5x := hb9.trans (hb10.mono hb9.size)
      have hb11 : Below w10.heap.size w10 (w10.alloc (.cells #[.slice da N dc, .slice ea N ec] 28)) := by go_grown
      have hB15 : (w10.alloc (.cells #[.slice da N dc, .slice ea N ec] 28)).heap[w10.heap.size]? = some (.cells #[.slice da N dc, .slice ea N ec] 28 (0, 0)) := heap_alloc_new _ _
      have hsz11 : w10.heap.size < (w10.alloc (.cells #[.slice da N dc, .slice ea N ec] 28)).heap.size := by simp
      have hb5y := hb5x.trans (hb11.mono hb5x.size)
      have hd1 := hId.2.1
      have hd2 := hId.2.2.1
      have he1 := hIe.2.1
      have he2 := hIe.2.2.1
      unfold maxLen at hd2 he2
      have HId := hide (hId.later hb11)
      have HIe := hide (hIe.later hb11)
      have hb3y := hb35.trans (hb5y.mono hb35.size)
      have hbD := hbB.trans (hb5y.mono hbB.size)
      obtain ⟨i0, i1, is⟩ := unhide HX w10 (hb35.trans (hb5x.mono hb35.size))
      obtain ⟨j0, j1, js⟩ := unhide HY w10 hb5x
      have hn10 : ¬ w4.heap.size = w10.heap.size := by omega
      have hn11 : ¬ w2.heap.size = w10.heap.size := by omega
      have HL2 := hide (sale_one (by omega : it ≤ 4) (gd_set (i := who) (unhide HG) (unhide HGS)) (show who < (L.set who s').length by simp; omega))
      have HGV := hide (fun W hW => given_made (unhide HLs W hW) (by omega : it ≤ 4) hN1 hN4 (unhide HG))
      obtain ⟨hv1, hv2, hv3⟩ := vf_all (by omega : it ≤ 4) (unhide HG)
      have HVS := hide (fun k q hk hq => vf_step (L := L) (S := (bst (fs L) (2 ^ it - 1)).2) (k := k) (q := q) hv2 hk hq)
      have HUS := hide (fun k (hk : k < L.length) => us_step (bst (fs L) (2 ^ it - 1)).2 k (by omega))
      have HV1 := hide hv1
      have HV3 := hide hv3
      have HGL := hide (fun i (hi : i < L.length) q hq => gd_le (by omega : it ≤ 4) (unhide HG _ (slAt_mem hi)) (q := q) hq)
      have HGL2 := hide (fun q hq => gd_le (by omega : it ≤ 4) (unhide HGS) (q := q) hq)
      have HSA : Hid (slAt (L.set who s') who = s') := by show _ = _; rw [slAt_set (by omega), if_pos rfl]
      have hwp := wrap_pow hP (by omega)
      have hP16 : P ≤ 16 := by rw [hP]; exact pow_le (by omega)
      have HP := hide hP
      rw [unhide HSA] at HL2
      clear hId hIe h14 c140 c141 hv1 hv2 hv3 hP
      go_wp2_with fail
      generalize w10.alloc (.cells #[.slice da N dc, .slice ea N ec] 28) = Wz at *
      have HZ : Hid (∀ W, Below Wz.heap.size Wz W → (W.cell? ⟨w2.heap.size, 0, none⟩ = some (.int .i64 (it : Int)) ∧ W.cell? ⟨w2.heap.size, 1, none⟩ = some (.slice a N c)) ∧ (W.cell? ⟨w4.heap.size, 0, none⟩ = some (.slice sa N sc) ∧ W.cell? ⟨w4.heap.size, 1, none⟩ = some (.slice pa N pc)) ∧ (W.cell? ⟨w10.heap.size, 0, none⟩ = some (.slice da N dc) ∧ W.cell? ⟨w10.heap.size, 1, none⟩ = some (.slice ea N ec))) := fun W hW => by
        obtain ⟨r0, r1, _⟩ := unhide HX W (hb3y.trans (hW.mono hb3y.size))
        obtain ⟨t0, t1, _⟩ := unhide HY W (hb5y.trans (hW.mono hb5y.size))
        exact ⟨⟨r0, r1⟩, ⟨t0, t1⟩, (cell_in' ((hW.block w10.heap.size hsz11).trans hB15) 0).1, (cell_in' ((hW.block w10.heap.size hsz11).trans hB15) 1).1⟩
      have HIsz := hide ((unhide HIs).later hb5y)
      have HIpz := hide ((unhide HIp).later hb5y)
      have hbw : Below w.heap.size w Wz := hb2.trans (hbD.mono hb2.size)
      clear hB12 hB14 hB15 i0 i1 is j0 j1 js y1 y1f
      go_loopw [19, 17, 18, 20] (fun i u x _ wr => Below Wz.heap.size Wz wr ∧ ∃ k : Nat, k ≤ N ∧ i = .int .i64 k ∧ u = .int .i64 (us (bst (fs L) (2 ^ it - 1)).2 k) ∧ x = .int .i64 (val ((fs L).take k) ((bst (fs L) (2 ^ it - 1)).2.take k))) (fun i _ _ _ _ => N - (intOf i).toNat)
      case atStart => exact ⟨Below.refl _ _, 0, Nat.zero_le _, rfl, by cases (bst (fs L) (2 ^ it - 1)).2 <;> rfl, rfl⟩
      case round =>
        obtain ⟨hbr, k, hk, rfl, rfl, rfl⟩ := hrel
        obtain ⟨⟨r0, r1⟩, ⟨t0, t1⟩, v0, v1⟩ := unhide HZ wr hbr
        have hbDr := hbD.trans (hbr.mono hbD.size)
        by_cases hlt : k < N
        · obtain ⟨q, r, e1, e2, e3, e4, e5, e6, e7⟩ := unhide HL1 k (by omega)
          have hus := unhide HUS k (by omega)
          have hvs := unhide HVS k q (by omega) e1
          have hv3 := unhide HV3 k (by omega)
          have hyl := unhide HGL k (by omega) q e2
          rw [e1] at hus
          rw [e3] at hus
          rw [e3]
          rw [← unhide HP] at e2
          obtain ⟨b1, o1, q1, _, hc1⟩ := ((unhide HIsz).later hbr).nth (by omega)
          subst q1
          have hs1' := hc1 k hlt
          rw [e1] at hs1'
          obtain ⟨b2, o2, q2, _, hc2⟩ := ((unhide HIpz).later hbr).nth (by omega)
          subst q2
          have hs2' := hc2 k hlt
          rw [lF_at hlt] at hs2'
          have hLw := unhide HLs wr hbDr
          obtain ⟨lb, lo, hlae, _, hlcell⟩ := hLw.cellAt (by omega)
          subst hlae
          have hlx := hlcell k hlt
          have hI6 := hLw.mem hlt
          have hln6 : (slAt L k).ln = P := by rw [unhide HP]; exact (unhide HG _ (slAt_mem (by omega))).1
          obtain ⟨mb, mo, hmae, _, hmcell⟩ := hI6.nth (by omega)
          have hmx := hmcell q (by omega)
          have hk1 := hI6.2.1
          have hk2 := hI6.2.2.1
          unfold maxLen at hk2
          have C15 := hide (fun W => overlap_any r q it W e4 (by omega) (by omega) e5)
          clear hc1 hc2 hlcell hmcell hI6 hLw e5 e1 e3
          generalize nth (slAt L k).ints q = y at *
          generalize pay L (2 ^ it - 1) k = pv at *
          generalize slAt L k = s at *
          obtain ⟨s1, s2, s3, s4⟩ := s
          simp only at hlx hmae hk1 hk2 hln6
          subst hmae
          have HUS2 := hide hus
          have HVS2 := hide hvs
          clear hus hvs
          generalize val ((fs L).take k) ((bst (fs L) (2 ^ it - 1)).2.take k) = vk at *
          have hdq : decide ((P : Int) ≤ (q : Int)) = false := decide_eq_false (by omega)
          have hdp : decide (pv < 0) = false := decide_eq_false (by omega)
          have hdy : decide (y < pv) = false := decide_eq_false (by omega)
          go_wp2_with fail
          go_quiet (first | (go_at_call 15; with_reducible exact Calls.quiet_of_same (unhide C15 _)))
          have hbq := hbr.trans ((below_drewN Wz.heap.size wr nq).mono (Nat.le_refl _))
          have r1' : (wr.drewN nq).cell? ⟨w2.heap.size, 1, none⟩ = some (.slice (some ⟨lb, lo, none⟩) N c) := r1
          have hlx' : (wr.drewN nq).cell? ⟨lb, lo + k, none⟩ = some (.slice (some ⟨mb, mo, none⟩) s2 s3) := hlx
          have hmx' : (wr.drewN nq).cell? ⟨mb, mo + q, none⟩ = some (.int .i64 y) := hmx
          clear r0 r1 t0 t1 v0 v1 hlx hmx hs1' hs2'
          generalize wr.drewN nq = Wq at *
          go_wp2_with fail
          exact ⟨⟨hbq, k + 1, by omega, by go_num, by rw [unhide HUS2], by rw [unhide HVS2]⟩, by simp [intOf]; omega⟩
        · have hkN : N = k := by omega
          subst hkN
          have hv1 := unhide HV1
          rw [hlN] at hv1
          rw [hv1]
          obtain ⟨q, _, e1, e2, _, _, _, e6, e7⟩ := unhide HL1 who (by omega)
          obtain ⟨d, d1, d2, d3⟩ := unhide HLY
          obtain ⟨q2, _, g1, g2, _, _, _, g6, g7⟩ := unhide HL2
          have hyl := unhide HGL who (by omega) q e2
          have hyd := unhide HGL who (by omega) d d2
          have hyq := unhide HGL2 q2 g2
          rw [e1, Int.toNat_natCast] at d3
          obtain ⟨b1, o1, q1, hz1, hc1⟩ := (unhide HIsz).nth (by omega)
          subst q1
          have hs1' := hc1 who hwho
          rw [e1] at hs1'
          obtain ⟨b2, o2, q2', hz2, hc2⟩ := (unhide HIpz).nth (by omega)
          subst q2'
          have hs2' := hc2 who hwho
          rw [lF_at hwho] at hs2'
          obtain ⟨b3, o3, q3, hz3, hc3⟩ := (unhide HId).nth (by omega)
          subst q3
          have hs3' := hc3 who hwho
          rw [d1] at hs3'
          obtain ⟨b4, o4, q4, hz4, hc4⟩ := (unhide HIe).nth (by omega)
          subst q4
          have hs4' := hc4 who hwho
          rw [lF_at hwho] at hs4'
          have hLw := unhide HLs Wz hbD
          obtain ⟨lb, lo, hlae, hlsz, hlcell⟩ := hLw.cellAt (by omega)
          subst hlae
          have hlx := hlcell who hwho
          have hI6 := hLw.mem hwho
          have hln6 : (slAt L who).ln = P := by rw [unhide HP]; exact (unhide HG _ (slAt_mem (by omega))).1
          obtain ⟨mb, mo, hmae, hmz, hmcell⟩ := hI6.nth (by omega)
          rw [← unhide HP] at e2 d2
          have hmx := hmcell q (by omega)
          have hmy := hmcell d (by omega)
          have hk1 := hI6.2.1
          have hk2 := hI6.2.2.1
          unfold maxLen at hk2
          have HB1 := hide e7
          clear hc1 hc2 hc3 hc4 hlcell hmcell hI6 hLw
          generalize nth (slAt L who).ints q = y at *
          generalize nth (slAt L who).ints d = z at *
          generalize nth s'.ints q2 = y2 at *
          generalize pay L (2 ^ it - 1) who = pv at *
          generalize pay (L.set who s') (2 ^ it - 1) who = pd at *
          generalize slAt L who = s at *
          obtain ⟨s1, s2, s3, s4⟩ := s
          simp only at hlx hmae hk1 hk2 hln6
          subst hmae
          clear hbDr r0 r1 t0 t1 v0 v1
          have HC : Hid (∀ W, Below Wz.heap.size Wz W → W.cell? ⟨b1, o1 + who, none⟩ = some (.int .i64 (q : Int)) ∧ W.cell? ⟨b2, o2 + who, none⟩ = some (.int .i64 pv) ∧ W.cell? ⟨b3, o3 + who, none⟩ = some (.int .i64 (d : Int)) ∧ W.cell? ⟨b4, o4 + who, none⟩ = some (.int .i64 pd) ∧
              W.cell? ⟨lb, lo + who, none⟩ = some (.slice (some ⟨mb, mo, none⟩) s2 s3) ∧ W.cell? ⟨mb, mo + q, none⟩ = some (.int .i64 y) ∧ W.cell? ⟨mb, mo + d, none⟩ = some (.int .i64 z)) := fun W hW =>
            ⟨(hW.cell (p := ⟨b1, o1 + who, none⟩) hz1).trans hs1', (hW.cell (p := ⟨b2, o2 + who, none⟩) hz2).trans hs2', (hW.cell (p := ⟨b3, o3 + who, none⟩) hz3).trans hs3', (hW.cell (p := ⟨b4, o4 + who, none⟩) hz4).trans hs4',
              (hW.cell (p := ⟨lb, lo + who, none⟩) hlsz).trans hlx, (hW.cell (p := ⟨mb, mo + q, none⟩) hmz).trans hmx, (hW.cell (p := ⟨mb, mo + d, none⟩) hmz).trans hmy⟩
          clear hs1' hs2' hs3' hs4' hlx hmx hmy
          have hdq : decide ((P : Int) ≤ (d : Int)) = false := decide_eq_false (by omega)
          have hdc : decide (z - pd ≤ y - pv) = true := decide_eq_true d3
          have hbig2 : Below w.heap.size w wr := hbw.trans (hbr.mono hbw.size)
          obtain ⟨k1, k2, k3, k4, k5, k6, k7⟩ := unhide HC wr hbr
          obtain ⟨⟨r0, r1⟩, ⟨t0, t1⟩, v0, v1⟩ := unhide HZ wr hbr
          generalize us (bst (fs L) (2 ^ it - 1)).2 N = uu at *
          clear C4 C10 HL1 HVS HUS HV1 HV3 HGL HGL2 hv1
          go_wp2_with fail
          go_quiet (fail)
          have hbq : Below Wz.heap.size Wz (wr.drewN nq) := hbr.trans ((below_drewN Wz.heap.size wr nq).mono (Nat.le_refl _))
          clear k1 k2 k3 k4 k5 k6 k7 r0 r1 t0 t1 v0 v1
          generalize wr.drewN nq = Wq at *
          obtain ⟨⟨r0, r1⟩, ⟨t0, t1⟩, v0, v1⟩ := unhide HZ Wq hbq
          have C16 := hide (unhide HGV Wq (hbD.trans (hbq.mono hbD.size)))
          go_wp2_with fail
          refine (unhide C16).mono ?_
          rintro e Wg ⟨ga, gc, rfl, _, hbg⟩
          have hbg2 := hbq.trans (hbg.mono hbq.size)
          clear r0 r1 t0 t1 v0 v1
          obtain ⟨⟨r0, r1⟩, ⟨t0, t1⟩, v0, v1⟩ := unhide HZ Wg hbg2
          obtain ⟨k1, k2, k3, k4, k5, k6, k7⟩ := unhide HC Wg hbg2
          generalize (bst (fs L) (2 ^ it - 1)).1 = most at *
          clear C16 HGV
          go_wp2_with fail
          go_quiet (fail)
          have hbz : Below Wz.heap.size Wz (Wg.drewN nq) := hbg2.trans ((below_drewN Wz.heap.size Wg nq).mono (Nat.le_refl _))
          go_wp2_with fail
          go_ret
          exact ⟨rfl, hbw.trans (hbz.mono hbw.size)⟩
end Go.Proofs.Ytaaikaeknealkaa
