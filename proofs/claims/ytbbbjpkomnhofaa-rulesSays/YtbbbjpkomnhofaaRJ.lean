import Derived.Test.YtbbbjpkomnhofaaRI
namespace Go.Proofs.Ytbbbjpkomnhofaa
open Go.RowKit Go.Shelf
theorem ints3 (w : World) (x0 x1 x2 : Int) : Ints (w.alloc (.cells #[.int .i64 x0, .int .i64 x1, .int .i64 x2] 3)) (some ⟨w.heap.size, 0, none⟩) 3 3 [x0, x1, x2] := by
  refine ⟨rfl, Nat.le_refl _, by unfold maxLen; omega, .inr ⟨w.heap.size, 0, rfl, by simp, fun j hj => ?_⟩⟩
  have hn := World.alloc_heap_new w (.cells #[.int .i64 x0, .int .i64 x1, .int .i64 x2] 3)
  rcases (by omega : j = 0 ∨ j = 1 ∨ j = 2) with rfl | rfl | rfl <;> exact (cell_in hn rfl).1
theorem bt {x y z : World} (h : Below x.heap.size x y) (k : Below y.heap.size y z) : Below x.heap.size x z := h.trans (k.mono h.size)
theorem eqZ (X : World) : (Op.equalIn 10000 23 (.agg #[.int .i64 0, .int .i64 0, .int .i64 0]) (.agg #[.int .i64 0, .int .i64 0, .int .i64 0])).run Try.prog X = .ok true X := by kernel_rfl
set_option maxRecDepth 100000 in
set_option maxHeartbeats 4000000 in
theorem rulesSays_any (a : Option Addr) (n c : Nat) (l : List Int) (k : Int) (w : World) (h : Ints w a n c l) :
    Calls Try.prog 3 #[.slice a n c, .int .i64 k] w fun e w' => e = .returned (.bool true) ∧ Below w.heap.size w w' := by
  have C1 := hide (order_any k w)
  have M6 := hide (fun X (hX : Below w.heap.size w X) => ruleMay_any a n c l 6 X (h.later hX))
  have M3 := hide (fun X (hX : Below w.heap.size w X) => ruleMay_any a n c l 3 X (h.later hX))
  have OC := hide (fun X (hX : Below w.heap.size w X) => orderRule_any a n c l X (h.later hX))
  have CC := hide (fun X (hX : Below w.heap.size w X) => choiceRule_any a n c l X (h.later hX))
  have hcc := h.2.1
  have hcm := h.2.2.1
  unfold maxLen at hcm
  have heq := eqZ
  clear h
  generalize ruE l 6 = r6 at *
  generalize ruE l 3 = r3 at *
  by_cases hbig : 100 < n
  · go_enter Try.func3, Try.ntmps3
    go_wp2_with fail
    go_ret
    exact ⟨rfl, Below.refl _ _⟩
  · by_cases hk0 : k < 0
    · go_enter Try.func3, Try.ntmps3
      go_wp2_with fail
      refine (unhide C1).mono ?_
      rintro e w1 ⟨⟨o0, o1, o2, r, rfl, _, hn⟩, hb1⟩
      obtain ⟨rfl, rfl, rfl, rfl⟩ := hn (.inl hk0)
      clear hn
      have HB2' := hide (hb1.alloc hb1.size (.cells #[.int .i64 0, .int .i64 0, .int .i64 0] 23))
      clear hb1
      go_wp2_with fail
      go_quiet (fail)
      have HB2 := hide ((unhide HB2').trans (below_drewN _ _ nq))
      go_wp2_with fail
      refine (unhide (hide (unhide M6 _ (unhide HB2)))).mono ?_
      rintro e w6 ⟨rfl, hw6⟩
      subst w6
      have D1 := hide (unhide OC _ (unhide HB2))
      go_wp2_with fail
      refine (unhide D1).mono ?_
      rintro e w7 ⟨rfl, hb7⟩
      have HB7 := hide ((unhide HB2).trans (hb7.mono (unhide HB2).size))
      clear hb7
      have D2 := hide (unhide M3 _ (unhide HB7))
      have D3 := hide (unhide CC _ (unhide HB7))
      go_wp2_with fail
      refine (unhide D2).mono ?_
      rintro e w8 ⟨rfl, hw8⟩
      subst w8
      go_wp2_with fail
      refine (unhide D3).mono ?_
      rintro e w9 ⟨rfl, hb9⟩
      have HB9 := hide ((unhide HB7).trans (hb9.mono (unhide HB7).size))
      clear hb9
      go_wp2_with fail
      go_ret
      exact ⟨rfl, unhide HB9⟩
    · by_cases hk6 : 6 ≤ k
      · go_enter Try.func3, Try.ntmps3
        go_wp2_with fail
        refine (unhide C1).mono ?_
        rintro e w1 ⟨⟨o0, o1, o2, r, rfl, _, hn⟩, hb1⟩
        obtain ⟨rfl, rfl, rfl, rfl⟩ := hn (.inr hk6)
        clear hn
        have HB2' := hide (hb1.alloc hb1.size (.cells #[.int .i64 0, .int .i64 0, .int .i64 0] 23))
        clear hb1
        go_wp2_with fail
        go_quiet (fail)
        have HB2 := hide ((unhide HB2').trans (below_drewN _ _ nq))
        go_wp2_with fail
        refine (unhide (hide (unhide M6 _ (unhide HB2)))).mono ?_
        rintro e w6 ⟨rfl, hw6⟩
        subst w6
        have D1 := hide (unhide OC _ (unhide HB2))
        go_wp2_with fail
        refine (unhide D1).mono ?_
        rintro e w7 ⟨rfl, hb7⟩
        have HB7 := hide ((unhide HB2).trans (hb7.mono (unhide HB2).size))
        clear hb7
        have D2 := hide (unhide M3 _ (unhide HB7))
        have D3 := hide (unhide CC _ (unhide HB7))
        go_wp2_with fail
        refine (unhide D2).mono ?_
        rintro e w8 ⟨rfl, hw8⟩
        subst w8
        go_wp2_with fail
        refine (unhide D3).mono ?_
        rintro e w9 ⟨rfl, hb9⟩
        have HB9 := hide ((unhide HB7).trans (hb9.mono (unhide HB7).size))
        clear hb9
        go_wp2_with fail
        go_ret
        exact ⟨rfl, unhide HB9⟩
      · obtain ⟨m, rfl⟩ : ∃ m : Nat, k = (m : Int) := ⟨k.toNat, by omega⟩
        have hm : m < 6 := by omega
        have OR := hide (orderNo_any m hm)
        go_enter Try.func3, Try.ntmps3
        go_wp2_with fail
        refine (unhide C1).mono ?_
        rintro e w1 ⟨⟨o0, o1, o2, r, rfl, hy, _⟩, hb1⟩
        obtain ⟨rfl, rfl, rfl, rfl⟩ := hy m hm rfl
        clear hy
        have HB2 := hide (hb1.alloc hb1.size (.cells #[.int .i64 (o6 m 0), .int .i64 (o6 m 1), .int .i64 (o6 m 2)] 23))
        have hn2 := World.alloc_heap_new w1 (.cells #[.int .i64 (o6 m 0), .int .i64 (o6 m 1), .int .i64 (o6 m 2)] 23)
        have c0 := (cell_in hn2 (j := 0) rfl).1
        have c1 := (cell_in hn2 (j := 1) rfl).1
        have c2 := (cell_in hn2 (j := 2) rfl).1
        obtain ⟨W2, hW2⟩ : ∃ y, y = w1.alloc (.cells #[.int .i64 (o6 m 0), .int .i64 (o6 m 1), .int .i64 (o6 m 2)] 23) := ⟨_, rfl⟩
        rw [← hW2] at HB2 c0 c1 c2
        have HW2 := hide hW2
        clear hb1 hn2 hW2
        have sS : ∀ X Y : World, Below X.heap.size X Y → (X.cell? ⟨w1.heap.size, 0, none⟩ = some (.int .i64 (o6 m 0)) ∧ X.cell? ⟨w1.heap.size, 1, none⟩ = some (.int .i64 (o6 m 1)) ∧ X.cell? ⟨w1.heap.size, 2, none⟩ = some (.int .i64 (o6 m 2))) → (Y.cell? ⟨w1.heap.size, 0, none⟩ = some (.int .i64 (o6 m 0)) ∧ Y.cell? ⟨w1.heap.size, 1, none⟩ = some (.int .i64 (o6 m 1)) ∧ Y.cell? ⟨w1.heap.size, 2, none⟩ = some (.int .i64 (o6 m 2))) := fun X Y hb hX => ⟨(hb.cell (p := ⟨w1.heap.size, 0, none⟩) (block_lt_of_cell hX.1)).trans hX.1, (hb.cell (p := ⟨w1.heap.size, 1, none⟩) (block_lt_of_cell hX.2.1)).trans hX.2.1, (hb.cell (p := ⟨w1.heap.size, 2, none⟩) (block_lt_of_cell hX.2.2)).trans hX.2.2⟩
        have SS := hide sS
        have hba : Below W2.heap.size W2 (W2.alloc (.cells #[.int .i64 (o6 m 0), .int .i64 (o6 m 1), .int .i64 (o6 m 2)] 3)).drew := ((Below.refl _ _).alloc (Nat.le_refl _) _).drew
        have HS0 : Hid ((fun X : World => X.cell? ⟨w1.heap.size, 0, none⟩ = some (.int .i64 (o6 m 0)) ∧ X.cell? ⟨w1.heap.size, 1, none⟩ = some (.int .i64 (o6 m 1)) ∧ X.cell? ⟨w1.heap.size, 2, none⟩ = some (.int .i64 (o6 m 2))) W2.drew) := ⟨c0, c1, c2⟩
        have HS1 : Hid ((fun X : World => X.cell? ⟨w1.heap.size, 0, none⟩ = some (.int .i64 (o6 m 0)) ∧ X.cell? ⟨w1.heap.size, 1, none⟩ = some (.int .i64 (o6 m 1)) ∧ X.cell? ⟨w1.heap.size, 2, none⟩ = some (.int .i64 (o6 m 2))) (W2.alloc (.cells #[.int .i64 (o6 m 0), .int .i64 (o6 m 1), .int .i64 (o6 m 2)] 3)).drew) := sS W2 _ hba ⟨c0, c1, c2⟩
        have IA := hide ((ints3 W2 (o6 m 0) (o6 m 1) (o6 m 2)).later (Below.refl _ _).drew)
        have HBA := hide hba
        clear sS hba
        go_wp2_with fail
        obtain ⟨B5, hB5⟩ : ∃ y, y = w1.heap.size := ⟨_, rfl⟩
        rw [← unhide HW2]
        go_region_held3 (fun X => X.cell? ⟨w1.heap.size, 0, none⟩ = some (.int .i64 (o6 m 0)) ∧ X.cell? ⟨w1.heap.size, 1, none⟩ = some (.int .i64 (o6 m 1)) ∧ X.cell? ⟨w1.heap.size, 2, none⟩ = some (.int .i64 (o6 m 2)))
          (first | with_reducible exact unhide HS0 | with_reducible exact unhide HS1 | with_reducible exact unhide HS5 | with_reducible exact unhide HS6 | with_reducible exact unhide HS7)
          (first
            | (go_at_call 8; refine (unhide OR _).mono ?_; rintro e w5 ⟨⟨a5, c5, rfl, hI5⟩, hb5⟩; have HS5 := hide (unhide SS _ _ hb5 (by first | exact unhide HS0 | exact unhide HS1)); have hb6 : Below w5.heap.size w5 (w5.alloc (.cells #[.int .i64 (o6 m 0), .int .i64 (o6 m 1), .int .i64 (o6 m 2)] 3)) := (Below.refl _ w5).alloc (Nat.le_refl _) _; have HS6 := hide (unhide SS _ _ hb6 (unhide HS5)); have CB := sameInts_any _ _ _ _ _ _ _ _ _ (ints3 w5 (o6 m 0) (o6 m 1) (o6 m 2)) (hI5.later hb6); rw [decide_eq_true (show [o6 m 0, o6 m 1, o6 m 2] = oL m from rfl)] at CB; have HCB := hide CB; (try (have CA := sameInts_any _ _ _ _ _ _ _ _ _ ((unhide IA).later hb5) hI5; rw [decide_eq_true (show [o6 m 0, o6 m 1, o6 m 2] = oL m from rfl)] at CA; have HCA := hide CA)); have HB5 := hide hb5; clear hI5 hb5 hb6 CB)
            | (go_at_call 7; (first | with_reducible refine (unhide HCA).mono ?_ | with_reducible refine (unhide HCB).mono ?_); rintro e w7 ⟨rfl, hb7⟩; have HS7 := hide (unhide SS _ _ hb7 (by first | exact unhide HS5 | exact unhide HS6)); have HB7 := hide hb7; clear hb7))
        all_goals
          have HBX : Hid (Below w.heap.size w w7) := by
            first
              | exact bt (bt (bt (unhide HB2) (unhide HBA)) (unhide HB5)) (unhide HB7)
              | exact bt (bt (bt (bt (unhide HB2) (Below.refl _ _).drew) (unhide HB5)) ((Below.refl _ w5).alloc (Nat.le_refl _) (.cells #[.int .i64 (o6 m 0), .int .i64 (o6 m 1), .int .i64 (o6 m 2)] 3))) (unhide HB7)
          clear HB2 HB7 HB5
          have HB2 := hide (unhide HBX)
          go_wp2_with fail
          refine (unhide (hide (unhide M6 _ (unhide HB2)))).mono ?_
          rintro e w6 ⟨rfl, hw6⟩
          subst w6
          have D1 := hide (unhide OC _ (unhide HB2))
          go_wp2_with fail
          refine (unhide D1).mono ?_
          rintro e w7 ⟨rfl, hb7⟩
          have HB7 := hide ((unhide HB2).trans (hb7.mono (unhide HB2).size))
          clear hb7
          have D2 := hide (unhide M3 _ (unhide HB7))
          have D3 := hide (unhide CC _ (unhide HB7))
          go_wp2_with fail
          refine (unhide D2).mono ?_
          rintro e w8 ⟨rfl, hw8⟩
          subst w8
          go_wp2_with fail
          refine (unhide D3).mono ?_
          rintro e w9 ⟨rfl, hb9⟩
          have HB9 := hide ((unhide HB7).trans (hb9.mono (unhide HB7).size))
          clear hb9
          go_wp2_with fail
          go_ret
          exact ⟨rfl, unhide HB9⟩
end Go.Proofs.Ytbbbjpkomnhofaa
