import Derived.Test.YtbcchbhchfdbiaaD
namespace Go.Proofs.Ytbcchbhchfdbiaa
open Go.RowKit
set_option maxRecDepth 100000 in
set_option maxHeartbeats 4000000 in
theorem mayNode_any (P : Nat) (a : Option Addr) (n c : Nat) (at' : Nat) (d : Nd) (w : World) (hk : SlIn w d.k) (hq : SlIn w d.p) :
    Calls Try.prog 28 #[tV P a n c, .int .i64 at', nV d.pl d.k.la d.k.ln d.k.lc d.p.la d.p.ln d.p.lc] w fun e w' => e = .returned (.int .i64 (nodeE P n at' d)) ∧ Below w.heap.size w w' := by
  obtain ⟨pl, ⟨ka, kn, kc, kids⟩, ⟨qa, qn, qc, pay⟩⟩ := d
  have R1 := hide (fun x y => nodeE_1 (P := (P : Int)) (n := (n : Int)) (a := (at' : Int)) (d := ⟨pl, ⟨ka, kn, kc, kids⟩, ⟨qa, qn, qc, pay⟩⟩) x y)
  have R9 := hide (fun x y => nodeE_9 (P := (P : Int)) (n := (n : Int)) (a := (at' : Int)) (d := ⟨pl, ⟨ka, kn, kc, kids⟩, ⟨qa, qn, qc, pay⟩⟩) x y)
  have R8 := hide (fun x y j hj => nodeE_8 (P := (P : Int)) (n := (n : Int)) (a := (at' : Int)) (d := ⟨pl, ⟨ka, kn, kc, kids⟩, ⟨qa, qn, qc, pay⟩⟩) x y (j := j) hj)
  have R0 := hide (fun x y z => nodeE_0 (P := (P : Int)) (n := (n : Int)) (a := (at' : Int)) (d := ⟨pl, ⟨ka, kn, kc, kids⟩, ⟨qa, qn, qc, pay⟩⟩) x y z)
  generalize nodeE (P : Int) (n : Int) (at' : Int) ⟨pl, ⟨ka, kn, kc, kids⟩, ⟨qa, qn, qc, pay⟩⟩ = E at *
  unfold SlIn at hk hq
  simp only at hk hq R1 R9 R8 R0
  have k1 := hk.2.1
  have k2 := hk.2.2.1
  have q1 := hq.2.1
  have q2 := hq.2.2.1
  unfold maxLen at k2 q2
  have HKL : Hid (kn = kids.length) := hk.1
  have HQL : Hid (qn = pay.length) := hq.1
  have hbW : Below w.heap.size w ((w.alloc (.cells #[.int .i64 P, .slice a n c] 24)).alloc (.cells #[.int .i64 pl, .slice ka kn kc, .slice qa qn qc] 51)) := by go_grown
  obtain ⟨W, hW⟩ : ∃ W, (w.alloc (.cells #[.int .i64 (P : Int), .slice a n c] 24)).alloc (.cells #[.int .i64 pl, .slice ka kn kc, .slice qa qn qc] 51) = W := ⟨_, rfl⟩
  have HB : Hid (∀ wr, Below W.heap.size W wr → wr.cell? ⟨w.heap.size, 0, none⟩ = some (.int .i64 P) ∧ wr.cell? ⟨w.heap.size, 1, none⟩ = some (.slice a n c) ∧ wr.cell? ⟨w.heap.size + 1, 0, none⟩ = some (.int .i64 pl) ∧ wr.cell? ⟨w.heap.size + 1, 1, none⟩ = some (.slice ka kn kc) ∧ wr.cell? ⟨w.heap.size + 1, 2, none⟩ = some (.slice qa qn qc)) := fun wr hb => by
    have hs : W.heap.size = w.heap.size + 2 := by rw [← hW]; simp
    refine ⟨(hb.cell (p := ⟨w.heap.size, 0, none⟩) (by show w.heap.size < _; omega)).trans ?_, (hb.cell (p := ⟨w.heap.size, 1, none⟩) (by show w.heap.size < _; omega)).trans ?_, (hb.cell (p := ⟨w.heap.size + 1, 0, none⟩) (by show w.heap.size + 1 < _; omega)).trans ?_, (hb.cell (p := ⟨w.heap.size + 1, 1, none⟩) (by show w.heap.size + 1 < _; omega)).trans ?_, (hb.cell (p := ⟨w.heap.size + 1, 2, none⟩) (by show w.heap.size + 1 < _; omega)).trans ?_⟩ <;> rw [← hW] <;> simp [World.cell?_alloc_past, World.cell?_alloc_at]
  rw [hW] at hbW
  have HW := hide hW
  have HBT := hide (fun (wr : World) (hb : Below W.heap.size W wr) => Below.trans hbW (hb.mono hbW.size))
  have HKW := hide (hk.later hbW)
  have HQW := hide (hq.later hbW)
  have CE : Hid (∀ wr, Calls Try.prog 47 #[nV pl ka kn kc qa qn qc, .int .i64 (P : Int)] wr fun e w' => e = .returned (.bool (endB P pl kn qn)) ∧ Below wr.heap.size wr w') := fun wr => isEnd_any P pl ka kn kc qa qn qc wr (by omega)
  have CM : Hid (∀ wr, Calls Try.prog 48 #[nV pl ka kn kc qa qn qc, .int .i64 (P : Int)] wr fun e w' => e = .returned (.bool (movB P pl kn qn)) ∧ Below wr.heap.size wr w') := fun wr => isMove_any P pl ka kn kc qa qn qc wr (by omega) (by omega)
  obtain ⟨w0, w1, v0, v1, v2⟩ := unhide HB W (Below.refl _ _)
  clear hk hq hW hbW
  unfold tV nV at *
  go_enter Try.func28, Try.ntmps28
  go_wp2_with fail
  rw [unhide HW]
  go_wp2_with fail
  refine (unhide CE W).mono ?_
  rintro e w2 ⟨rfl, hb2⟩
  have HB2 := hide hb2
  clear hb2 w0 w1 v0 v1 v2
  obtain ⟨w0, w1, v0, v1, v2⟩ := unhide HB _ (unhide HB2)
  cases he : endB P pl kn qn with
  | true =>
    have HNX : Hid (¬ (endB P pl kn qn = false ∧ movB P pl kn qn = false)) := fun h => by rw [he] at h; cases h.1
    have HBQ := HB2
    clear he
    have HN : Hid (¬ (endB P pl kn qn = false ∧ movB P pl kn qn = false)) := HNX
    have R9 := hide (unhide R9 (unhide HN))
    have R8 := hide (unhide R8 (unhide HN))
    have R0 := hide (unhide R0 (unhide HN))
    have HBX := hide (unhide HBT _ (unhide HBQ))
    clear HN R1 CE CM
    go_wp2
    go_loop [27, 8] (fun i _ => ∃ k : Nat, k ≤ qn ∧ i = .int .i64 k ∧ ∀ q, q < k → badP (pay[q]?.getD 0) = false) (fun i _ => qn - (intOf i).toNat)
    case atStart => exact ⟨0, Nat.zero_le _, rfl, fun q hq => absurd hq (Nat.not_lt_zero _)⟩
    case round =>
      obtain ⟨k, hk, rfl, hall⟩ := hrel
      have HA := hide hall
      clear hall
      by_cases hlt : k < qn
      · obtain ⟨qb, qo, eqa, hqb, hqc⟩ := ((unhide HQW).later (unhide HBQ)).cellAt (by omega)
        subst eqa
        have hx := hqc k hlt
        clear hqc
        by_cases hb : pay[k]?.getD 0 < -999 ∨ 999 < pay[k]?.getD 0
        · have HR := hide (unhide R9 (any_yes (by have := unhide HQL; omega) (badP_yes hb)))
          generalize pay[k]?.getD 0 = x at *
          by_cases hb1 : x < -999
          · clear hb
            go_wp2
            go_ret
            exact ⟨ret_int (unhide HR).symm, unhide HBX⟩
          · have hb1' : -999 ≤ x := by omega
            have hb2 : 999 < x := by omega
            clear hb hb1
            go_wp2
            go_ret
            exact ⟨ret_int (unhide HR).symm, unhide HBX⟩
        · have HR : Hid (∀ q, q < k + 1 → badP (pay[q]?.getD 0) = false) := fun q hq => by
            by_cases e : q = k
            · rw [e]; exact badP_no hb
            · exact unhide HA q (by omega)
          generalize pay[k]?.getD 0 = x at *
          have hb1' : -999 ≤ x := by omega
          have hb2 : x ≤ 999 := by omega
          clear hb
          go_wp2
          exact ⟨⟨k + 1, by omega, by go_num, unhide HR⟩, by simp [intOf]; omega⟩
      · obtain rfl : qn = k := by omega
        have hna : pay.any badP = false := any_no (fun q hq => unhide HA q (by have := unhide HQL; omega))
        have R8 := hide (unhide R8 hna)
        have R0 := hide (unhide R0 hna)
        clear hna R9
        go_wp2
        go_loop [42, 9, 11] (fun i h _ => ∃ k : Nat, k ≤ kn ∧ i = .int .i64 k ∧ h = .int .i64 (ahd at' kids k) ∧ ∀ j, j < k → ¬ BadKid n at' kids j) (fun i _ _ => kn - (intOf i).toNat)
        case atStart => exact ⟨0, Nat.zero_le _, rfl, rfl, fun q hq => absurd hq (Nat.not_lt_zero _)⟩
        case round =>
          obtain ⟨k, hk, rfl, rfl, hall⟩ := hrel
          have HA := hide hall
          clear hall
          by_cases hlt : k < kn
          · obtain ⟨kb, ko, eka, hkb, hkc⟩ := ((unhide HKW).later (unhide HBQ)).nth (by omega)
            subst eka
            have hx := hkc k hlt
            clear hkc
            have hah : ahd at' kids (k + 1) = nth kids k := rfl
            by_cases hb : BadKid n at' kids k
            · have HR := hide (unhide R8 k (by have := unhide HKL; omega) hb)
              unfold BadKid at hb
              generalize nth kids k = x at *
              generalize ahd at' kids k = y at *
              by_cases hb1 : x ≤ y
              · have hd1 : decide (x ≤ y) = true := by simp [hb1]
                clear hb hb1
                go_wp2
                go_ret
                exact ⟨ret_int (unhide HR).symm, unhide HBX⟩
              · have hd1 : decide (x ≤ y) = false := by simp; omega
                have hd2 : decide ((n : Int) ≤ x) = true := by simp; omega
                clear hb hb1
                go_wp2
                go_ret
                exact ⟨ret_int (unhide HR).symm, unhide HBX⟩
            · have HR : Hid (∀ j, j < k + 1 → ¬ BadKid n at' kids j) := fun j hj => by
                by_cases e : j = k
                · rw [e]; exact hb
                · exact unhide HA j (by omega)
              unfold BadKid at hb
              have HAH := hide hah
              clear hah
              generalize nth kids k = x at *
              generalize ahd at' kids k = y at *
              have hd1 : decide (x ≤ y) = false := by simp; omega
              have hd2 : decide ((n : Int) ≤ x) = false := by simp; omega
              clear hb
              go_wp2
              exact ⟨⟨k + 1, by omega, by go_num, by rw [unhide HAH], unhide HR⟩, by simp [intOf]; omega⟩
          · obtain rfl : kn = k := by omega
            have HR := hide (unhide R0 (fun j hj => unhide HA j (by have := unhide HKL; omega)))
            go_wp2
            go_ret
            exact ⟨ret_int (unhide HR).symm, unhide HBX⟩
  | false =>
    have CM1 := hide (unhide CM w2)
    go_wp2_with fail
    refine (unhide CM1).mono ?_
    rintro e w3 ⟨rfl, hb3⟩
    have HB3 := hide ((unhide HB2).trans (hb3.mono (unhide HB2).size))
    clear hb3 w0 w1 v0 v1 v2 CM1
    obtain ⟨w0, w1, v0, v1, v2⟩ := unhide HB _ (unhide HB3)
    cases hm : movB P pl kn qn with
    | true =>
      have HNX : Hid (¬ (endB P pl kn qn = false ∧ movB P pl kn qn = false)) := fun h => by rw [hm] at h; cases h.2
      have HBQ := HB3
      clear he hm HB2
      have HN : Hid (¬ (endB P pl kn qn = false ∧ movB P pl kn qn = false)) := HNX
      have R9 := hide (unhide R9 (unhide HN))
      have R8 := hide (unhide R8 (unhide HN))
      have R0 := hide (unhide R0 (unhide HN))
      have HBX := hide (unhide HBT _ (unhide HBQ))
      clear HN R1 CE CM
      go_wp2
      go_loop [27, 8] (fun i _ => ∃ k : Nat, k ≤ qn ∧ i = .int .i64 k ∧ ∀ q, q < k → badP (pay[q]?.getD 0) = false) (fun i _ => qn - (intOf i).toNat)
      case atStart => exact ⟨0, Nat.zero_le _, rfl, fun q hq => absurd hq (Nat.not_lt_zero _)⟩
      case round =>
        obtain ⟨k, hk, rfl, hall⟩ := hrel
        have HA := hide hall
        clear hall
        by_cases hlt : k < qn
        · obtain ⟨qb, qo, eqa, hqb, hqc⟩ := ((unhide HQW).later (unhide HBQ)).cellAt (by omega)
          subst eqa
          have hx := hqc k hlt
          clear hqc
          by_cases hb : pay[k]?.getD 0 < -999 ∨ 999 < pay[k]?.getD 0
          · have HR := hide (unhide R9 (any_yes (by have := unhide HQL; omega) (badP_yes hb)))
            generalize pay[k]?.getD 0 = x at *
            by_cases hb1 : x < -999
            · clear hb
              go_wp2
              go_ret
              exact ⟨ret_int (unhide HR).symm, unhide HBX⟩
            · have hb1' : -999 ≤ x := by omega
              have hb2 : 999 < x := by omega
              clear hb hb1
              go_wp2
              go_ret
              exact ⟨ret_int (unhide HR).symm, unhide HBX⟩
          · have HR : Hid (∀ q, q < k + 1 → badP (pay[q]?.getD 0) = false) := fun q hq => by
              by_cases e : q = k
              · rw [e]; exact badP_no hb
              · exact unhide HA q (by omega)
            generalize pay[k]?.getD 0 = x at *
            have hb1' : -999 ≤ x := by omega
            have hb2 : x ≤ 999 := by omega
            clear hb
            go_wp2
            exact ⟨⟨k + 1, by omega, by go_num, unhide HR⟩, by simp [intOf]; omega⟩
        · obtain rfl : qn = k := by omega
          have hna : pay.any badP = false := any_no (fun q hq => unhide HA q (by have := unhide HQL; omega))
          have R8 := hide (unhide R8 hna)
          have R0 := hide (unhide R0 hna)
          clear hna R9
          go_wp2
          go_loop [42, 9, 11] (fun i h _ => ∃ k : Nat, k ≤ kn ∧ i = .int .i64 k ∧ h = .int .i64 (ahd at' kids k) ∧ ∀ j, j < k → ¬ BadKid n at' kids j) (fun i _ _ => kn - (intOf i).toNat)
          case atStart => exact ⟨0, Nat.zero_le _, rfl, rfl, fun q hq => absurd hq (Nat.not_lt_zero _)⟩
          case round =>
            obtain ⟨k, hk, rfl, rfl, hall⟩ := hrel
            have HA := hide hall
            clear hall
            by_cases hlt : k < kn
            · obtain ⟨kb, ko, eka, hkb, hkc⟩ := ((unhide HKW).later (unhide HBQ)).nth (by omega)
              subst eka
              have hx := hkc k hlt
              clear hkc
              have hah : ahd at' kids (k + 1) = nth kids k := rfl
              by_cases hb : BadKid n at' kids k
              · have HR := hide (unhide R8 k (by have := unhide HKL; omega) hb)
                unfold BadKid at hb
                generalize nth kids k = x at *
                generalize ahd at' kids k = y at *
                by_cases hb1 : x ≤ y
                · have hd1 : decide (x ≤ y) = true := by simp [hb1]
                  clear hb hb1
                  go_wp2
                  go_ret
                  exact ⟨ret_int (unhide HR).symm, unhide HBX⟩
                · have hd1 : decide (x ≤ y) = false := by simp; omega
                  have hd2 : decide ((n : Int) ≤ x) = true := by simp; omega
                  clear hb hb1
                  go_wp2
                  go_ret
                  exact ⟨ret_int (unhide HR).symm, unhide HBX⟩
              · have HR : Hid (∀ j, j < k + 1 → ¬ BadKid n at' kids j) := fun j hj => by
                  by_cases e : j = k
                  · rw [e]; exact hb
                  · exact unhide HA j (by omega)
                unfold BadKid at hb
                have HAH := hide hah
                clear hah
                generalize nth kids k = x at *
                generalize ahd at' kids k = y at *
                have hd1 : decide (x ≤ y) = false := by simp; omega
                have hd2 : decide ((n : Int) ≤ x) = false := by simp; omega
                clear hb
                go_wp2
                exact ⟨⟨k + 1, by omega, by go_num, by rw [unhide HAH], unhide HR⟩, by simp [intOf]; omega⟩
            · obtain rfl : kn = k := by omega
              have HR := hide (unhide R0 (fun j hj => unhide HA j (by have := unhide HKL; omega)))
              go_wp2
              go_ret
              exact ⟨ret_int (unhide HR).symm, unhide HBX⟩
    | false =>
      have HR := hide (unhide R1 he hm)
      have HBX := hide (unhide HBT _ (unhide HB3))
      clear he hm
      go_wp2
      go_ret
      exact ⟨ret_int (unhide HR).symm, unhide HBX⟩
end Go.Proofs.Ytbcchbhchfdbiaa
