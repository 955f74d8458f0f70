import Derived.Test.YtbbbjpkomnhofaaH
import Derived.Test.YtbbbjpkomnhofaaPU
namespace Go.Proofs.Ytbbbjpkomnhofaa
open Go.RowKit Go.Shelf
theorem abv_ov : ∀ k, k < 6 → ∀ u, u < 3 → ∀ v, v < 3 → abv [o6 k 0, o6 k 1, o6 k 2] (u : Nat) (v : Nat) = ov k u v := by decide +kernel
theorem o6_first : ∀ k, k < 6 → o6 k 0 = (first k : Int) := by decide +kernel
theorem li_parts (a b p q : Nat) (ha : a < 6) (hb : b < 6) (hp : p < 2) (hq : q < 6) : liN a b p q < 432 ∧ liN a b p q / 72 = a ∧ liN a b p q / 12 % 6 = b ∧ liN a b p q / 6 % 2 = p ∧ liN a b p q % 6 = q := by
  unfold liN
  refine ⟨?_, ?_, ?_, ?_, ?_⟩ <;> omega
theorem no_rule (l : List Int) (hl : l.length = 36) (hok : okF l 3) (hon : ∀ x : Nat, x < 3 → (x : Int) ∈ l) (hho : ∀ x : Fin 432, pays l x.val = false) :
    (∀ i, i < 36 → l[i]?.getD 0 = o6 (i / 6) 0) ∨ (∀ i, i < 36 → l[i]?.getD 0 = o6 (i % 6) 0) := by
  have hv : ∀ i, i < 36 → l[i]?.getD 0 = (((l[i]?.getD 0).toNat : Nat) : Int) ∧ (l[i]?.getD 0).toNat < 3 := fun i hi => by
    have := hok i (by omega)
    omega
  have key := chooser (fun i => (l[i]?.getD 0).toNat) (fun i hi => (hv i hi).2) ?_ ?_
  · rcases key with h | h
    · exact .inl fun i hi => by rw [(hv i hi).1, h i hi, o6_first _ (by omega)]
    · exact .inr fun i hi => by rw [(hv i hi).1, h i hi, o6_first _ (by omega)]
  · intro i hi j hj
    constructor
    · intro e
      obtain ⟨hx, e1, e2, e3, e4⟩ := li_parts (i / 6) (i % 6) 1 (j % 6) (by omega) (by omega) (by omega) (by omega)
      have h := hho ⟨liN (i / 6) (i % 6) 1 (j % 6), hx⟩
      unfold pays whoO told0 told1 at h
      dsimp only at h
      rw [e1, e2, e3, e4, if_neg (by omega), if_neg (by omega), if_neg (by omega), show 6 * (i / 6) + j % 6 = j by omega, show 6 * (i / 6) + i % 6 = i by omega, (hv i hi).1, (hv j hj).1, abv_ov _ (by omega) _ (hv j hj).2 _ (hv i hi).2] at h
      exact h
    · intro e
      obtain ⟨hx, e1, e2, e3, e4⟩ := li_parts (i / 6) (i % 6) 0 (j / 6) (by omega) (by omega) (by omega) (by omega)
      have h := hho ⟨liN (i / 6) (i % 6) 0 (j / 6), hx⟩
      unfold pays whoO told0 told1 at h
      dsimp only at h
      rw [e1, e2, e3, e4, if_pos rfl, if_pos rfl, if_pos rfl, show 6 * (j / 6) + i % 6 = j by omega, show 6 * (i / 6) + i % 6 = i by omega, (hv i hi).1, (hv j hj).1, abv_ov _ (by omega) _ (hv j hj).2 _ (hv i hi).2] at h
      exact h
  · intro x hx
    obtain ⟨i, e⟩ := List.getElem?_of_mem (hon x hx)
    have hi := (List.getElem?_eq_some_iff.1 e).1
    exact ⟨i, by omega, by show (l[i]?.getD 0).toNat = x; rw [e]; simp⟩
open Classical in
set_option maxRecDepth 100000 in
set_option maxHeartbeats 2000000 in
theorem topChooser_any (a : Option Addr) (n c : Nat) (l : List Int) (w : World) (h : Ints w a n c l) :
    Calls Try.prog 5 #[.slice a n c] w fun e w' => e = .returned (.bool true) ∧ Below w.heap.size w w' := by
  have C1 := hide (onto_any a n c l w h)
  have C2 := hide (honest_any a n c l w h)
  have C3 := hide (fun X (hX : Below w.heap.size w X) => choosers_any a n c l X (h.later hX))
  have C4 := hide (fun X (hX : Below w.heap.size w X) => ruleOf_any a n c l 3 X (h.later hX))
  have HR : Hid (ruE l 3 = 0 ↔ (l.length = 36 ∧ okF l 3)) := by
    show _ ↔ _
    unfold ruE
    by_cases e1 : l.length = 36
    · by_cases e2 : okF l 3
      · simp [e1, e2]
      · simp [e1, e2]
    · simp [e1]
  have HD : Hid (decide (l.length = 36 ∧ okF l 3) = (ruE l 3 == 0)) := by
    show _ = _
    rw [Bool.eq_iff_iff]
    simp only [decide_eq_true_eq, beq_iff_eq]
    exact (unhide HR).symm
  have NR := hide (fun h1 h2 h3 h4 => no_rule l h1 h2 h3 h4)
  clear h
  generalize ruE l 3 = r at *
  generalize decide (l.length = 36 ∧ okF l 3) = dk at *
  by_cases h0 : r = 0
  · subst h0
    obtain rfl : dk = true := unhide HD
    go_enter Try.func5, Try.ntmps5
    go_wp2_with fail
    refine (unhide C1).mono ?_
    rintro e w1 ⟨⟨t, ht, rfl⟩, hw1⟩
    subst w1
    have HT := hide ht
    clear ht
    go_wp2_with fail
    refine (unhide C2).mono ?_
    rintro e w2 ⟨⟨u, x1, x2, x3, x4, rfl, hu, hu2⟩, hb2⟩
    have HU := hide hu
    clear hu
    have C3' := hide (unhide C3 _ hb2)
    go_wp2_with fail
    refine (unhide C3').mono ?_
    rintro e w3 ⟨⟨t0, t1, rfl, hc⟩, hb3⟩
    have HC := hide hc
    clear hc
    have hb := hb2.trans (hb3.mono hb2.size)
    have C4' := hide (unhide C4 _ (hb.alloc hb.size (.cells #[.bool t0, .bool t1] 34)))
    have HB := hide (hb.alloc hb.size (.cells #[.bool t0, .bool t1] 34))
    clear hb hb3 hb2
    go_wp2_with fail
    refine (unhide C4').mono ?_
    rintro e w4 ⟨rfl, hw4⟩
    subst w4
    have key : t = true → u = true → t0 = true ∨ t1 = true := fun e1 e2 => by
      obtain ⟨q1, q2⟩ := (unhide HR).1 (by simp)
      rcases unhide NR q1 q2 (unhide HT e1) (unhide HU (by simp) e2) with h | h
      · exact .inl ((unhide HC (by simp)).1 h)
      · exact .inr ((unhide HC (by simp)).2 h)
    cases t with
    | false =>
      clear key
      go_wp2_with fail
      go_ret
      exact ⟨rfl, unhide HB⟩
    | true =>
      cases u with
      | false =>
        clear key
        go_wp2_with fail
        go_ret
        exact ⟨rfl, unhide HB⟩
      | true =>
        cases t0 with
        | true =>
          clear key
          go_wp2_with fail
          go_ret
          exact ⟨rfl, unhide HB⟩
        | false =>
          cases t1 with
          | true =>
            clear key
            go_wp2_with fail
            go_ret
            exact ⟨rfl, unhide HB⟩
          | false =>
            rcases key rfl rfl with h | h <;> cases h
  · have hne : (r == 0) = false := by simp [h0]
    have HNE := hide h0
    clear h0
    obtain rfl : dk = false := (unhide HD).trans hne
    go_enter Try.func5, Try.ntmps5
    go_wp2_with fail
    refine (unhide C1).mono ?_
    rintro e w1 ⟨⟨t, ht, rfl⟩, hw1⟩
    subst w1
    clear ht
    go_wp2_with fail
    refine (unhide C2).mono ?_
    rintro e w2 ⟨⟨u, x1, x2, x3, x4, rfl, hu, hu2⟩, hb2⟩
    obtain rfl : u = false := hu2 (unhide HNE)
    clear hu hu2
    have C3' := hide (unhide C3 _ hb2)
    go_wp2_with fail
    refine (unhide C3').mono ?_
    rintro e w3 ⟨⟨t0, t1, rfl, hc⟩, hb3⟩
    clear hc
    have hb := hb2.trans (hb3.mono hb2.size)
    have C4' := hide (unhide C4 _ (hb.alloc hb.size (.cells #[.bool t0, .bool t1] 34)))
    have HB := hide (hb.alloc hb.size (.cells #[.bool t0, .bool t1] 34))
    clear hb hb3 hb2
    go_wp2_with fail
    refine (unhide C4').mono ?_
    rintro e w4 ⟨rfl, hw4⟩
    subst w4
    cases t with
    | false =>
      go_wp2_with fail
      go_ret
      exact ⟨rfl, unhide HB⟩
    | true =>
      go_wp2_with fail
      go_ret
      exact ⟨rfl, unhide HB⟩
end Go.Proofs.Ytbbbjpkomnhofaa
