import Derived.Test.YtbbbjpkomnhofaaAP
import Derived.Test.YtbbbjpkomnhofaaRU
import Derived.Test.YtbbbjpkomnhofaaI
namespace Go.Proofs.Ytbbbjpkomnhofaa
open Go.RowKit Go.Shelf
theorem av_ov (k : Nat) (hk : k < 6) (p : Pr) : av k (p1 p) (p2 p) = ov k p.1.1 p.1.2 := abv_ov k hk _ p.2.1 _ p.2.2.1
theorem no_order (l : List Int) (hr : ∀ i, i < 36 → rl l i < 6) (ha : ∀ i, i < 36 → ∀ p : Pr, agB l i p) (hb : ∀ p : Pr, ∀ i, i < 36 → ∀ k, k < i → apB l p i k) :
    (∀ i, i < 36 → rl l i = i / 6) ∨ (∀ i, i < 36 → rl l i = i % 6) := by
  refine arrow (rl l) hr ?_ ?_
  · intro i hi x hx y hy hxy h1 h2
    have := ha i hi ⟨(x, y), hx, hy, hxy⟩
    unfold agB at this
    rw [av_ov _ (by omega), av_ov _ (by omega), av_ov _ (hr i hi)] at this
    exact this h1 h2
  · intro x hx y hy hxy
    have key : ∀ i, i < 36 → ∀ k, k < i → ov (i / 6) x y = ov (k / 6) x y → ov (i % 6) x y = ov (k % 6) x y → ov (rl l i) x y = ov (rl l k) x y := by
      intro i hi k hk h1 h2
      have := hb ⟨(x, y), hx, hy, hxy⟩ i hi k hk
      unfold apB at this
      rw [av_ov _ (by omega), av_ov _ (by omega), av_ov _ (by omega), av_ov _ (by omega), av_ov _ (hr i hi), av_ov _ (hr k (by omega))] at this
      exact this h1 h2
    intro i hi k hk h1 h2
    rcases Nat.lt_trichotomy i k with h | h | h
    · exact (key k hk i h h1.symm h2.symm).symm
    · rw [h]
    · exact key i hi k h h1 h2
theorem ruE_rl {l : List Int} (h : l.length = 36 ∧ okF l 6) : ∀ i, i < 36 → rl l i < 6 := fun i hi => by
  have := h.2 i (by omega)
  unfold rl
  omega
open Classical in
set_option maxRecDepth 100000 in
set_option maxHeartbeats 2000000 in
theorem topArrow_any (a : Option Addr) (n c : Nat) (l : List Int) (w : World) (h : Ints w a n c l) :
    Calls Try.prog 4 #[.slice a n c] w fun e w' => e = .returned (.bool true) ∧ Below w.heap.size w w' := by
  have C1 := hide (agrees_any a n c l w h)
  have C2 := hide (fun X (hX : Below w.heap.size w X) => apart_any a n c l X (h.later hX))
  have C3 := hide (fun X (hX : Below w.heap.size w X) => rulers_any a n c l X (h.later hX))
  have C4 := hide (fun X (hX : Below w.heap.size w X) => ruleOf_any a n c l 6 X (h.later hX))
  have HR : Hid (ruE l 6 = 0 ↔ (l.length = 36 ∧ okF l 6)) := by
    show _ ↔ _
    unfold ruE
    by_cases e1 : l.length = 36
    · by_cases e2 : okF l 6
      · simp [e1, e2]
      · simp [e1, e2]
    · simp [e1]
  have HD : Hid (decide (l.length = 36 ∧ okF l 6) = (ruE l 6 == 0)) := by
    show _ = _
    rw [Bool.eq_iff_iff]
    simp only [decide_eq_true_eq, beq_iff_eq]
    exact (unhide HR).symm
  have NR := hide (fun h1 h2 h3 => no_order l h1 h2 h3)
  have HE := hide (fun q => ruE_rl (l := l) q)
  clear h
  generalize ruE l 6 = r at *
  generalize decide (l.length = 36 ∧ okF l 6) = dk at *
  obtain ⟨G1, hG1⟩ : ∃ G, G = (∀ i, i < 36 → ∀ p : Pr, agB l i p) := ⟨_, rfl⟩
  obtain ⟨G2, hG2⟩ : ∃ G, G = (∀ p : Pr, ∀ i, i < 36 → ∀ k, k < i → apB l p i k) := ⟨_, rfl⟩
  rw [← hG1] at C1
  rw [← hG2] at C2
  have HG1 := hide hG1
  have HG2 := hide hG2
  clear hG1 hG2
  by_cases h0 : r = 0
  · subst h0
    obtain rfl : dk = true := unhide HD
    go_enter Try.func4, Try.ntmps4
    go_wp2_with fail
    refine (unhide C1).mono ?_
    rintro e w1 ⟨⟨t, rfl, ht, _⟩, hb1⟩
    have HT := hide (ht rfl)
    clear ht
    have C2' := hide (unhide C2 _ hb1)
    go_wp2_with fail
    refine (unhide C2').mono ?_
    rintro e w2 ⟨⟨u, rfl, hu, _⟩, hb2⟩
    have HU := hide (hu rfl)
    clear hu
    have hb12 := hb1.trans (hb2.mono hb1.size)
    have C3' := hide (unhide C3 _ hb12)
    go_wp2_with fail
    refine (unhide C3').mono ?_
    rintro e w3 ⟨⟨t0, t1, rfl, hc, _⟩, hb3⟩
    have HC := hide (hc rfl)
    clear hc
    have hb := hb12.trans (hb3.mono hb12.size)
    have C4' := hide (unhide C4 _ (hb.alloc hb.size (.cells #[.bool t0, .bool t1] 34)))
    have HB := hide (hb.alloc hb.size (.cells #[.bool t0, .bool t1] 34))
    clear hb hb3 hb2 hb1 hb12
    go_wp2_with fail
    refine (unhide C4').mono ?_
    rintro e w4 ⟨rfl, hw4⟩
    subst w4
    have key : t = true → u = true → t0 = true ∨ t1 = true := fun e1 e2 => by
      have q := (unhide HR).1 (by simp)
      have g1 := (unhide HT).1 e1
      have g2 := (unhide HU).1 e2
      rw [unhide HG1] at g1
      rw [unhide HG2] at g2
      rcases unhide NR (unhide HE q) g1 g2 with h | h
      · exact .inl ((unhide HC).1.2 h)
      · exact .inr ((unhide HC).2.2 h)
    cases t with
    | false =>
      clear key
      go_wp2_with fail
      go_ret
      exact ⟨rfl, unhide HB⟩
    | true =>
      cases u with
      | false =>
        clear key
        go_wp2_with fail
        go_ret
        exact ⟨rfl, unhide HB⟩
      | true =>
        cases t0 with
        | true =>
          clear key
          go_wp2_with fail
          go_ret
          exact ⟨rfl, unhide HB⟩
        | false =>
          cases t1 with
          | true =>
            clear key
            go_wp2_with fail
            go_ret
            exact ⟨rfl, unhide HB⟩
          | false =>
            rcases key rfl rfl with h | h <;> cases h
  · have hne : (r == 0) = false := by simp [h0]
    have HNE := hide h0
    clear h0
    obtain rfl : dk = false := (unhide HD).trans hne
    go_enter Try.func4, Try.ntmps4
    go_wp2_with fail
    refine (unhide C1).mono ?_
    rintro e w1 ⟨⟨t, rfl, _, ht⟩, hb1⟩
    obtain rfl : t = false := ht (unhide HNE)
    have C2' := hide (unhide C2 _ hb1)
    go_wp2_with fail
    refine (unhide C2').mono ?_
    rintro e w2 ⟨⟨u, rfl, _, hu⟩, hb2⟩
    obtain rfl : u = false := hu (unhide HNE)
    clear hu ht
    have hb12 := hb1.trans (hb2.mono hb1.size)
    have C3' := hide (unhide C3 _ hb12)
    go_wp2_with fail
    refine (unhide C3').mono ?_
    rintro e w3 ⟨⟨t0, t1, rfl, _, _⟩, hb3⟩
    have hb := hb12.trans (hb3.mono hb12.size)
    have C4' := hide (unhide C4 _ (hb.alloc hb.size (.cells #[.bool t0, .bool t1] 34)))
    have HB := hide (hb.alloc hb.size (.cells #[.bool t0, .bool t1] 34))
    clear hb hb3 hb2 hb1 hb12
    go_wp2_with fail
    refine (unhide C4').mono ?_
    rintro e w4 ⟨rfl, hw4⟩
    subst w4
    go_wp2_with fail
    go_ret
    exact ⟨rfl, unhide HB⟩
end Go.Proofs.Ytbbbjpkomnhofaa
