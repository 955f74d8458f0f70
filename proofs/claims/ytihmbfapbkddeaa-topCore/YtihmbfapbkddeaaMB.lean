import Derived.Test.YtihmbfapbkddeaaMA
namespace Go.Proofs.Ytihmbfapbkddeaa
open Go.RowKit
/-- What the made wishes are. -/
def WishPost (n : Nat) (w : World) (e : Ending) (w' : World) : Prop :=
  ∃ a c L, e = .returned (.slice a n c) ∧ Lsts w' a n c L ∧ (∀ s ∈ L, s.ln = n ∧ s.ints.Perm (upL n)) ∧ Below w.heap.size w w'
set_option maxRecDepth 100000 in
set_option maxHeartbeats 4000000 in
theorem wishes_any (a : Option Addr) (m c : Nat) (raw : List Int) (n : Nat) (w : World) (h : Ints w a m c raw) (hr : ∀ x ∈ raw, InR x) (hm : m ≤ 256) (hn : n ≤ 6) :
    Calls Try.prog 18 #[.slice a m c, .int .i64 n] w fun e w' => WishPost n w e w' := by
  have HR := hide hr
  have HI := hide h
  clear hr h
  go_enter Try.func18, Try.ntmps18
  go_wp2_with fail
  go_loopw [6, 5, 7] (fun q v _ wy => Below w.heap.size w wy ∧ ∃ (k : Nat) (L : List Sl), k ≤ n ∧ q = .int .i64 k ∧ wy.ownsRow w.heap.size 23 1 v k (slVals L) ∧ (∀ s ∈ L, (Ints wy s.la s.ln s.lc s.ints ∧ T3 wy s.la s.ln) ∧ s.ln = n ∧ s.ints.Perm (upL n))) (fun q _ _ _ => n - (intOf q).toNat)
  case atStart => exact ⟨Below.refl _ _, 0, [], Nat.zero_le _, rfl, World.ownsRow_nil _ _ _ _, fun s hs => (by cases hs)⟩
  case round =>
    rename World => wr
    obtain ⟨hbr, k, L, hk, rfl, hown, hL⟩ := hrel
    by_cases hlt : k < n
    · have hkn : (k : Int) * (n : Int) ≤ 36 := by
        have h1 := Nat.mul_le_mul (show k ≤ 6 by omega) hn
        have h2 : ((k * n : Nat) : Int) = (k : Int) * (n : Int) := by simp
        omega
      have hk0 : 0 ≤ (k : Int) * (n : Int) := by
        have h2 : ((k * n : Nat) : Int) = (k : Int) * (n : Int) := by simp
        omega
      have zm : IntKind.i64.wrap ((k : Int) * (n : Int)) = (k : Int) * (n : Int) := wrap_in _ (by omega) (by omega)
      have CP := hide (perm_any a m c raw ((k : Int) * (n : Int)) n wr ((unhide HI).later hbr) (unhide HR) hk0 (by omega) hm hn)
      have HOWN := hide hown
      have HL := hide hL
      clear hown hL
      go_wp2_with fail
      refine (unhide CP).mono ?_
      rintro e w2 ⟨v2, l2, rfl, ho2, hp2, hb2⟩
      obtain ⟨a2, c2, hv2, hI2, _⟩ := Ints.of_owns ho2 (by omega)
      subst hv2
      have hT2 := T3.of_owns ho2
      have hbw2 := hbr.trans (hb2.mono hbr.size)
      have hbA : Below w2.heap.size w2 (w2.alloc (.cells #[.slice a2 n c2] 23)) := by go_grown
      have hI3 := hI2.later hbA
      have hT3 := hT2.later hbA
      have hO3 := owns_later (unhide HOWN) (hb2.trans (hbA.mono hb2.size))
      have hx : Lsts (w2.alloc (.cells #[.slice a2 n c2] 23)) (some ⟨w2.heap.size, 0, none⟩) 1 1 [⟨a2, n, c2, l2⟩] := lsts_one (s := ⟨a2, n, c2, l2⟩) (by simp) hI3
      have HI3 := hide hI3
      have HT3 := hide hT3
      have HO3 := hide hO3
      have HX := hide hx
      have HP2 := hide hp2
      clear ho2 hp2 hI2 hT2 hI3 hT3 hO3 hx
      go_wp2_with (at_builtin; refine wpList_append_lsts _ rfl _ _ rfl w.heap.size _ k L rfl (unhide HO3) _ 1 1 [⟨a2, n, c2, l2⟩] rfl (unhide HX) (by omega) (by have := hbw2.size; simp; omega) ?_; intro v4 w4 ho4 hg4)
      have hbA2 : Below wr.heap.size wr (w2.alloc (.cells #[.slice a2 n c2] 23)) := hb2.trans (hbA.mono hb2.size)
      have hb4 : Below w.heap.size w w4 := (hbw2.trans (hbA.mono hbw2.size)).trans ((Below.refl w.heap.size _).grown hg4 (hbw2.trans (hbA.mono hbw2.size)).size (fun q hq => ((unhide HO3).lt q hq).1))
      have HALL : Hid (∀ s ∈ L ++ [⟨a2, n, c2, l2⟩], (Ints w4 s.la s.ln s.lc s.ints ∧ T3 w4 s.la s.ln) ∧ s.ln = n ∧ s.ints.Perm (upL n)) := by
        intro s hs
        rcases List.mem_append.1 hs with h | h
        · have h1 := unhide HL s h
          have := (h1.1.2.later hbA2).grown (h1.1.1.later hbA2) (unhide HO3) hg4
          exact ⟨⟨this.2, this.1⟩, h1.2⟩
        · rw [List.mem_singleton] at h
          subst h
          have := (unhide HT3).grown (unhide HI3) (unhide HO3) hg4
          exact ⟨⟨this.2, this.1⟩, rfl, unhide HP2⟩
      have HO4 := hide ho4
      clear ho4 hg4
      go_wp2
      first
        | (go_roundw
           case rel => exact ⟨hb4, k + 1, L ++ [⟨a2, n, c2, l2⟩], by omega, by go_num, unhide HO4, unhide HALL⟩
           case measure => simp [intOf]; omega)
        | exact ⟨⟨hb4, k + 1, L ++ [⟨a2, n, c2, l2⟩], by omega, by go_num, unhide HO4, unhide HALL⟩, by simp [intOf]; omega⟩
    · obtain rfl : k = n := by omega
      go_wp2
      go_ret
      obtain ⟨a, c, hv, hLL⟩ := Lsts.of_owns hown (fun s hs => (hL s hs).1.1)
      subst hv
      exact ⟨a, c, L, rfl, hLL, fun s hs => (hL s hs).2, hbr⟩
set_option maxRecDepth 100000 in
set_option maxHeartbeats 4000000 in
theorem tradeMade_any (a : Option Addr) (m c : Nat) (raw : List Int) (x : Int) (w : World) (h : Ints w a m c raw) (hr : ∀ y ∈ raw, InR y) (hx : InR x) :
    Calls Try.prog 4 #[.slice a m c, .int .i64 x] w fun e w' => e = .returned (.bool true) ∧ Below w.heap.size w w' := by
  have h1 := h.2.1
  have h2 := h.2.2.1
  unfold maxLen at h2
  by_cases h256 : 256 < m
  · have d1 : decide (256 < (m : Int)) = true := decide_eq_true (by omega)
    clear h
    go_enter Try.func4, Try.ntmps4
    go_wp2
    go_ret
    exact ⟨rfl, Below.refl _ _⟩
  have d1 : decide (256 < (m : Int)) = false := decide_eq_false (by omega)
  have HI := hide h
  have HR := hide hr
  have CP := hide (pick_any x 5 hx (by omega) (by omega) w)
  clear h hr
  go_enter Try.func4, Try.ntmps4
  go_wp2_with fail
  refine (unhide CP).mono ?_
  rintro e w1 ⟨k, hk, rfl, hw1⟩
  subst w1
  have z1 : (1 : Int) + (k : Int) = ((1 + k : Nat) : Int) := by simp
  obtain ⟨n, hn⟩ : ∃ n, 1 + k = n := ⟨_, rfl⟩
  rw [hn] at z1
  have hn6 : n ≤ 6 := by omega
  clear hn CP
  go_wp2_with fail
  refine (wishes_any a m c raw n w (unhide HI) (unhide HR) (by omega) hn6).mono ?_
  rintro e w2 ⟨wa, wc, WL, rfl, hW, hWL, hb2⟩
  go_wp2_with fail
  refine (perm_any a m c raw 3 n w2 ((unhide HI).later hb2) (unhide HR) (by omega) (by omega) (by omega) hn6).mono ?_
  rintro e w3 ⟨v3, l3, rfl, ho3, _, hb3⟩
  obtain ⟨a3, c3, hv3, hI3, _⟩ := Ints.of_owns ho3 (by omega)
  subst hv3
  have hbb3 := hb2.trans (hb3.mono hb2.size)
  clear ho3
  go_wp2_with fail
  refine (perm_any a m c raw 7 n w3 ((unhide HI).later hbb3) (unhide HR) (by omega) (by omega) (by omega) hn6).mono ?_
  rintro e w4 ⟨v4, l4, rfl, ho4, _, hb4⟩
  obtain ⟨a4, c4, hv4, hI4, _⟩ := Ints.of_owns ho4 (by omega)
  subst hv4
  have hbb4 := hbb3.trans (hb4.mono hbb3.size)
  clear ho4
  have CT := hide (tradeSays_any n n n wa wc WL a3 c3 l3 a4 c4 l4 w4 (hW.later (hb3.trans (hb4.mono hb3.size))) (hI3.later hb4) hI4 (fun s hs => by have := (hWL s hs).1; omega) (by omega))
  clear hW hI3 hI4 hWL
  go_wp2_with fail
  refine (unhide CT).mono ?_
  rintro e w5 ⟨rfl, hb5⟩
  go_wp2
  go_ret
  exact ⟨rfl, hbb4.trans (hb5.mono hbb4.size)⟩
end Go.Proofs.Ytihmbfapbkddeaa
