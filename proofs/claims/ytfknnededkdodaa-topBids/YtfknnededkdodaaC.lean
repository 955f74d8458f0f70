import Derived.Test.YtfknnededkdodaaB
import Derived.Lib.MinMax
namespace Go.Proofs.Ytfknnededkdodaa
open Go.RowKit
/-- The first one that bids the most. -/
def Win (v : Nat → Int) (n q : Nat) : Prop := q < n ∧ (∀ j, j < n → v j ≤ v q) ∧ ∀ j, j < q → v j < v q
theorem Win.uniq {v : Nat → Int} {n p q : Nat} (h : Win v n p) (g : Win v n q) : p = q := by
  rcases Nat.lt_trichotomy p q with h1 | h1 | h1
  · have := g.2.2 p h1; have := h.2.1 q g.1; omega
  · exact h1
  · have := h.2.2 q h1; have := g.2.1 p h.1; omega
/-- The most that another one bids. -/
def Sec (v : Nat → Int) (n q : Nat) (s : Int) : Prop := 0 ≤ s ∧ (s = 0 ∨ ∃ j, j < n ∧ j ≠ q ∧ v j = s) ∧ ∀ j, j < n → j ≠ q → v j ≤ s
theorem Sec.uniq {v : Nat → Int} {n q : Nat} {s t : Int} (h : Sec v n q s) (g : Sec v n q t) : s = t := by
  obtain ⟨h1, h2, h3⟩ := h
  obtain ⟨g1, g2, g3⟩ := g
  have : s ≤ t := by
    rcases h2 with h2 | ⟨j, a, b, c⟩
    · omega
    · have := g3 j a b; omega
  have : t ≤ s := by
    rcases g2 with h2 | ⟨j, a, b, c⟩
    · omega
    · have := h3 j a b; omega
  omega
def three (a b e : Int) : Value := .tuple #[.int .i64 a, .int .i64 b, .int .i64 e]
def MaxP (v : Nat → Int) (k : Nat) (m : Int) : Prop := (∃ q, q < k ∧ v q = m) ∧ ∀ j, j < k → v j ≤ m
theorem MaxP.step {v : Nat → Int} {k : Nat} {m : Int} (h : MaxP v k m) : MaxP v (k + 1) (max m (v k)) := by
  obtain ⟨⟨q, h1, h2⟩, h3⟩ := h
  refine ⟨?_, fun j hj => ?_⟩
  · by_cases e : m ≤ v k
    · exact ⟨k, by omega, by omega⟩
    · exact ⟨q, by omega, by omega⟩
  · by_cases e : j = k
    · subst e; omega
    · have := h3 j (by omega); omega
set_option maxHeartbeats 1000000 in
theorem max_any (a : Option Addr) (n c : Nat) (l : List Int) (w : World) (h : Ints w a n c l) (hn : 0 < n) :
    Calls Try.prog 19 #[.slice a n c] w fun e w' => ∃ m, MaxP (nth l) n m ∧ e = .returned (.int .i64 m) ∧ w' = w := by
  have h1 := h.2.1
  have h2 := h.2.2.1
  unfold maxLen at h2
  obtain ⟨b, off, rfl, hb, hcell⟩ := h.nth hn
  have hc0 := hcell 0 hn
  rw [Nat.add_zero] at hc0
  clear h
  generalize nth l = v at *
  have HC := hide hcell
  clear hcell
  go_enter Try.func19, Try.ntmps19
  go_wp2
  go_loop [4, 3] (fun i m => ∃ (k : Nat) (x : Int), k ≤ n ∧ i = .int .i64 k ∧ m = .int .i64 x ∧ MaxP v k x) (fun i _ => n - (intOf i).toNat)
  case atStart => exact ⟨1, v 0, hn, rfl, rfl, ⟨0, by omega, rfl⟩, fun j hj => by rw [show j = 0 by omega]; exact Int.le_refl _⟩
  case round =>
    obtain ⟨k, x, hk, rfl, rfl, hB⟩ := hrel
    have HB := hide hB
    clear hB
    by_cases hlt : k < n
    · have hck := unhide HC k hlt
      have HS := hide (unhide HB).step
      generalize v k = y at *
      go_wp2
      exact ⟨⟨k+1, max x y, by omega, by go_num, rfl, unhide HS⟩, by simp [intOf]; omega⟩
    · obtain rfl : n = k := by omega
      go_wp2
      go_ret
      exact ⟨x, unhide HB, rfl, rfl⟩
theorem MaxP.win {l : List Int} {n : Nat} {m : Int} (h : MaxP (nth l) n m) (hl : n = l.length) : ∃ q, Win (nth l) n q ∧ nth l q = m ∧ idxFrom l m 0 = q := by
  obtain ⟨⟨q, h1, h2⟩, h3⟩ := h
  rcases idxFrom_spec l m _ 0 rfl with ⟨_, h5⟩ | ⟨p, h4, h5, h6, h7, h8⟩
  · exact absurd h2 (h5 q (Nat.zero_le _) (by omega))
  · refine ⟨p, ⟨by omega, fun j hj => ?_, fun j hj => ?_⟩, h6, h7⟩
    · rw [show nth l p = m from h6]; exact h3 j hj
    · rw [show nth l p = m from h6]
      have a1 := h3 j (by omega)
      have a2 : nth l j ≠ m := h8 j (Nat.zero_le _) hj
      omega
def FstP (n : Nat) (v : Nat → Int) (w : World) (e : Ending) (w' : World) : Prop := w' = w ∧ ((bE n v ≠ 0 ∧ e = .returned (three 0 0 (bE n v))) ∨ (bE n v = 0 ∧ ∃ q : Nat, Win v n q ∧ e = .returned (three q (v q) 0)))
set_option maxHeartbeats 1000000 in
theorem first_any (a : Option Addr) (n c : Nat) (l : List Int) (w : World) (h : Ints w a n c l) :
    Calls Try.prog 6 #[.slice a n c] w (FstP n (nth l) w) := by
  have CM := hide (mayBid_any a n c l w h)
  by_cases hz : bE n (nth l) = 0
  · have hn := bE_zero hz
    have CX := hide (max_any a n c l w h hn.1)
    have CI := hide (fun x => index_any a n c l x w h)
    have HW := hide (fun (m : Int) (hm : MaxP (nth l) n m) => hm.win h.1)
    have HF : Hid (∀ e, (∃ q : Nat, Win (nth l) n q ∧ e = .returned (three q (nth l q) 0)) → FstP n (nth l) w e w) := fun e he => ⟨rfl, .inr ⟨hz, he⟩⟩
    rw [hz] at CM
    clear hz h
    generalize FstP n (nth l) w = PP at *
    go_enter Try.func6, Try.ntmps6
    go_wp2_with fail
    refine (unhide CM).mono ?_
    rintro e w2 ⟨rfl, hw2⟩
    subst w2
    go_wp2_with fail
    refine (unhide CX).mono ?_
    rintro e w2 ⟨m, hm, rfl, hw2⟩
    subst w2
    obtain ⟨q, hq1, hq2, hq3⟩ := unhide HW m hm
    have C2 := unhide CI m
    rw [hq3] at C2
    go_wp2_with fail
    refine C2.mono ?_
    rintro e w2 ⟨rfl, hw2⟩
    subst w2
    go_wp2
    exact unhide HF _ ⟨q, hq1, by rw [hq2]; rfl⟩
  · have HF : Hid (FstP n (nth l) w (.returned (three 0 0 (bE n (nth l)))) w) := ⟨rfl, .inl ⟨hz, rfl⟩⟩
    have hz2 : (bE n (nth l) == 0) = false := by simpa using hz
    clear h hz
    generalize FstP n (nth l) w = PP at *
    generalize bE n (nth l) = E at *
    go_enter Try.func6, Try.ntmps6
    go_wp2_with fail
    refine (unhide CM).mono ?_
    rintro e w2 ⟨rfl, hw2⟩
    subst w2
    go_wp2
    exact unhide HF
end Go.Proofs.Ytfknnededkdodaa
