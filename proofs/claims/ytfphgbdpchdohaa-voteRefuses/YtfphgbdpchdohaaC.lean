import Derived.Test.YtfphgbdpchdohaaB
namespace Go.Proofs.Ytfphgbdpchdohaa
open Go.RowKit
/-- A ballot, as it lies: how many, the slice of its order, and what that slice holds. -/
structure Bal where
  count : Int
  oa : Option Addr
  on : Nat
  oc : Nat
  order : List Int
def balNone : Bal := ⟨0, none, 0, 0, []⟩
def balAt (l : List Bal) (j : Nat) : Bal := l[j]?.getD balNone
/-- A slice of ballots as it lies. -/
def Bals (w : World) (a : Option Addr) (n c : Nat) (l : List Bal) : Prop :=
  n = l.length ∧ n ≤ c ∧ c ≤ maxLen ∧ (∀ g ∈ l, Ints w g.oa g.on g.oc g.order) ∧
  (n = 0 ∨ ∃ b off, a = some ⟨b, off, none⟩ ∧ b < w.heap.size ∧ ∀ j, j < n →
    w.cell? ⟨b, off + j * 2, none⟩ = some (.int .i64 (balAt l j).count) ∧
    w.cell? ⟨b, off + j * 2 + 1, none⟩ = some (.slice (balAt l j).oa (balAt l j).on (balAt l j).oc))
theorem Bals.later {w w' : World} {a : Option Addr} {n c : Nat} {l : List Bal} (h : Bals w a n c l) (hb : Below w.heap.size w w') : Bals w' a n c l := by
  obtain ⟨hn, hc, hm, hg, h⟩ := h
  refine ⟨hn, hc, hm, fun g m => (hg g m).later hb, ?_⟩
  rcases h with h0 | ⟨b, off, rfl, hlt, hcell⟩
  · exact Or.inl h0
  · refine Or.inr ⟨b, off, rfl, Nat.lt_of_lt_of_le hlt hb.size, fun j hj => ?_⟩
    obtain ⟨h1, h2⟩ := hcell j hj
    exact ⟨(hb.cell (p := ⟨b, off + j * 2, none⟩) hlt).trans h1, (hb.cell (p := ⟨b, off + j * 2 + 1, none⟩) hlt).trans h2⟩
theorem Bals.at {w : World} {a : Option Addr} {n c : Nat} {l : List Bal} (h : Bals w a n c l) {k : Nat} (hk : k < l.length) : Ints w (balAt l k).oa (balAt l k).on (balAt l k).oc (balAt l k).order := by
  refine h.2.2.2.1 _ ?_
  unfold balAt
  rw [List.getElem?_eq_getElem hk]
  simp
def balE (g : Bal) (n : Int) : Int := if ordE g.order n ≠ 0 then ordE g.order n else if g.count < 0 ∨ 1000 < g.count then 9 else 0
def balsFuel (l : List Bal) (n : Int) : Nat → Nat → Int
  | 0, _ => 0
  | f + 1, k => if balE (balAt l k) n ≠ 0 then balE (balAt l k) n else balsFuel l n f (k + 1)
def balsFrom (l : List Bal) (n : Int) (k : Nat) : Int := balsFuel l n (l.length - k) k
theorem balsFrom_step {l : List Bal} {n : Int} {k : Nat} (h : k < l.length) : balsFrom l n k = if balE (balAt l k) n ≠ 0 then balE (balAt l k) n else balsFrom l n (k+1) := by
  unfold balsFrom
  rw [show l.length - k = (l.length - (k + 1)) + 1 by omega, balsFuel]
theorem balsFrom_end {l : List Bal} {n : Int} {k : Nat} (h : ¬ k < l.length) : balsFrom l n k = 0 := by
  unfold balsFrom
  rw [show l.length - k = 0 by omega, balsFuel]
theorem balsFrom_ord {l : List Bal} {n : Int} {k : Nat} (h : k < l.length) (e : ordE (balAt l k).order n ≠ 0) : balsFrom l n k = ordE (balAt l k).order n := by
  have : balE (balAt l k) n = ordE (balAt l k).order n := by unfold balE; rw [if_pos e]
  rw [balsFrom_step h, this, if_pos e]
theorem balsFrom_cnt {l : List Bal} {n : Int} {k : Nat} (h : k < l.length) (e : ordE (balAt l k).order n = 0) (c : (balAt l k).count < 0 ∨ 1000 < (balAt l k).count) : balsFrom l n k = 9 := by
  have : balE (balAt l k) n = 9 := by unfold balE; rw [if_neg (by simpa using e), if_pos c]
  rw [balsFrom_step h, this, if_pos (by omega)]
theorem balsFrom_on {l : List Bal} {n : Int} {k : Nat} (h : k < l.length) (e : ordE (balAt l k).order n = 0) (c : ¬ ((balAt l k).count < 0 ∨ 1000 < (balAt l k).count)) : balsFrom l n k = balsFrom l n (k+1) := by
  have : balE (balAt l k) n = 0 := by unfold balE; rw [if_neg (by simpa using e), if_neg c]
  rw [balsFrom_step h, this, if_neg (by omega)]
/-- V1: what may be. -/
def voteE (n : Int) (l : List Bal) : Int := if n < 1 ∨ 6 < n then 7 else if 30 < l.length then 2 else balsFrom l n 0
set_option maxHeartbeats 2000000 in
theorem voteMay_any (x : Int) (a : Option Addr) (n c : Nat) (l : List Bal) (w : World) (h : Bals w a n c l) :
    Calls Try.prog 6 #[.int .i64 x, .slice a n c] w fun e w' => e = .returned (.int .i64 (voteE x l)) ∧ w' = w := by
  have h0 := h
  obtain ⟨hn, hc, hm, hg, hrow⟩ := h
  unfold maxLen at hm
  by_cases hx : x < 1 ∨ 6 < x
  · have HF := hide (show voteE x l = 7 by unfold voteE; rw [if_pos hx])
    clear hn hg hrow
    rcases hx with hx | hx
    · go_enter Try.func6, Try.ntmps6
      go_wp2
      go_ret
      exact ⟨ret_int (unhide HF).symm, rfl⟩
    · have hx2 : ¬ x < 1 := by omega
      go_enter Try.func6, Try.ntmps6
      go_wp2
      go_ret
      exact ⟨ret_int (unhide HF).symm, rfl⟩
  have hx1 : ¬ x < 1 := by omega
  have hx2 : ¬ 6 < x := by omega
  by_cases h30 : 30 < n
  · have HF := hide (show voteE x l = 2 by unfold voteE; rw [if_neg hx, if_pos (by omega)])
    clear hn hg hrow
    go_enter Try.func6, Try.ntmps6
    go_wp2
    go_ret
    exact ⟨ret_int (unhide HF).symm, rfl⟩
  have HF := hide (show voteE x l = balsFrom l x 0 by unfold voteE; rw [if_neg hx, if_neg (by omega)])
  have HN := hide hn
  clear hn hx hg
  go_enter Try.func6, Try.ntmps6
  go_wp2
  go_loop [5, 6] (fun i _ => ∃ k : Nat, k ≤ n ∧ i = .int .i64 k ∧ balsFrom l x 0 = balsFrom l x k) (fun i _ => n - (intOf i).toNat)
  case atStart => exact ⟨0, Nat.zero_le _, rfl, rfl⟩
  case round =>
    obtain ⟨k, hk, rfl, hn⟩ := hrel
    have HI := hide hn
    clear hn
    by_cases hlt : k < n
    · obtain ⟨b, off, rfl, hb, hcell⟩ : ∃ b off, a = some ⟨b, off, none⟩ ∧ b < w.heap.size ∧ ∀ j, j < n →
          w.cell? ⟨b, off + j * 2, none⟩ = some (.int .i64 (balAt l j).count) ∧
          w.cell? ⟨b, off + j * 2 + 1, none⟩ = some (.slice (balAt l j).oa (balAt l j).on (balAt l j).oc) := by
        rcases hrow with hz | hrow
        · omega
        · exact hrow
      obtain ⟨h1, h2⟩ := hcell k hlt
      have hlen : k < l.length := by have := unhide HN; omega
      have hIn := h0.at hlen
      have HL := hide hlen
      clear hlen hcell hrow
      by_cases ho : ordE (balAt l k).order x = 0
      · by_cases hcnt : (balAt l k).count < 0 ∨ 1000 < (balAt l k).count
        · have HE := hide (balsFrom_cnt (unhide HL) ho hcnt)
          rcases hcnt with hcnt | hcnt
          · go_wp2_with (go_at_call 21; refine (orderOf_any _ _ _ _ _ _ hIn).mono ?_; rintro e w' ⟨rfl, rfl⟩)
            go_ret
            exact ⟨ret_int (by rw [unhide HF, unhide HI, unhide HE]), rfl⟩
          · have hc2 : ¬ (balAt l k).count < 0 := by omega
            go_wp2_with (go_at_call 21; refine (orderOf_any _ _ _ _ _ _ hIn).mono ?_; rintro e w' ⟨rfl, rfl⟩)
            go_ret
            exact ⟨ret_int (by rw [unhide HF, unhide HI, unhide HE]), rfl⟩
        · have HE := hide (balsFrom_on (unhide HL) ho hcnt)
          have hc1 : ¬ (balAt l k).count < 0 := by omega
          have hc2 : ¬ 1000 < (balAt l k).count := by omega
          clear hcnt
          go_wp2_with (go_at_call 21; refine (orderOf_any _ _ _ _ _ _ hIn).mono ?_; rintro e w' ⟨rfl, rfl⟩)
          refine ⟨⟨k+1, by omega, by go_num, by rw [unhide HI, unhide HE]⟩, by simp [intOf]; omega⟩
      · have HE := hide (balsFrom_ord (unhide HL) ho)
        go_wp2_with (go_at_call 21; refine (orderOf_any _ _ _ _ _ _ hIn).mono ?_; rintro e w' ⟨rfl, rfl⟩)
        go_ret
        exact ⟨ret_int (by rw [unhide HF, unhide HI, unhide HE]), rfl⟩
    · go_wp2
      go_ret
      exact ⟨ret_int (by rw [unhide HF, unhide HI, balsFrom_end (by have := unhide HN; omega)]), rfl⟩
set_option maxHeartbeats 2000000 in
theorem may_any (x : Int) (a : Option Addr) (n c : Nat) (l : List Bal) (w : World) (h : Bals w a n c l) :
    Calls Try.prog 7 #[.int .i64 x, .slice a n c] w fun e w' => e = .returned (.int .i64 (voteE x l)) ∧ Below w.heap.size w w' := by
  have h0 := h
  obtain ⟨hn, hc, hm, hg, hrow⟩ := h
  unfold maxLen at hm
  by_cases hx : x < 1 ∨ 6 < x
  · have HF := hide (show voteE x l = 7 by unfold voteE; rw [if_pos hx])
    clear hn hg hrow
    rcases hx with hx | hx
    · go_enter Try.func7, Try.ntmps7
      go_wp2
      go_ret
      exact ⟨ret_int (unhide HF).symm, Below.refl _ _⟩
    · have hx2 : ¬ x < 1 := by omega
      go_enter Try.func7, Try.ntmps7
      go_wp2
      go_ret
      exact ⟨ret_int (unhide HF).symm, Below.refl _ _⟩
  have hx1 : ¬ x < 1 := by omega
  have hx2 : ¬ 6 < x := by omega
  by_cases h30 : 30 < n
  · have HF := hide (show voteE x l = 2 by unfold voteE; rw [if_neg hx, if_pos (by omega)])
    clear hn hg hrow
    go_enter Try.func7, Try.ntmps7
    go_wp2
    go_ret
    exact ⟨ret_int (unhide HF).symm, Below.refl _ _⟩
  have HF := hide (show voteE x l = balsFrom l x 0 by unfold voteE; rw [if_neg hx, if_neg (by omega)])
  have HN := hide hn
  clear hn hx hg
  go_enter Try.func7, Try.ntmps7
  go_wp2
  go_loopw [19, 6, 7] (fun i _ _ wr => Below w.heap.size w wr ∧ ∃ k : Nat, k ≤ n ∧ i = .int .i64 k ∧ balsFrom l x 0 = balsFrom l x k) (fun i _ _ _ => n - (intOf i).toNat)
  case atStart => exact ⟨Below.refl _ _, 0, Nat.zero_le _, rfl, rfl⟩
  case round =>
    obtain ⟨hbw, k, hk, rfl, hn⟩ := hrel
    have HI := hide hn
    clear hn
    by_cases hlt : k < n
    · have hr := h0.later hbw
      obtain ⟨b, off, rfl, hb, hcell⟩ : ∃ b off, a = some ⟨b, off, none⟩ ∧ b < wr.heap.size ∧ ∀ j, j < n →
          wr.cell? ⟨b, off + j * 2, none⟩ = some (.int .i64 (balAt l j).count) ∧
          wr.cell? ⟨b, off + j * 2 + 1, none⟩ = some (.slice (balAt l j).oa (balAt l j).on (balAt l j).oc) := by
        rcases hr.2.2.2.2 with hz | hrow
        · omega
        · exact hrow
      obtain ⟨h1, h2⟩ := hcell k hlt
      have hlen : k < l.length := by have := unhide HN; omega
      have hIn := hr.at hlen
      have HL := hide hlen
      clear hlen hcell hrow hr
      have hba : Below wr.heap.size wr (wr.alloc (.cells #[.int .i64 (balAt l k).count, .slice (balAt l k).oa (balAt l k).on (balAt l k).oc] 38)) := by go_grown
      have hI2 := hIn.later hba
      have hbb := hbw.trans (hba.mono hbw.size)
      by_cases ho : ordE (balAt l k).order x = 0
      · by_cases hcnt : (balAt l k).count < 0 ∨ 1000 < (balAt l k).count
        · have HE := hide (balsFrom_cnt (unhide HL) ho hcnt)
          rcases hcnt with hcnt | hcnt
          · go_wp2_with (go_at_call 22; refine (ordersMay_any _ _ _ _ _ _ hI2).mono ?_; rintro e w' ⟨rfl, rfl⟩)
            go_ret
            exact ⟨ret_int (by rw [unhide HF, unhide HI, unhide HE]), hbb⟩
          · have hc2 : ¬ (balAt l k).count < 0 := by omega
            go_wp2_with (go_at_call 22; refine (ordersMay_any _ _ _ _ _ _ hI2).mono ?_; rintro e w' ⟨rfl, rfl⟩)
            go_ret
            exact ⟨ret_int (by rw [unhide HF, unhide HI, unhide HE]), hbb⟩
        · have HE := hide (balsFrom_on (unhide HL) ho hcnt)
          have hc1 : ¬ (balAt l k).count < 0 := by omega
          have hc2 : ¬ 1000 < (balAt l k).count := by omega
          clear hcnt
          go_wp2_with (go_at_call 22; refine (ordersMay_any _ _ _ _ _ _ hI2).mono ?_; rintro e w' ⟨rfl, rfl⟩)
          go_roundw
          case rel => exact ⟨hbb, k+1, by omega, by go_num, by rw [unhide HI, unhide HE]⟩
          case measure => simp [intOf]; omega
      · have HE := hide (balsFrom_ord (unhide HL) ho)
        go_wp2_with (go_at_call 22; refine (ordersMay_any _ _ _ _ _ _ hI2).mono ?_; rintro e w' ⟨rfl, rfl⟩)
        go_ret
        exact ⟨ret_int (by rw [unhide HF, unhide HI, unhide HE]), hbb⟩
    · go_wp2
      go_ret
      exact ⟨ret_int (by rw [unhide HF, unhide HI, balsFrom_end (by have := unhide HN; omega)]), hbw⟩
end Go.Proofs.Ytfphgbdpchdohaa
