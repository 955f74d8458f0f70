import Derived.Test.YtodbnjainpjkcaaHH
namespace Go.Proofs.Ytodbnjainpjkcaa
open Go.RowKit
/-- A slice of ints, as a cell holds it, and what it holds. -/
structure Sl where
  la : Option Addr
  ln : Nat
  lc : Nat
  ints : List Int
def slNone : Sl := ⟨none, 0, 0, []⟩
def Sl.val (s : Sl) : Value := .slice s.la s.ln s.lc
def slVals (l : List Sl) : List Value := l.map Sl.val
def slAt (l : List Sl) (j : Nat) : Sl := l[j]?.getD slNone
def lists (l : List Sl) : List (List Int) := l.map (·.ints)
/-- A slice of slices of ints as it lies. -/
def Lsts (w : World) (a : Option Addr) (n c : Nat) (l : List Sl) : Prop :=
  n = l.length ∧ n ≤ c ∧ c ≤ maxLen ∧ (∀ s ∈ l, Ints w s.la s.ln s.lc s.ints) ∧
  (n = 0 ∨ ∃ b off, a = some ⟨b, off, none⟩ ∧ b < w.heap.size ∧ ∀ j, j < n → w.cell? ⟨b, off + j, none⟩ = some (.slice (slAt l j).la (slAt l j).ln (slAt l j).lc))
theorem Lsts.later {w w' : World} {a : Option Addr} {n c : Nat} {l : List Sl} (h : Lsts w a n c l) (hb : Below w.heap.size w w') : Lsts w' a n c l := by
  obtain ⟨hn, hc, hm, hg, h⟩ := h
  refine ⟨hn, hc, hm, fun s m => (hg s m).later hb, ?_⟩
  rcases h with h0 | ⟨b, off, rfl, hlt, hcell⟩
  · exact Or.inl h0
  · exact Or.inr ⟨b, off, rfl, Nat.lt_of_lt_of_le hlt hb.size, fun j hj => (hb.cell (p := ⟨b, off + j, none⟩) hlt).trans (hcell j hj)⟩
theorem Lsts.cellAt {w : World} {a : Option Addr} {n c : Nat} {l : List Sl} (h : Lsts w a n c l) (hn : 0 < n) : ∃ b off, a = some ⟨b, off, none⟩ ∧ b < w.heap.size ∧ ∀ j, j < n → w.cell? ⟨b, off + j, none⟩ = some (.slice (slAt l j).la (slAt l j).ln (slAt l j).lc) := by
  obtain ⟨_, _, _, _, h0 | ⟨b, off, rfl, hb, hcell⟩⟩ := h
  · omega
  · exact ⟨b, off, rfl, hb, hcell⟩
theorem Lsts.mem {w : World} {a : Option Addr} {n c : Nat} {l : List Sl} (h : Lsts w a n c l) {k : Nat} (hk : k < n) : Ints w (slAt l k).la (slAt l k).ln (slAt l k).lc (slAt l k).ints := by
  refine h.2.2.2.1 _ ?_
  unfold slAt
  rw [List.getElem?_eq_getElem (show k < l.length by have := h.1; omega)]
  simp
theorem slVals_len (l : List Sl) : (slVals l).length = l.length := by simp [slVals]
theorem slVals_at (l : List Sl) (j : Nat) (h : j < l.length) : (slVals l)[j]? = some (.slice (slAt l j).la (slAt l j).ln (slAt l j).lc) := by
  unfold slVals slAt
  rw [List.getElem?_map, List.getElem?_eq_getElem h]
  rfl
theorem lists_at (l : List Sl) (j : Nat) (h : j < l.length) : (lists l)[j]? = some (slAt l j).ints := by
  unfold lists slAt
  rw [List.getElem?_map, List.getElem?_eq_getElem h]
  rfl
theorem Lsts.of_owns {w : World} {B : Nat} {v : Value} {n : Nat} {l : List Sl} (h : w.ownsRow B 22 1 v n (slVals l)) (hg : ∀ s ∈ l, Ints w s.la s.ln s.lc s.ints) : ∃ a c, v = .slice a n c ∧ Lsts w a n c l := by
  have hl : l.length = n := by have := h.1; rw [slVals_len] at this; omega
  have h0 := h
  rcases h.2 with ⟨rfl, rfl⟩ | ⟨g, cap, cur, rfl, hbg, hgg, hnc, hcm, hcs, htake⟩
  · exact ⟨none, 0, rfl, hl.symm, Nat.le_refl _, by unfold maxLen; omega, hg, .inl rfl⟩
  · refine ⟨_, cap, rfl, hl.symm, hnc, hcm, hg, .inr ⟨g, 0, rfl, ?_, fun j hj => ?_⟩⟩
    · rcases Nat.lt_or_ge g w.heap.size with h' | h'
      · exact h'
      · rw [Array.getElem?_eq_none h'] at hgg; cases hgg
    · rw [Nat.zero_add, h0.cellAt j (by omega), slVals_at l j (by omega)]
/-- The same lists on both sides: sameLists says so. -/
theorem sameLists_any (a a' : Option Addr) (n c n' c' : Nat) (l m : List Sl) (w : World) (h : Lsts w a n c l) (h' : Lsts w a' n' c' m) (he : lists l = lists m) :
    Calls Try.prog 26 #[.slice a n c, .slice a' n' c'] w fun e w' => e = .returned (.bool true) ∧ Below w.heap.size w w' := by
  have hlen : l.length = m.length := by have := congrArg List.length he; simpa [lists] using this
  have hnn : n' = n := by have := h.1; have := h'.1; omega
  subst hnn
  have HN := hide h.1
  have hc := h.2.1
  have hm := h.2.2.1
  have hc' := h'.2.1
  have hm' := h'.2.2.1
  unfold maxLen at hm hm'
  have HE := hide he
  clear he hlen
  go_enter Try.func26, Try.ntmps26
  go_wp2_with fail
  go_loopw [5] (fun i wr => Below w.heap.size w wr ∧ ∃ k : Nat, k ≤ n' ∧ i = .int .i64 k) (fun i _ => n' - (intOf i).toNat)
  case atStart => exact ⟨Below.refl _ _, 0, Nat.zero_le _, rfl⟩
  case round =>
    obtain ⟨hbr, k, hk, rfl⟩ := hrel
    by_cases hlt : k < n'
    · obtain ⟨b, off, rfl, hb, hcell⟩ := (h.later hbr).cellAt (by omega)
      obtain ⟨b', off', rfl, hb', hcell'⟩ := (h'.later hbr).cellAt (by omega)
      have c1 := hcell k hlt
      have c2 := hcell' k hlt
      have hI := (h.later hbr).mem hlt
      have hI' := (h'.later hbr).mem hlt
      have hints : (slAt l k).ints = (slAt m k).ints := by
        have h1 := lists_at l k (by have := unhide HN; omega)
        have h2 := lists_at m k (by have := h'.1; omega)
        rw [unhide HE, h2] at h1
        exact (Option.some.inj h1).symm
      clear hcell hcell'
      generalize slAt l k = S at *
      obtain ⟨la, ln, lc, ints⟩ := S
      generalize slAt m k = S at *
      obtain ⟨la', ln', lc', ints'⟩ := S
      simp only at c1 c2 hI hI' hints
      subst hints
      have c1g := cell_regrown c1
      have c2g := cell_regrown c2
      have C1 : Hid (∀ d os, Calls Try.prog 28 #[.slice la ln lc, .slice la' ln' lc'] (Sort.grow (redrawn wr d) os) fun e w'' => e = .returned (.bool true) ∧ ∃ p : Regrown, w'' = Sort.grow (redrawn wr p.d) p.os) := fun d os => by
        have := Calls.regrown_of (sameInts_any la la' ln lc ln' lc' ints ints _ (hI.later (below_regrown wr d os)) (hI'.later (below_regrown wr d os)))
        rw [decide_eq_true rfl] at this
        exact this
      clear c1 c2 hI hI'
      go_wp2_with fail
      refine wp_region_quiet_below (by kernel_rfl) (by kernel_rfl) ?_
      repeat (quiet_step (first | exact unhide C1 _ _))
      refine wpQuiet_nil ?_
      intro _ hw'
      obtain ⟨⟨dq, osq⟩, hw''⟩ := hw'
      subst hw''
      have hbd := below_regrown wr dq osq
      go_wp2
      go_roundw
      case rel => exact ⟨hbr.trans (hbd.mono hbr.size), k+1, by omega, by go_num⟩
      case measure => simp [intOf]; omega
    · go_wp2
      go_ret
      exact ⟨rfl, hbr⟩
end Go.Proofs.Ytodbnjainpjkcaa
