import Derived.Test.YtihmbfapbkddeaaB
import Derived.Test.YtihmbfapbkddeaaPU
namespace Go.Proofs.Ytihmbfapbkddeaa
open Go.RowKit
/-- A slice of ints that reads as f. -/
def Cel (W : World) (a : Option Addr) (n c : Nat) (f : Nat → Int) : Prop :=
  n ≤ c ∧ c ≤ maxLen ∧ (n = 0 ∨ ∃ b off, a = some ⟨b, off, none⟩ ∧ b < W.heap.size ∧ ∀ j, j < n → W.cell? ⟨b, off + j, none⟩ = some (.int .i64 (f j)))
/-- A slice of bools that reads as f. -/
def Gon (W : World) (a : Option Addr) (n c : Nat) (f : Nat → Bool) : Prop :=
  n ≤ c ∧ c ≤ maxLen ∧ (n = 0 ∨ ∃ b off, a = some ⟨b, off, none⟩ ∧ b < W.heap.size ∧ ∀ j, j < n → W.cell? ⟨b, off + j, none⟩ = some (.bool (f j)))
theorem Cel.at {W : World} {a : Option Addr} {n c : Nat} {f : Nat → Int} (h : Cel W a n c f) (hn : 0 < n) : ∃ b off, a = some ⟨b, off, none⟩ ∧ b < W.heap.size ∧ ∀ j, j < n → W.cell? ⟨b, off + j, none⟩ = some (.int .i64 (f j)) := by
  rcases h.2.2 with h | h
  · omega
  · exact h
theorem Gon.at {W : World} {a : Option Addr} {n c : Nat} {f : Nat → Bool} (h : Gon W a n c f) (hn : 0 < n) : ∃ b off, a = some ⟨b, off, none⟩ ∧ b < W.heap.size ∧ ∀ j, j < n → W.cell? ⟨b, off + j, none⟩ = some (.bool (f j)) := by
  rcases h.2.2 with h | h
  · omega
  · exact h
theorem Row.cel {base : Nat} {W : World} {va : Option Addr} {n cap : Nat} {f : Nat → Int} (h : Row base W va n f) (h1 : n ≤ cap) (h2 : cap ≤ maxLen) : Cel W va n cap f := by
  refine ⟨h1, h2, ?_⟩
  rcases h with h | ⟨g, h1, h2, h3, h4, h5⟩
  · exact .inl h
  · exact .inr ⟨g, 0, h1, h3, fun j hj => by rw [Nat.zero_add, h4 j hj]⟩
theorem fst_yes {p : Nat → Prop} [DecidablePred p] {l : List Int} {k : Nat} (h : k < l.length) (hp : p (l[k]?.getD 0).toNat) : fst p (l.drop k) = l[k]?.getD 0 := by
  rw [List.drop_eq_getElem_cons h, fst]
  rw [List.getElem?_eq_getElem h] at hp ⊢
  exact if_pos hp
theorem fst_no {p : Nat → Prop} [DecidablePred p] {l : List Int} {k : Nat} (h : k < l.length) (hp : ¬ p (l[k]?.getD 0).toNat) : fst p (l.drop k) = fst p (l.drop (k + 1)) := by
  rw [List.drop_eq_getElem_cons h, fst]
  rw [List.getElem?_eq_getElem h] at hp
  exact if_neg hp
theorem fst_end {p : Nat → Prop} [DecidablePred p] {l : List Int} {k : Nat} (h : ¬ k < l.length) : fst p (l.drop k) = -1 := by
  rw [List.drop_eq_nil_of_le (by omega), fst]
theorem getD_mem {l : List Int} {k : Nat} (h : k < l.length) : l[k]?.getD 0 ∈ l := by
  rw [List.getElem?_eq_getElem h]
  exact List.getElem_mem h
set_option maxHeartbeats 1000000 in
theorem best_any (wa : Option Addr) (wn wc : Nat) (wl : List Int) (la : Option Addr) (ln lc : Nat) (f : Nat → Int) (w : World) (h : Ints w wa wn wc wl) (hl : Cel w la ln lc f) (hr : ∀ x ∈ wl, 0 ≤ x ∧ x < ln) :
    Calls Try.prog 29 #[.slice wa wn wc, .slice la ln lc] w fun e w' => e = .returned (.int .i64 (fst (fun s => 0 < f s) wl)) ∧ w' = w := by
  have HN := hide h.1
  have hc := h.2.1
  have hm := h.2.2.1
  unfold maxLen at hm
  have hc2 := hl.1
  have hm2 := hl.2.1
  unfold maxLen at hm2
  have HR := hide hr
  clear hr
  go_enter Try.func29, Try.ntmps29
  go_wp2
  go_loop [9, 6] (fun i _ => ∃ k : Nat, k ≤ wn ∧ i = .int .i64 k ∧ fst (fun s => 0 < f s) wl = fst (fun s => 0 < f s) (wl.drop k)) (fun i _ => wn - (intOf i).toNat)
  case atStart => exact ⟨0, Nat.zero_le _, rfl, rfl⟩
  case round =>
    obtain ⟨k, hk, rfl, hi⟩ := hrel
    have HI := hide hi
    clear hi
    by_cases hlt : k < wn
    · have hkl : k < wl.length := by have := unhide HN; omega
      obtain ⟨b, off, rfl, hb, hcell⟩ := h.cellAt (by omega)
      have hx := hcell k hlt
      have hx2 := unhide HR _ (getD_mem hkl)
      have HY := hide (fst_yes (p := fun s => 0 < f s) hkl)
      have HO := hide (fst_no (p := fun s => 0 < f s) hkl)
      clear hcell hkl
      obtain ⟨t, ht⟩ : ∃ t : Nat, wl[k]?.getD 0 = t := ⟨(wl[k]?.getD 0).toNat, by omega⟩
      rw [ht] at hx hx2 HY HO
      simp only [Int.toNat_natCast] at HY HO
      clear ht
      have htl : t < ln := by omega
      obtain ⟨b2, off2, rfl, hb2, hcell2⟩ := hl.at (by omega)
      have hy := hcell2 t htl
      clear hcell2
      by_cases hf : 0 < f t
      · have HY2 := hide (unhide HY hf)
        have d1 : decide (0 < f t) = true := decide_eq_true hf
        go_wp2
        go_ret
        exact ⟨ret_int (by rw [unhide HI, unhide HY2]), rfl⟩
      · have HO2 := hide (unhide HO hf)
        have d1 : decide (0 < f t) = false := decide_eq_false hf
        go_wp2
        refine ⟨⟨k+1, by omega, by go_num, by rw [unhide HI, unhide HO2]⟩, by simp [intOf]; omega⟩
    · go_wp2
      go_ret
      exact ⟨ret_int (by rw [unhide HI, fst_end (by have := unhide HN; omega)]), rfl⟩
set_option maxHeartbeats 1000000 in
theorem school_any (wa : Option Addr) (wn wc : Nat) (wl : List Int) (la : Option Addr) (ln lc : Nat) (f : Nat → Int) (w : World) (h : Ints w wa wn wc wl) (hl : Cel w la ln lc f) (hr : ∀ x ∈ wl, 0 ≤ x ∧ x < ln) :
    Calls Try.prog 39 #[.slice wa wn wc, .slice la ln lc] w fun e w' => e = .returned (.int .i64 (fst (fun s => 0 < f s) wl)) ∧ w' = w := by
  have HN := hide h.1
  have hc := h.2.1
  have hm := h.2.2.1
  unfold maxLen at hm
  have hc2 := hl.1
  have hm2 := hl.2.1
  unfold maxLen at hm2
  have HR := hide hr
  clear hr
  go_enter Try.func39, Try.ntmps39
  go_wp2
  go_loop [5] (fun i => ∃ k : Nat, k ≤ wn ∧ i = .int .i64 k ∧ fst (fun s => 0 < f s) wl = fst (fun s => 0 < f s) (wl.drop k)) (fun i => wn - (intOf i).toNat)
  case atStart => exact ⟨0, Nat.zero_le _, rfl, rfl⟩
  case round =>
    obtain ⟨k, hk, rfl, hi⟩ := hrel
    have HI := hide hi
    clear hi
    by_cases hlt : k < wn
    · have hkl : k < wl.length := by have := unhide HN; omega
      obtain ⟨b, off, rfl, hb, hcell⟩ := h.cellAt (by omega)
      have hx := hcell k hlt
      have hx2 := unhide HR _ (getD_mem hkl)
      have HY := hide (fst_yes (p := fun s => 0 < f s) hkl)
      have HO := hide (fst_no (p := fun s => 0 < f s) hkl)
      clear hcell hkl
      obtain ⟨t, ht⟩ : ∃ t : Nat, wl[k]?.getD 0 = t := ⟨(wl[k]?.getD 0).toNat, by omega⟩
      rw [ht] at hx hx2 HY HO
      simp only [Int.toNat_natCast] at HY HO
      clear ht
      have htl : t < ln := by omega
      obtain ⟨b2, off2, rfl, hb2, hcell2⟩ := hl.at (by omega)
      have hy := hcell2 t htl
      clear hcell2
      by_cases hf : 0 < f t
      · have HY2 := hide (unhide HY hf)
        have d1 : decide (0 < f t) = true := decide_eq_true hf
        go_wp2
        go_ret
        exact ⟨ret_int (by rw [unhide HI, unhide HY2]), rfl⟩
      · have HO2 := hide (unhide HO hf)
        have d1 : decide (0 < f t) = false := decide_eq_false hf
        go_wp2
        refine ⟨⟨k+1, by omega, by go_num, by rw [unhide HI, unhide HO2]⟩, by simp [intOf]; omega⟩
    · go_wp2
      go_ret
      exact ⟨ret_int (by rw [unhide HI, fst_end (by have := unhide HN; omega)]), rfl⟩
set_option maxHeartbeats 1000000 in
theorem bestLeft_any (wa : Option Addr) (wn wc : Nat) (wl : List Int) (la : Option Addr) (ln lc : Nat) (f : Nat → Bool) (w : World) (h : Ints w wa wn wc wl) (hl : Gon w la ln lc f) (hr : ∀ x ∈ wl, 0 ≤ x ∧ x < ln) :
    Calls Try.prog 26 #[.slice wa wn wc, .slice la ln lc] w fun e w' => e = .returned (.int .i64 (fst (fun s => f s = false) wl)) ∧ w' = w := by
  have HN := hide h.1
  have hc := h.2.1
  have hm := h.2.2.1
  unfold maxLen at hm
  have hc2 := hl.1
  have hm2 := hl.2.1
  unfold maxLen at hm2
  have HR := hide hr
  clear hr
  go_enter Try.func26, Try.ntmps26
  go_wp2
  go_loop [5] (fun i => ∃ k : Nat, k ≤ wn ∧ i = .int .i64 k ∧ fst (fun s => f s = false) wl = fst (fun s => f s = false) (wl.drop k)) (fun i => wn - (intOf i).toNat)
  case atStart => exact ⟨0, Nat.zero_le _, rfl, rfl⟩
  case round =>
    obtain ⟨k, hk, rfl, hi⟩ := hrel
    have HI := hide hi
    clear hi
    by_cases hlt : k < wn
    · have hkl : k < wl.length := by have := unhide HN; omega
      obtain ⟨b, off, rfl, hb, hcell⟩ := h.cellAt (by omega)
      have hx := hcell k hlt
      have hx2 := unhide HR _ (getD_mem hkl)
      have HY := hide (fst_yes (p := fun s => f s = false) hkl)
      have HO := hide (fst_no (p := fun s => f s = false) hkl)
      clear hcell hkl
      obtain ⟨t, ht⟩ : ∃ t : Nat, wl[k]?.getD 0 = t := ⟨(wl[k]?.getD 0).toNat, by omega⟩
      rw [ht] at hx hx2 HY HO
      simp only [Int.toNat_natCast] at HY HO
      clear ht
      have htl : t < ln := by omega
      obtain ⟨b2, off2, rfl, hb2, hcell2⟩ := hl.at (by omega)
      have hy := hcell2 t htl
      clear hcell2
      cases hf : f t with
      | false =>
        rw [hf] at hy
        have HY2 := hide (unhide HY hf)
        go_wp2
        go_ret
        exact ⟨ret_int (by rw [unhide HI, unhide HY2]), rfl⟩
      | true =>
        rw [hf] at hy
        have HO2 := hide (unhide HO (by rw [hf]; simp))
        go_wp2
        refine ⟨⟨k+1, by omega, by go_num, by rw [unhide HI, unhide HO2]⟩, by simp [intOf]; omega⟩
    · go_wp2
      go_ret
      exact ⟨ret_int (by rw [unhide HI, fst_end (by have := unhide HN; omega)]), rfl⟩
end Go.Proofs.Ytihmbfapbkddeaa
