import Derived.Test.YtffnhflbhckhbaaDoorMA
import Derived.Test.YtffnhflbhckhbaaDoorL
namespace Go.Proofs.YtffnhflbhckhbaaDoor
open Go.RowKit Go.Shelf
theorem slAt_out {F : List Sl} {i : Nat} (h : F.length ≤ i) : (slAt F i).ints = [] := by
  unfold slAt
  rw [List.getElem?_eq_none h]
  rfl
/-- Swaps of which nothing bad is said may be. -/
theorem ok_of_may {gv rd rw : Int} {F : List Sl} (h : maySw gv rd rw F = 0) : (sOf gv rd rw F).Ok ∧ F.length ≤ 8 ∧ gv ≤ F.length := by
  unfold maySw at h
  split at h
  · cases h
  · split at h
    · cases h
    · split at h
      · cases h
      · rename_i h1 h2 h3
        have hok : okAll gv F.length F F.length = true := by
          cases e : okAll gv F.length F F.length with
          | true => rfl
          | false => rw [e] at h; cases h
        refine ⟨⟨fun i x hx => ?_, by show 0 ≤ gv; omega⟩, by omega, by omega⟩
        replace hx : x ∈ (slAt F i.toNat).ints := hx
        show gv ≤ x ∧ x < (F.length : Int) ∧ x ≠ i
        by_cases hi : i.toNat < F.length
        · obtain ⟨k, hk, rfl⟩ := List.getElem_of_mem hx
          have hb := okRow_yes (okAll_yes hok _ hi) k hk
          unfold badP at hb
          rw [List.getElem?_eq_getElem hk] at hb
          simp only [Option.getD_some, Bool.or_eq_false_iff, decide_eq_false_iff_not] at hb
          obtain ⟨b1, b2, b3, -⟩ := hb
          refine ⟨by omega, by omega, fun e => b3 ?_⟩
          rw [e]
          have : 0 ≤ i := by omega
          omega
        · rw [slAt_out (by omega)] at hx
          cases hx
theorem fitsB_iff {F : List Sl} {i : Nat} {x : Int} : fitsB F i x = true ↔ x ∈ (slAt F i).ints := by
  unfold fitsB
  rw [idx_memL]
  exact decide_eq_true_iff
theorem ch_zero {F : List Sl} {n : Nat} {l u : List Int} : ∀ (d k : Nat), l.length - k = d → (chFrom F n l u k = 0 ↔ ∀ j, k ≤ j → j < l.length → (0 ≤ l[j]?.getD 0 ∧ l[j]?.getD 0 < (n : Int)) ∧ l[j]?.getD 0 ∉ u ++ l.take j ∧ (0 < j → l[j]?.getD 0 ∈ (slAt F (l[j - 1]?.getD 0).toNat).ints)) := by
  intro d
  induction d with
  | zero =>
    intro k hk
    rw [ch_end (by omega)]
    exact ⟨fun _ j h1 h2 => by omega, fun _ => rfl⟩
  | succ d ih =>
    intro k hk
    have hkl : k < l.length := by omega
    rw [ch_step hkl]
    have ih' := ih (k + 1) (by omega)
    constructor
    · intro h
      by_cases c1 : l[k]?.getD 0 < 0 ∨ (n : Int) ≤ l[k]?.getD 0
      · rw [if_pos c1] at h; cases h
      · rw [if_neg c1] at h
        by_cases c2 : l[k]?.getD 0 ∈ u ++ l.take k
        · rw [if_pos c2] at h; cases h
        · rw [if_neg c2] at h
          by_cases c3 : 0 < k ∧ fitsB F (l[k - 1]?.getD 0).toNat (l[k]?.getD 0) = false
          · rw [if_pos c3] at h; cases h
          · rw [if_neg c3] at h
            intro j hj hjl
            by_cases e : j = k
            · subst e
              refine ⟨by omega, c2, fun h0 => ?_⟩
              refine fitsB_iff.1 ?_
              cases hf : fitsB F (l[j - 1]?.getD 0).toNat (l[j]?.getD 0) with
              | true => rfl
              | false => exact absurd ⟨h0, hf⟩ c3
            · exact ih'.1 h j (by omega) hjl
    · intro h
      obtain ⟨a1, a2, a3⟩ := h k (Nat.le_refl _) hkl
      rw [if_neg (by omega), if_neg a2, if_neg ?_]
      · exact ih'.2 fun j hj hjl => h j (by omega) hjl
      · rintro ⟨h0, hf⟩
        rw [fitsB_iff.2 (a3 h0)] at hf
        cases hf
theorem nodup_at {l : List Int} : l.Nodup ↔ ∀ i j, i < j → j < l.length → l[i]?.getD 0 ≠ l[j]?.getD 0 := by
  unfold List.Nodup
  rw [List.pairwise_iff_getElem]
  constructor
  · intro h i j hij hj
    rw [List.getElem?_eq_getElem (by omega), List.getElem?_eq_getElem hj]
    exact h i j (by omega) hj hij
  · intro h i j hi hj hij
    have := h i j hij hj
    rw [List.getElem?_eq_getElem hi, List.getElem?_eq_getElem hj] at this
    exact this
theorem getD_mem {l : List Int} {j : Nat} (h : j < l.length) : l[j]?.getD 0 ∈ l := by
  rw [List.getElem?_eq_getElem h]
  exact List.getElem_mem _
theorem take_mem {l : List Int} {j : Nat} {x : Int} (hj : j ≤ l.length) : x ∈ l.take j ↔ ∃ i, i < j ∧ l[i]?.getD 0 = x := by
  constructor
  · intro h
    obtain ⟨i, hi, rfl⟩ := List.getElem_of_mem h
    rw [List.length_take] at hi
    refine ⟨i, by omega, ?_⟩
    rw [List.getElem_take, List.getElem?_eq_getElem (by omega)]
    rfl
  · rintro ⟨i, hi, rfl⟩
    have : i < (l.take j).length := by rw [List.length_take]; omega
    rw [← take_at l hi, List.getElem?_eq_getElem this]
    exact List.getElem_mem _
theorem chE_zero {gv rd rw : Int} {F : List Sl} {l u : List Int} : chE F F.length l u = 0 ↔ 2 ≤ l.length ∧ (∀ x ∈ l, 0 ≤ x ∧ x < ((sOf gv rd rw F).n : Int)) ∧ Path (sOf gv rd rw F) l ∧ l.Nodup ∧ ∀ x ∈ l, x ∉ u := by
  unfold chE
  by_cases h2 : l.length < 2
  · rw [if_pos h2]
    exact ⟨fun h => (by cases h), fun h => by omega⟩
  · rw [if_neg h2, ch_zero _ 0 rfl]
    constructor
    · intro h
      refine ⟨by omega, fun x hx => ?_, fun i hi => ?_, nodup_at.2 fun i j hij hj e => ?_, fun x hx hu => ?_⟩
      · obtain ⟨j, hj, rfl⟩ := List.getElem_of_mem hx
        have := (h j (by omega) hj).1
        rw [List.getElem?_eq_getElem hj] at this
        exact this
      · exact (h (i + 1) (by omega) hi).2.2 (by omega)
      · exact (h j (by omega) hj).2.1 (List.mem_append_right _ ((take_mem (by omega)).2 ⟨i, hij, e⟩))
      · obtain ⟨j, hj, rfl⟩ := List.getElem_of_mem hx
        have := (h j (by omega) hj).2.1
        rw [List.getElem?_eq_getElem hj] at this
        exact this (List.mem_append_left _ hu)
    · rintro ⟨-, h1, h3, h4, h5⟩ j - hj
      refine ⟨h1 _ (getD_mem hj), fun hm => ?_, fun h0 => ?_⟩
      · rcases List.mem_append.1 hm with hm | hm
        · exact h5 _ (getD_mem hj) hm
        · obtain ⟨i, hi, e⟩ := (take_mem (by omega)).1 hm
          exact nodup_at.1 h4 i j hi hj e
      · have := h3 (j - 1) (by omega)
        rw [show j - 1 + 1 = j by omega] at this
        exact this
/-- What is said of chains, against plans. -/
theorem run_plan {gv rd rw : Int} {F : List Sl} : ∀ (L : List (Bool × List Int)) (u : List Int) (g m : Int), runR gv rd rw F L u g = (m, 0) ↔ (∀ c ∈ L, c.1 = isRow (sOf gv rd rw F) c.2) ∧ Plan (sOf gv rd rw F) (fun x => x ∈ u) (L.map (·.2)) ∧ m = g + total (sOf gv rd rw F) (L.map (·.2)) := by
  intro L
  induction L with
  | nil =>
    intro u g m
    unfold runR
    constructor
    · intro h
      refine ⟨fun c hc => (by cases hc), plan_nil _, ?_⟩
      injection h with h _
      rw [List.map_nil, ← h]
      show g = g + 0
      omega
    · rintro ⟨-, -, h⟩
      have : m = g := by
        rw [h]
        show g + 0 = g
        omega
      rw [this]
  | cons c L ih =>
    intro u g m
    rw [runR, List.map_cons, plan_cons, total_cons]
    by_cases h1 : chE F F.length c.2 u = 0
    · rw [if_neg (by rw [h1]; omega)]
      obtain ⟨k1, k2, k3, k4, k5⟩ := (chE_zero (gv := gv) (rd := rd) (rw := rw)).1 h1
      have hok : okC gv rd rw F c.1 c.2 = true ↔ c.1 = isRow (sOf gv rd rw F) c.2 ∧ mayL (sOf gv rd rw F) c.2 = true := by
        unfold okC
        cases hi : isRow (sOf gv rd rw F) c.2 with
        | true =>
          have hlt : hd c.2 < gv := of_decide_eq_true hi
          cases c.1 with
          | true => rw [if_pos rfl, may_row (rd := rd) (F := F) hlt]; simp
          | false =>
            rw [if_neg (by simp)]
            unfold roundB
            rw [show decide (c.2[0]?.getD 0 < gv) = true from decide_eq_true hlt]
            simp
        | false =>
          have hlt : ¬ hd c.2 < gv := of_decide_eq_false hi
          cases c.1 with
          | false => rw [if_neg (by simp), may_round (rw := rw) hlt]; simp
          | true =>
            rw [if_pos rfl]
            unfold rowB
            rw [show decide (c.2[0]?.getD 0 < gv) = false from decide_eq_false hlt]
            simp
      by_cases h2 : okC gv rd rw F c.1 c.2 = true
      · rw [if_neg (by rw [h2]; simp), ih]
        obtain ⟨f1, f2⟩ := hok.1 h2
        have hg : giC c.1 c.2 = gift (sOf gv rd rw F) c.2 := by unfold giC gift; rw [f1]
        constructor
        · rintro ⟨p1, p2, p3⟩
          refine ⟨fun d hd => ?_, ⟨⟨k1, k2, k3, f2⟩, k4, k5, p2.sub fun x _ _ hx => ?_⟩, by rw [p3, hg]; omega⟩
          · rcases List.mem_cons.1 hd with rfl | hd
            · exact f1
            · exact p1 d hd
          · exact List.mem_append.2 hx
        · rintro ⟨p1, ⟨-, -, -, p2⟩, p3⟩
          refine ⟨fun d hd => p1 d (List.mem_cons_of_mem _ hd), p2.sub fun x _ _ hx => List.mem_append.1 hx, by rw [p3, hg]; omega⟩
      · rw [if_pos (by cases e : okC gv rd rw F c.1 c.2 with | true => exact absurd e h2 | false => rfl)]
        constructor
        · intro h; cases h
        · rintro ⟨p1, ⟨p2, -⟩, -⟩
          exact absurd (hok.2 ⟨p1 c List.mem_cons_self, p2.may⟩) h2
    · rw [if_pos h1]
      constructor
      · intro h
        injection h with _ h
        exact absurd h h1
      · rintro ⟨-, ⟨p2, p3, p4, -⟩, -⟩
        exact absurd ((chE_zero (gv := gv) (rd := rd) (rw := rw)).2 ⟨p2.two, p2.rng, p2.path, p3, p4⟩) h1
theorem all_map (R Q : List (List Int)) : (allC R Q).map (·.2) = R ++ Q := by
  unfold allC
  rw [List.map_append, List.map_map, List.map_map]
  have h1 : R.map ((fun c : Bool × List Int => c.2) ∘ fun l => (false, l)) = R := by
    have : ((fun c : Bool × List Int => c.2) ∘ fun l : List Int => (false, l)) = id := rfl
    rw [this, List.map_id]
  have h2 : Q.map ((fun c : Bool × List Int => c.2) ∘ fun l => (true, l)) = Q := by
    have : ((fun c : Bool × List Int => c.2) ∘ fun l : List Int => (true, l)) = id := rfl
    rw [this, List.map_id]
  rw [h1, h2]
theorem chk_plan {gv rd rw : Int} {F : List Sl} (h : maySw gv rd rw F = 0) (R Q : List (List Int)) (m : Int) : chkR gv rd rw F R Q = (m, 0) ↔ (∀ c ∈ R, isRow (sOf gv rd rw F) c = false) ∧ (∀ c ∈ Q, isRow (sOf gv rd rw F) c = true) ∧ Plan (sOf gv rd rw F) (fun _ => False) (R ++ Q) ∧ m = total (sOf gv rd rw F) (R ++ Q) := by
  rw [chk_run gv rd rw F R Q h, run_plan, all_map]
  constructor
  · rintro ⟨h1, h2, h3⟩
    refine ⟨fun c hc => ?_, fun c hc => ?_, h2.sub fun x _ _ hx => hx.elim, by omega⟩
    · exact (h1 (false, c) (List.mem_append_left _ (List.mem_map.2 ⟨c, hc, rfl⟩))).symm
    · exact (h1 (true, c) (List.mem_append_right _ (List.mem_map.2 ⟨c, hc, rfl⟩))).symm
  · rintro ⟨h1, h2, h3, h4⟩
    refine ⟨fun c hc => ?_, h3.sub fun x _ _ hx => (by cases hx), by omega⟩
    rcases List.mem_append.1 hc with hc | hc
    · obtain ⟨d, hd, rfl⟩ := List.mem_map.1 hc
      exact (h1 d hd).symm
    · obtain ⟨d, hd, rfl⟩ := List.mem_map.1 hc
      exact (h2 d hd).symm
end Go.Proofs.YtffnhflbhckhbaaDoor
