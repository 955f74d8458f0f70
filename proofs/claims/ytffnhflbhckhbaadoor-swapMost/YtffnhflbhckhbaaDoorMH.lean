import Derived.Test.YtffnhflbhckhbaaDoorMG
namespace Go.Proofs.YtffnhflbhckhbaaDoor
open Go.RowKit Go.Shelf
attribute [local go_sem] Oper.semAt_some
/-- Who is not asked any more: those ahead, and those used. -/
def Uf (at0 : Nat) (used : List Int) (x : Int) : Prop := x < (at0 : Int) ∨ x ∈ used
/-- Those used: each once, all of them there. -/
structure Us (s : Sw) (used : List Int) : Prop where
  nd : used.Nodup
  rng : ∀ x ∈ used, 0 ≤ x ∧ x < (s.n : Int)
theorem Us.len {s : Sw} {used : List Int} (h : Us s used) : used.length ≤ s.n := nodup_len8 h.nd h.rng
theorem uf_in {s : Sw} {at0 : Nat} {used : List Int} {v : Int} (h : Opt s (Uf (at0 + 1) used) v) (hm : (at0 : Int) ∈ used) : Opt s (Uf at0 used) v := by
  refine h.same fun x _ _ => ?_
  unfold Uf
  constructor
  · rintro (q | q)
    · by_cases e : x = (at0 : Int)
      · subst e; exact .inr hm
      · exact .inl (by omega)
    · exact .inr q
  · rintro (q | q)
    · exact .inl (by omega)
    · exact .inr q
theorem uf_out {s : Sw} {at0 : Nat} {used : List Int} {v : Int} (h : Opt s (Uf (at0 + 1) used) v) : Opt s (fun x => Uf at0 used x ∨ x = (at0 : Int)) v := by
  refine h.same fun x _ _ => ?_
  unfold Uf
  constructor
  · rintro (q | q)
    · by_cases e : x = (at0 : Int)
      · exact .inr e
      · exact .inl (.inl (by omega))
    · exact .inl (.inr q)
  · rintro ((q | q) | q)
    · exact .inl (by omega)
    · exact .inr q
    · exact .inl (by omega)
theorem uf_line {s : Sw} {at0 : Nat} {used d : List Int} {v : Int} (h : Opt s (Uf (at0 + 1) (used ++ d)) v) (hd1 : (at0 : Int) ∈ d) : Opt s (fun x => Uf at0 used x ∨ x ∈ d) v := by
  refine h.same fun x _ _ => ?_
  unfold Uf
  rw [List.mem_append]
  constructor
  · rintro (q | q | q)
    · by_cases e : x = (at0 : Int)
      · subst e; exact .inr hd1
      · exact .inl (.inl (by omega))
    · exact .inl (.inr q)
    · exact .inr q
  · rintro ((q | q) | q)
    · exact .inl (by omega)
    · exact .inr (.inl q)
    · exact .inr (.inr q)
/-- What is known of a line that begins at one. -/
structure Ln1 (s : Sw) (at0 : Nat) (used d : List Int) : Prop where
  line : Line s d
  nd : d.Nodup
  hdd : hd d = (at0 : Int)
  free : ∀ x ∈ d, ¬ Uf at0 used x
theorem hd_mem {d : List Int} (h : 0 < d.length) : hd d ∈ d := getD_mem h
theorem ln1_of {s : Sw} (hs : s.Ok) {at0 : Nat} {used d : List Int} (hau : (at0 : Int) ∉ used) (h : SLs s [(at0 : Int)] used d) : Ln1 s at0 used d := by
  have hh : hd d = (at0 : Int) := h.hdd
  refine ⟨h.line, h.nd, hh, fun x hx hu => ?_⟩
  have hxa : (at0 : Int) ≤ x := by
    obtain ⟨i, hi, rfl⟩ := List.getElem_of_mem hx
    by_cases hi0 : i = 0
    · subst hi0
      have : hd d = d[0] := by unfold hd; rw [List.getElem?_eq_getElem hi]; rfl
      omega
    · rcases h.free _ hx with q | ⟨-, q⟩
      · rw [List.mem_singleton.1 q]; omega
      · rcases q with q | q
        · have h1 : (at0 : Int) < s.gv := of_decide_eq_true q
          have h2 := path_gv hs h.line.path (i := i) (by omega) hi
          rw [List.getElem?_eq_getElem hi] at h2
          have h2 : s.gv ≤ d[i] := h2
          omega
        · exact q
  rcases hu with hu | hu
  · omega
  · rcases h.free _ hx with q | q
    · rw [List.mem_singleton.1 q] at hu
      exact hau hu
    · exact q.1 hu
theorem cnd_of {s : Sw} {at0 : Nat} {used c : List Int} (hl : Line s c) (hh : hd c = (at0 : Int)) (hn : c.Nodup) (hf : ∀ x ∈ c, ¬ Uf at0 used x) : ∃ e, c = [(at0 : Int)] ++ e ∧ Cnd s [(at0 : Int)] used e := by
  cases c with
  | nil => have := hl.two; cases this
  | cons y e =>
    have hy : y = (at0 : Int) := hh
    subst hy
    refine ⟨e, rfl, hl, hn, fun x hx => ?_⟩
    have := hf x (List.mem_cons_of_mem _ hx)
    unfold Uf at this
    refine ⟨fun q => this (.inr q), .inr ?_⟩
    have h2 : ¬ x < (at0 : Int) := fun q => this (.inl q)
    show (at0 : Int) ≤ x
    omega
theorem us_line {s : Sw} {at0 : Nat} {used d : List Int} (h : Us s used) (hl : Ln1 s at0 used d) : Us s (used ++ d) := by
  refine ⟨?_, fun x hx => ?_⟩
  · rw [List.nodup_append]
    exact ⟨h.nd, hl.nd, fun a ha b hb e => hl.free b hb (.inr (e ▸ ha))⟩
  · rcases List.mem_append.1 hx with q | q
    · exact h.rng x q
    · exact hl.line.rng x q
/-- Where swapFrom stands in its loop. -/
structure SF (s : Sw) (at0 : Nat) (used : List Int) (v0 b : Int) (L : List (List Int)) (k : Nat) : Prop where
  ge0 : v0 ≤ b
  bd : 0 ≤ b ∧ b ≤ 100
  ge : ∀ d ∈ L.take k, ∃ v, Opt s (fun x => Uf at0 used x ∨ x ∈ d) v ∧ gift s d + v ≤ b
  ach : b = v0 ∨ ∃ d v, Ln1 s at0 used d ∧ Opt s (fun x => Uf at0 used x ∨ x ∈ d) v ∧ b = gift s d + v
theorem take_succ_L {L : List (List Int)} {k : Nat} (h : k < L.length) : L.take (k + 1) = L.take k ++ [L[k]] := by
  rw [List.take_add_one, List.getElem?_eq_getElem h]
  rfl
theorem SF.next {s : Sw} {at0 : Nat} {used : List Int} {v0 b v g : Int} {L : List (List Int)} {k : Nat} (h : SF s at0 used v0 b L k) (hk : k < L.length) (hl : Ln1 s at0 used L[k]) (ho : Opt s (fun x => Uf at0 used x ∨ x ∈ L[k]) v) (hg : gift s L[k] = g) (hb : 0 ≤ g + v ∧ g + v ≤ 100) : SF s at0 used v0 (if b < g + v then g + v else b) L (k + 1) := by
  have hle : b ≤ (if b < g + v then g + v else b) ∧ g + v ≤ (if b < g + v then g + v else b) := by split <;> omega
  refine ⟨by have := h.ge0; omega, by split; exact hb; exact h.bd, fun d hd => ?_, ?_⟩
  · rw [take_succ_L hk] at hd
    rcases List.mem_append.1 hd with q | q
    · obtain ⟨w, w1, w2⟩ := h.ge d q
      exact ⟨w, w1, by omega⟩
    · rw [List.mem_singleton.1 q]
      exact ⟨v, ho, by rw [hg]; omega⟩
  · split
    · exact .inr ⟨L[k], v, hl, ho, by rw [hg]⟩
    · exact h.ach
theorem SF.fin {s : Sw} (hs : s.Ok) {at0 : Nat} {used : List Int} {v0 b : Int} {L : List (List Int)} (h : SF s at0 used v0 b L L.length) (ha : at0 < s.n) (hau : (at0 : Int) ∉ used) (h0 : Opt s (Uf (at0 + 1) used) v0) (hc : ∀ e, Cnd s [(at0 : Int)] used e → [(at0 : Int)] ++ e ∈ L) : Opt s (Uf at0 used) b := by
  refine opt_step hs (a := (at0 : Int)) (by omega) (by omega) (fun q => ?_) (fun x _ hx => .inl hx) (uf_out h0) h.ge0 (fun c c1 c2 c3 c4 => ?_) ?_
  · rcases q with q | q
    · omega
    · exact hau q
  · obtain ⟨e, e1, e2⟩ := cnd_of c1 c2 c3 c4
    have := hc e e2
    rw [← e1] at this
    exact h.ge c (by rw [List.take_length]; exact this)
  · rcases h.ach with q | ⟨d, v, d1, d2, d3⟩
    · exact .inl q
    · exact .inr ⟨d, v, d1.line, d1.nd, d1.free, d2, d3⟩
end Go.Proofs.YtffnhflbhckhbaaDoor
