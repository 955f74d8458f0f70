import Derived.Test.YtffnhflbhckhbaaDoorMD
namespace Go.Proofs.YtffnhflbhckhbaaDoor
open Go.RowKit Go.Shelf
/-- Whom one's gift fits is told once each. -/
theorem fits_nodup {gv rd rw : Int} {F : List Sl} (h : maySw gv rd rw F = 0) (i : Nat) : (slAt F i).ints.Nodup := by
  by_cases hi : i < F.length
  · unfold maySw at h
    split at h
    · cases h
    · split at h
      · cases h
      · split at h
        · cases h
        · have hok : okAll gv F.length F F.length = true := by
            cases e : okAll gv F.length F F.length with
            | true => rfl
            | false => rw [e] at h; cases h
          have hb := okRow_yes (okAll_yes hok _ hi)
          have hstep : ∀ k, 0 < k → k < (slAt F i).ints.length → (slAt F i).ints[k - 1]?.getD 0 < (slAt F i).ints[k]?.getD 0 := fun k h0 hk => by
            have := hb k hk
            unfold badP at this
            simp only [Bool.or_eq_false_iff, Bool.and_eq_false_iff, decide_eq_false_iff_not] at this
            omega
          have hlt : ∀ d a, a + d + 1 < (slAt F i).ints.length → (slAt F i).ints[a]?.getD 0 < (slAt F i).ints[a + d + 1]?.getD 0 := by
            intro d
            induction d with
            | zero => intro a ha; exact hstep (a + 1) (by omega) ha
            | succ d ih =>
              intro a ha
              have h1 := ih a (by omega)
              have h2 := hstep (a + d + 1 + 1) (by omega) (by omega)
              rw [show a + d + 1 + 1 - 1 = a + d + 1 by omega] at h2
              rw [show a + (d + 1) + 1 = a + d + 1 + 1 by omega]
              omega
          refine nodup_at.2 fun a b hab hbl => ?_
          have := hlt (b - a - 1) a (by omega)
          rw [show a + (b - a - 1) + 1 = b by omega] at this
          omega
  · rw [slAt_out (by omega)]
    exact List.nodup_nil
/-- How many chains there can be that go on, k people being free. -/
def bnd : Nat → Nat
  | 0 => 1
  | k + 1 => 1 + (k + 1) * bnd k
theorem bnd_le : ∀ k, k ≤ 5 → bnd k ≤ 326 := by decide
theorem bnd_le' : ∀ k, k ≤ 5 → k * bnd (k - 1) + 1 = bnd k := by decide
/-- What may follow a chain. -/
structure Cnd (s : Sw) (l used e : List Int) : Prop where
  line : Line s (l ++ e)
  nd : (l ++ e).Nodup
  ok : ∀ x ∈ e, x ∉ used ∧ (isRow s l = true ∨ hd l ≤ x)
/-- What is said of a chain that is told. -/
structure SLs (s : Sw) (l used d : List Int) : Prop where
  line : Line s d
  nd : d.Nodup
  hdd : hd d = hd l
  free : ∀ x ∈ d, x ∈ l ∨ (x ∉ used ∧ (isRow s l = true ∨ hd l ≤ x))
/-- A chain that has begun. -/
structure Bg (s : Sw) (l : List Int) : Prop where
  ne : l ≠ []
  rng : ∀ x ∈ l, 0 ≤ x ∧ x < (s.n : Int)
  path : Path s l
  nd : l.Nodup
theorem Bg.snoc {s : Sw} (hs : s.Ok) {l : List Int} {x : Int} (h : Bg s l) (hx : x ∈ s.F (lst l)) (hn : x ∉ l) : Bg s (l ++ [x]) := by
  refine ⟨by simp, fun y hy => ?_, path_snoc h.ne h.path hx, ?_⟩
  · rcases List.mem_append.1 hy with q | q
    · exact h.rng y q
    · rw [List.mem_singleton.1 q]
      have := hs.fits _ _ hx
      have := hs.gv0
      omega
  · rw [List.nodup_append]
    exact ⟨h.nd, by simp, fun a ha b hb e => by rw [List.mem_singleton.1 hb] at e; exact hn (e ▸ ha)⟩
theorem Bg.len {s : Sw} {l : List Int} (h : Bg s l) : 0 < l.length ∧ l.length ≤ s.n := ⟨List.length_pos_iff.2 h.ne, nodup_len8 h.nd h.rng⟩
theorem row_snoc {s : Sw} {l e : List Int} (h : l ≠ []) : isRow s (l ++ e) = isRow s l := by
  unfold isRow
  rw [hd_append _ _ h]
/-- Those that are told up to place k of whom the last one's gift fits. -/
structure SC (s : Sw) (l used : List Int) (k : Nat) (L : List (List Int)) : Prop where
  len : L.length ≤ 1 + ((s.F (lst l)).take k |>.filter (fun x => decide (x ∉ l))).length * bnd (s.n - l.length - 1)
  sound : ∀ d ∈ L, SLs s l used d
  comp : ∀ e, Cnd s l used e → (∀ y e', e = y :: e' → y ∈ (s.F (lst l)).take k) → l ++ e ∈ L
theorem SC.start {s : Sw} {l used : List Int} (h : Bg s l) : SC s l used 0 (if decide (1 < l.length) && mayL s l then [l] else []) := by
  refine ⟨?_, fun d hd => ?_, fun e he hy => ?_⟩
  · split <;> simp
  · split at hd
    · rename_i hc
      rw [Bool.and_eq_true, decide_eq_true_eq] at hc
      rw [List.mem_singleton.1 hd]
      exact ⟨⟨hc.1, h.rng, h.path, hc.2⟩, h.nd, rfl, fun x hx => .inl hx⟩
    · cases hd
  · cases e with
    | nil =>
      have hl := he.line
      rw [List.append_nil] at hl ⊢
      rw [if_pos (by rw [Bool.and_eq_true, decide_eq_true_eq]; exact ⟨hl.two, hl.may⟩)]
      simp
    | cons y e' =>
      have := hy y e' rfl
      rw [List.take_zero] at this
      cases this
theorem take_snoc {l : List Int} {k : Nat} (h : k < l.length) : l.take (k + 1) = l.take k ++ [l[k]?.getD 0] := by
  rw [List.take_add_one, List.getElem?_eq_getElem h]
  rfl
theorem Cnd.head {s : Sw} {l used e' : List Int} {y : Int} (h : Cnd s l used (y :: e')) : y ∉ used ∧ y ∉ l ∧ (isRow s l = true ∨ hd l ≤ y) := by
  refine ⟨(h.ok y List.mem_cons_self).1, fun hm => ?_, (h.ok y List.mem_cons_self).2⟩
  have := h.nd
  rw [List.nodup_append] at this
  exact this.2.2 y hm y List.mem_cons_self rfl
theorem SC.skip {s : Sw} {l used : List Int} {k : Nat} {L : List (List Int)} (hk : k < (s.F (lst l)).length) (h : SC s l used k L) (hx : (s.F (lst l))[k]?.getD 0 ∈ used ∨ (s.F (lst l))[k]?.getD 0 ∈ l ∨ (isRow s l = false ∧ (s.F (lst l))[k]?.getD 0 < hd l)) : SC s l used (k + 1) L := by
  refine ⟨?_, h.sound, fun e he hy => h.comp e he fun y e' q => ?_⟩
  · refine Nat.le_trans h.len (Nat.add_le_add_left (Nat.mul_le_mul_right _ ?_) 1)
    rw [take_snoc hk, List.filter_append, List.length_append]
    omega
  · have hm := hy y e' q
    rw [take_snoc hk] at hm
    rcases List.mem_append.1 hm with hm | hm
    · exact hm
    · exfalso
      rw [List.mem_singleton] at hm
      rw [← hm] at hx
      subst q
      obtain ⟨a1, a2, a3⟩ := he.head
      rcases hx with q | q | ⟨q1, q2⟩
      · exact a1 q
      · exact a2 q
      · rcases a3 with a3 | a3
        · rw [q1] at a3; cases a3
        · omega
theorem SC.more {s : Sw} {l used : List Int} {k : Nat} {L M : List (List Int)} (hb : Bg s l) (hk : k < (s.F (lst l)).length) (h : SC s l used k L) (hu : (s.F (lst l))[k]?.getD 0 ∉ used) (hl : (s.F (lst l))[k]?.getD 0 ∉ l) (hg : isRow s l = true ∨ hd l ≤ (s.F (lst l))[k]?.getD 0)
    (hM1 : M.length ≤ bnd (s.n - l.length - 1)) (hM2 : ∀ d ∈ M, SLs s (l ++ [(s.F (lst l))[k]?.getD 0]) used d) (hM3 : ∀ e, Cnd s (l ++ [(s.F (lst l))[k]?.getD 0]) used e → l ++ [(s.F (lst l))[k]?.getD 0] ++ e ∈ M) : SC s l used (k + 1) (L ++ M) := by
  have hfl : ((s.F (lst l)).take (k + 1)).filter (fun x => decide (x ∉ l)) = ((s.F (lst l)).take k).filter (fun x => decide (x ∉ l)) ++ [(s.F (lst l))[k]?.getD 0] := by
    rw [take_snoc hk, List.filter_append]
    congr 1
    rw [List.filter_cons, if_pos (by simpa using hl)]
    rfl
  refine ⟨?_, fun d hd => ?_, fun e he hy => ?_⟩
  · rw [hfl, List.length_append, List.length_append]
    have := h.len
    simp only [List.length_cons, List.length_nil, Nat.add_mul, Nat.zero_add, Nat.one_mul]
    omega
  · rcases List.mem_append.1 hd with q | q
    · exact h.sound d q
    · have := hM2 d q
      refine ⟨this.line, this.nd, this.hdd.trans (hd_append _ _ hb.ne), fun x hx => ?_⟩
      rcases this.free x hx with r | r
      · rcases List.mem_append.1 r with r | r
        · exact .inl r
        · rw [List.mem_singleton.1 r]; exact .inr ⟨hu, hg⟩
      · rw [row_snoc hb.ne, hd_append _ _ hb.ne] at r
        exact .inr r
  · cases e with
    | nil => exact List.mem_append_left _ (h.comp [] he fun y e' q => (by cases q))
    | cons y e' =>
      have hm := hy y e' rfl
      rw [take_snoc hk] at hm
      rcases List.mem_append.1 hm with hm | hm
      · refine List.mem_append_left _ (h.comp _ he fun y2 e2 q => ?_)
        cases q
        exact hm
      · rw [List.mem_singleton] at hm
        refine List.mem_append_right _ ?_
        have e1 : l ++ y :: e' = l ++ [(s.F (lst l))[k]?.getD 0] ++ e' := by rw [hm]; simp
        rw [e1]
        refine hM3 e' ⟨by rw [← e1]; exact he.line, by rw [← e1]; exact he.nd, fun x hx => ?_⟩
        rw [row_snoc hb.ne, hd_append _ _ hb.ne]
        exact he.ok x (List.mem_cons_of_mem _ hx)
theorem SC.bound {s : Sw} (hs : s.Ok) {l used : List Int} {k : Nat} {L : List (List Int)} (hb : Bg s l) (hn : s.n ≤ 6) (hnd : (s.F (lst l)).Nodup) (h : SC s l used k L) : L.length ≤ bnd (s.n - l.length) := by
  have h1 := hb.len
  have h2 : (l ++ ((s.F (lst l)).take k).filter (fun x => decide (x ∉ l))).length ≤ s.n := by
    refine nodup_len8 ?_ fun x hx => ?_
    · rw [List.nodup_append]
      refine ⟨hb.nd, (hnd.sublist (List.take_sublist _ _)).filter _, fun a ha b hb e => ?_⟩
      have := (List.mem_filter.1 hb).2
      rw [← e] at this
      exact absurd ha (of_decide_eq_true this)
    · rcases List.mem_append.1 hx with q | q
      · exact hb.rng x q
      · have := hs.fits _ _ (List.mem_of_mem_take (List.mem_filter.1 q).1)
        have := hs.gv0
        omega
  rw [List.length_append] at h2
  have h3 := bnd_le' (s.n - l.length) (by omega)
  have h4 := h.len
  have h5 := Nat.mul_le_mul_right (bnd (s.n - l.length - 1)) (show (((s.F (lst l)).take k).filter (fun x => decide (x ∉ l))).length ≤ s.n - l.length by omega)
  omega
end Go.Proofs.YtffnhflbhckhbaaDoor
