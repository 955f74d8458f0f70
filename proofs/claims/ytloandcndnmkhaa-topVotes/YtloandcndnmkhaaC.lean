import Derived.Test.YtloandcndnmkhaaB
namespace Go.Proofs.Ytloandcndnmkhaa
open Go.RowKit
theorem info23 : (Try.prog.info? 23).map (fun i => (i.zero, i.size, i.bytes)) = some (some (.slice none 0 0), 1, 24) := by kernel_rfl
/-- A table of n rows of n numbers, each of its own memory. -/
def Tab (base : Nat) (W : World) (G : Nat) (Bf : Nat → Nat) (n : Nat) (f : Nat → Nat → Int) : Prop :=
  base ≤ G ∧ G < W.heap.size ∧ (∀ i, i < n → W.cell? ⟨G, i, none⟩ = some (.slice (some ⟨Bf i, 0, none⟩) n n)) ∧
  (∀ i, i < n → base ≤ Bf i ∧ Bf i < W.heap.size ∧ Bf i ≠ G) ∧ (∀ i j, i < n → j < n → i ≠ j → Bf i ≠ Bf j) ∧
  (∀ i j, i < n → j < n → W.cell? ⟨Bf i, j, none⟩ = some (.int .i64 (f i j))) ∧ (∀ i j, i < n → j < n → W.frozen? ⟨Bf i, j, none⟩ = false)
theorem Tab.later {base : Nat} {W W' : World} {G n : Nat} {Bf : Nat → Nat} {f : Nat → Nat → Int} (h : Tab base W G Bf n f) (hb : Below W.heap.size W W') : Tab base W' G Bf n f := by
  obtain ⟨h1, h2, h3, h4, h5, h6, h7⟩ := h
  refine ⟨h1, Nat.lt_of_lt_of_le h2 hb.size, fun i hi => (hb.cell (p := ⟨G, i, none⟩) h2).trans (h3 i hi), fun i hi => ⟨(h4 i hi).1, Nat.lt_of_lt_of_le (h4 i hi).2.1 hb.size, (h4 i hi).2.2⟩, h5, fun i j hi hj => (hb.cell (p := ⟨Bf i, j, none⟩) (h4 i hi).2.1).trans (h6 i j hi hj), fun i j hi hj => (hb.frozen (p := ⟨Bf i, j, none⟩) (h4 i hi).2.1).trans (h7 i j hi hj)⟩
theorem Tab.same {base : Nat} {W : World} {G n : Nat} {Bf : Nat → Nat} {f f' : Nat → Nat → Int} (h : Tab base W G Bf n f) (e : ∀ i j, i < n → j < n → f i j = f' i j) : Tab base W G Bf n f' := by
  obtain ⟨h1, h2, h3, h4, h5, h6, h7⟩ := h
  exact ⟨h1, h2, h3, h4, h5, fun i j hi hj => by rw [← e i j hi hj]; exact h6 i j hi hj, h7⟩
theorem Tab.set {base : Nat} {W : World} {G n : Nat} {Bf : Nat → Nat} {f f' : Nat → Nat → Int} {x y : Nat} {v : Int} (h : Tab base W G Bf n f) (hx : x < n) (hy : y < n) (hv : v = f' x y) (e : ∀ i j, i < n → j < n → ¬ (i = x ∧ j = y) → f i j = f' i j) :
    Tab base (W.setCell ⟨Bf x, y, none⟩ (.int .i64 v)) G Bf n f' := by
  obtain ⟨h1, h2, h3, h4, h5, h6, h7⟩ := h
  refine ⟨h1, by simpa using h2, fun i hi => ?_, fun i hi => ⟨(h4 i hi).1, by simpa using (h4 i hi).2.1, (h4 i hi).2.2⟩, h5, fun i j hi hj => ?_, fun i j hi hj => by rw [World.frozen?_setCell]; exact h7 i j hi hj⟩
  · rw [World.cell?_setCell_other _ _ _ _ (fun hh => (h4 x hx).2.2 (congrArg Addr.block hh))]; exact h3 i hi
  · by_cases c : i = x ∧ j = y
    · obtain ⟨rfl, rfl⟩ := c
      rw [World.cell?_setCell_same' _ _ _ (by rw [h6 i j hi hj]; rfl), hv]
    · rw [World.cell?_setCell_other _ _ _ _ (by
        intro hh
        have h8 : Bf i = Bf x ∧ j = y := ⟨(congrArg Addr.block hh).symm, (congrArg Addr.off hh).symm⟩
        by_cases c2 : i = x
        · exact c ⟨c2, h8.2⟩
        · exact h5 i x hi hx c2 h8.1), h6 i j hi hj, e i j hi hj c]
theorem Tab.below {base : Nat} {W w : World} {G n : Nat} {Bf : Nat → Nat} {f : Nat → Nat → Int} {x y : Nat} (h : Tab base W G Bf n f) (hx : x < n) (hb : Below base w W) (v : Value) : Below base w (W.setCell ⟨Bf x, y, none⟩ v) :=
  hb.setCell (p := ⟨Bf x, y, none⟩) (h.2.2.2.1 x hx).1 v
/-- The rows as lists. -/
def tabL (n : Nat) (Bf : Nat → Nat) (f : Nat → Nat → Int) : List Sl := (List.range n).map fun i => ⟨some ⟨Bf i, 0, none⟩, n, n, (List.range n).map (f i)⟩
def TabPost (n : Nat) (f : Nat → Nat → Int) (w : World) (e : Ending) (w' : World) : Prop :=
  ∃ G Bf, e = .returned (.slice (some ⟨G, 0, none⟩) n n) ∧ Tab w.heap.size w' G Bf n f ∧ Below w.heap.size w w'
set_option maxRecDepth 100000 in
set_option maxHeartbeats 4000000 in
theorem table_any (n : Nat) (w : World) (hn : n ≤ 6) : Calls Try.prog 53 #[.int .i64 n] w fun e w' => TabPost n (fun _ _ => 0) w e w' := by
  obtain ⟨i3, hi3, hz0, hz1, hz2⟩ := info_parts info23
  obtain ⟨j3, hj3, hy0, hy1, hy2⟩ := info_parts info3
  go_enter Try.func53, Try.ntmps53
  go_wp2_with (at_make; refine wpList_make_full _ rfl _ _ 31 rfl w.heap.size 23 i3 _ 1 Try.underlying31 hi3 hz0 hz1 .i64 .i64 _ _ n rfl rfl rfl rfl (by rw [hz2]; omega) (by unfold maxLen; omega) (Nat.le_refl _) ?_; intro w1 ho1 hg1)
  obtain ⟨g, hg⟩ : ∃ g, w.heap.size = g := ⟨_, rfl⟩
  have hb1 : Below w.heap.size w w1 := (Below.refl w.heap.size w).grown hg1 (Nat.le_refl _) (fun k hk => by cases hk)
  obtain ⟨hgl, hgc, hgf⟩ : g < w1.heap.size ∧ (∀ j, j < n → w1.cell? ⟨g, j, none⟩ = some (.slice none 0 0)) ∧ (∀ j, j < n → w1.frozen? ⟨g, j, none⟩ = false) := by
    have h0 := ho1
    rcases ho1.2 with ⟨h, _⟩ | ⟨g', cap, cur, h, hbg, hgg, hnc, hcm, hcs, htake⟩
    · cases h
    · cases h
      rw [← hg]
      refine ⟨(Array.getElem?_eq_some_iff.1 hgg).1, fun j hj => ?_, fun j _ => by simp [World.frozen?, hgg]⟩
      rw [h0.cellAt j (by omega), made_at _ rfl n j hj]
  rw [hg]
  have HG := hide hg
  have HGC := hide hgc
  have HGF := hide hgf
  clear ho1 hg1 hg hgc hgf
  go_wp2_with fail
  go_loopw [9, 4] (fun i _ wr => Below w.heap.size w wr ∧ ∃ (k : Nat) (Bf : Nat → Nat), k ≤ n ∧ i = .int .i64 k ∧ g < wr.heap.size ∧ (∀ j, j < n → wr.cell? ⟨g, j, none⟩ = some (if j < k then .slice (some ⟨Bf j, 0, none⟩) n n else .slice none 0 0)) ∧ (∀ j, j < n → wr.frozen? ⟨g, j, none⟩ = false) ∧ (∀ j, j < k → g < Bf j ∧ Bf j < wr.heap.size ∧ (∀ t, t < n → wr.cell? ⟨Bf j, t, none⟩ = some (.int .i64 0) ∧ wr.frozen? ⟨Bf j, t, none⟩ = false)) ∧ (∀ i j, i < k → j < k → i ≠ j → Bf i ≠ Bf j)) (fun i _ _ => n - (intOf i).toNat)
  case atStart => exact ⟨hb1, 0, fun _ => 0, Nat.zero_le _, rfl, hgl, fun j hj => by rw [unhide HGC j hj, if_neg (by omega)], unhide HGF, fun j hj => by omega, fun i j hi => by omega⟩
  case round =>
    obtain ⟨hbr, k, Bf, hk, rfl, hgr, hc, hf, hB, hd⟩ := hrel
    by_cases hlt : k < n
    · have hck := hc k hlt
      have hfk := hf k hlt
      rw [if_neg (by omega)] at hck
      have HC := hide hc
      have HF := hide hf
      have HB := hide hB
      have HD := hide hd
      clear hc hf hB hd
      go_wp2_with (at_make; refine wpList_make_full _ rfl _ _ 23 rfl wr.heap.size 3 j3 _ 1 Try.underlying23 hj3 hy0 hy1 .i64 .i64 _ _ n rfl rfl rfl rfl (by rw [hy2]; omega) (by unfold maxLen; omega) (Nat.le_refl _) ?_; intro w2 ho2 hg2; have hb2 : Below wr.heap.size wr w2 := (Below.refl wr.heap.size wr).grown hg2 (Nat.le_refl _) (fun k hk => by cases hk); have hck2 := (hb2.cell (p := ⟨g, k, none⟩) hgr).trans hck; have hfk2 := (hb2.frozen (p := ⟨g, k, none⟩) hgr).trans hfk)
      go_roundw
      case rel =>
        have hgb : w.heap.size ≤ g := by have := unhide HG; omega
        have hrow := row_made ho2
        obtain ⟨gg, e1, e2, e3, e4, e5⟩ : ∃ gg, wr.heap.size = gg ∧ wr.heap.size ≤ gg ∧ gg < w2.heap.size ∧ (∀ t, t < n → w2.cell? ⟨gg, t, none⟩ = some (.int .i64 0)) ∧ (∀ t, t < n → w2.frozen? ⟨gg, t, none⟩ = false) := by
          rcases hrow with h | ⟨b, h1, h2, h3, h4, h5⟩
          · omega
          · cases h1; exact ⟨_, rfl, h2, h3, h4, h5⟩
        have hbw := hbr.trans (hb2.mono hbr.size)
        have hne : g ≠ gg := by omega
        obtain ⟨Bn, hBn⟩ : ∃ Bn : Nat → Nat, ∀ j, Bn j = if j = k then gg else Bf j := ⟨_, fun _ => rfl⟩
        refine ⟨hbw.setCell (p := ⟨g, k, none⟩) hgb _, k + 1, Bn, by omega, by go_num, by simp; omega, fun j hj => ?_, fun j hj => ?_, fun j hj => ?_, fun i j hi hj hij => ?_⟩
        · by_cases e : j = k
          · subst e
            rw [if_pos (by omega), hBn, if_pos rfl, ← e1]
            exact World.cell?_setCell_same' _ _ _ (by rw [hck2]; rfl)
          · rw [World.cell?_setCell_other _ _ _ _ (by intro hh; cases hh; exact e rfl), hBn, if_neg e, (hb2.cell (p := ⟨g, j, none⟩) hgr), unhide HC j hj]
            by_cases h : j < k
            · rw [if_pos h, if_pos (by omega)]
            · rw [if_neg h, if_neg (by omega)]
        · rw [World.frozen?_setCell]
          exact (hb2.frozen (p := ⟨g, j, none⟩) hgr).trans (unhide HF j hj)
        · by_cases e : j = k
          · subst e
            rw [hBn, if_pos rfl]
            refine ⟨by omega, by simp; omega, fun t ht => ⟨?_, ?_⟩⟩
            · rw [World.cell?_setCell_other _ _ _ _ (fun hh => hne (congrArg Addr.block hh))]; exact e4 t ht
            · rw [World.frozen?_setCell]; exact e5 t ht
          · rw [hBn, if_neg e]
            obtain ⟨q1, q2, q3⟩ := unhide HB j (by omega)
            refine ⟨q1, by have := hb2.size; simp; omega, fun t ht => ⟨?_, ?_⟩⟩
            · rw [World.cell?_setCell_other _ _ _ _ (fun hh => by have := congrArg Addr.block hh; simp at this; omega)]
              exact (hb2.cell (p := ⟨Bf j, t, none⟩) q2).trans (q3 t ht).1
            · rw [World.frozen?_setCell]
              exact (hb2.frozen (p := ⟨Bf j, t, none⟩) q2).trans (q3 t ht).2
        · rw [hBn, hBn]
          by_cases ei : i = k
          · have ej : ¬ j = k := by omega
            rw [if_pos ei, if_neg ej]
            have := (unhide HB j (by omega)).2.1
            omega
          · rw [if_neg ei]
            by_cases ej : j = k
            · rw [if_pos ej]
              have := (unhide HB i (by omega)).2.1
              omega
            · rw [if_neg ej]
              exact unhide HD i j (by omega) (by omega) hij
      case measure => simp [intOf]; omega
    · obtain rfl : n = k := by omega
      go_wp2
      go_ret
      refine ⟨g, Bf, rfl, ⟨by have := unhide HG; omega, hgr, fun i hi => by rw [hc i hi, if_pos hi], fun i hi => ⟨?_, (hB i hi).2.1, ?_⟩, hd, fun i j hi hj => ((hB i hi).2.2 j hj).1, fun i j hi hj => ((hB i hi).2.2 j hj).2⟩, hbr⟩
      · have := (hB i hi).1; have := unhide HG; omega
      · have := (hB i hi).1; omega
end Go.Proofs.Ytloandcndnmkhaa
