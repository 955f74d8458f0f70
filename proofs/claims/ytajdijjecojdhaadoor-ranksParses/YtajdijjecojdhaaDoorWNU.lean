import Derived.Test.YtajdijjecojdhaaDoorWNR
import Derived.Test.YtajdijjecojdhaaDoorWNP
namespace Go.Proofs.YtajdijjecojdhaaDoor
open Go.RowKit
/-- A side that was read, as it lies. -/
structure Sd where
  e : Ent
  wa : Option Addr
  wn : Nat
  wc : Nat
def sdF (x : Sd) : List Value := [.bool x.e.left, .string x.e.name, .int .i64 x.e.room, .slice none 0 0, .slice x.wa x.wn x.wc]
def sdFlat (l : List Sd) : List Value := l.flatMap sdF
theorem sdFlat_length (l : List Sd) : (sdFlat l).length = l.length * 5 := by
  induction l with
  | nil => rfl
  | cons g l ih => simp [sdFlat, sdF] at ih ⊢; omega
theorem sdFlat_snoc (l : List Sd) (x : Sd) : sdFlat (l ++ [x]) = sdFlat l ++ sdF x := by simp [sdFlat]
theorem info69 : (Tryd.prog.info? 69).map (fun i => (i.zero, i.size, i.bytes)) = some (some (.agg #[.bool false, .string ByteArray.empty, .int .i64 0, .slice none 0 0, .slice none 0 0]), 5, 80) := by kernel_rfl
theorem info27' : (Tryd.prog.info? 27).map (fun i => (i.zero, i.size, i.bytes)) = some (some (.agg #[.string ByteArray.empty, .int .i64 0, .slice none 0 0]), 3, 48) := by kernel_rfl
def RowS (lo : Nat) (w : World) (v : Value) (n : Nat) (L : List Sd) : Prop := w.ownsRow lo 69 5 v n (sdFlat L) ∧ ∀ x ∈ L, In9 w x.wa x.wn x.wc x.e.likes
theorem RowS.later {lo : Nat} {w w' : World} {v : Value} {n : Nat} {L : List Sd} (h : RowS lo w v n L) (hb : Below w.heap.size w w') : RowS lo w' v n L := ⟨owns_later h.1 hb, fun x hx => (h.2 x hx).later hb⟩
theorem sd_key : ∀ (l : List Sd) (q : Nat) (x : Sd), l[q]? = some x → ∀ (j : Nat) (u : Value), (sdF x)[j]? = some u → (sdFlat l)[q * 5 + j]? = some u := by
  intro l
  induction l with
  | nil => intro q x hx; simp at hx
  | cons y l ih =>
    intro q x hx j u hu
    have e : sdFlat (y :: l) = sdF y ++ sdFlat l := by simp [sdFlat]
    have hj : j < 5 := by
      have := (List.getElem?_eq_some_iff.1 hu).1
      simpa [sdF] using this
    rw [e]
    cases q with
    | zero =>
      simp at hx
      subst hx
      rw [List.getElem?_append_left (by simp [sdF]; omega)]
      simpa using hu
    | succ q =>
      rw [List.getElem?_append_right (by simp [sdF]; omega), show (q + 1) * 5 + j - (sdF y).length = q * 5 + j by simp [sdF]; omega]
      exact ih q x (by simpa using hx) j u hu
theorem sd_cells {lo : Nat} {w : World} {a : Option Addr} {n cap : Nat} {L : List Sd} (h : RowS lo w (.slice a n cap) n L) {q : Nat} {x : Sd} (hx : L[q]? = some x) : ∃ g, a = some ⟨g, 0, none⟩ ∧ lo ≤ g ∧ TB w 69 g ∧ w.cell? ⟨g, q * 5, none⟩ = some (.bool x.e.left) ∧ w.cell? ⟨g, q * 5 + 1, none⟩ = some (.string x.e.name) ∧ w.cell? ⟨g, q * 5 + 2, none⟩ = some (.int .i64 x.e.room) ∧ w.cell? ⟨g, q * 5 + 3, none⟩ = some (.slice none 0 0) ∧ w.cell? ⟨g, q * 5 + 4, none⟩ = some (.slice x.wa x.wn x.wc) := by
  have hl : L.length = n := by have := h.1.1; rw [sdFlat_length] at this; omega
  have hq : q < L.length := (List.getElem?_eq_some_iff.1 hx).1
  obtain ⟨g, cap', e⟩ := own64_slice h.1 (by omega)
  injection e with e1 e2 e3
  subst e1
  have key := sd_key L q x hx
  refine ⟨g, rfl, (h.1.lt g rfl).1, own_tb h.1 rfl, ?_, ?_, ?_, ?_, ?_⟩
  · rw [h.1.cellAt (q * 5) (by omega)]; exact key 0 _ rfl
  · rw [h.1.cellAt (q * 5 + 1) (by omega)]; exact key 1 _ rfl
  · rw [h.1.cellAt (q * 5 + 2) (by omega)]; exact key 2 _ rfl
  · rw [h.1.cellAt (q * 5 + 3) (by omega)]; exact key 3 _ rfl
  · rw [h.1.cellAt (q * 5 + 4) (by omega)]; exact key 4 _ rfl
theorem RowS.sds {lo : Nat} {w : World} {a : Option Addr} {n cap : Nat} {L : List Sd} (h : RowS lo w (.slice a n cap) n L) : Sds w a n cap (L.map (·.e)) := by
  have hl : L.length = n := by have := h.1.1; rw [sdFlat_length] at this; omega
  refine ⟨by simp; omega, ?_⟩
  rcases Nat.eq_zero_or_pos n with h0 | h0
  · subst h0
    rcases h.1.2 with ⟨e, _⟩ | ⟨g, cap', cur, e, hb, hg, hn, hc, hz, ht⟩
    · cases e; exact ⟨Nat.le_refl _, Nat.zero_le _, .inl rfl⟩
    · cases e; exact ⟨hn, hc, .inl rfl⟩
  · have hcap : n ≤ cap ∧ cap ≤ maxLen := by
      rcases h.1.2 with ⟨e, _⟩ | ⟨g, cap', cur, e, hb, hg, hn, hc, hz, ht⟩
      · cases e; omega
      · cases e; exact ⟨hn, hc⟩
    refine ⟨hcap.1, hcap.2, .inr ?_⟩
    have h1 : L[0]? = some L[0] := List.getElem?_eq_getElem (by omega)
    obtain ⟨g, rfl, -, hT, -⟩ := sd_cells h h1
    refine ⟨g, 0, rfl, hT.lt, fun j hj => ?_⟩
    have hj' : j < L.length := by simpa using hj
    obtain ⟨g', e, -, -, c0, c1, -⟩ := sd_cells h (List.getElem?_eq_getElem hj')
    cases e
    rw [Nat.zero_add]
    simp only [List.getElem_map]
    exact ⟨c0, c1⟩
theorem take_nz {all : List Ent} {k : Int} : ∀ {ws : List ByteArray}, takeS all ws = .error k → k ≠ 0
  | [], h => by cases h; decide
  | [x], h => by
    simp only [takeS] at h
    split at h <;> (cases h; decide)
  | x0 :: x1 :: t, h => by
    have hr : ∀ k, roomP t = .error k → k ≠ 0 := by
      intro k hk
      cases t with
      | nil => cases hk
      | cons y t =>
        simp only [roomP] at hk
        split at hk
        · cases hk
        · split at hk
          · split at hk <;> (cases hk; try decide)
          · cases hk; decide
    have hl : ∀ t2 k, likesP t2 = .error k → k ≠ 0 := by
      intro t2 k hk
      cases t2 with
      | nil => cases hk; decide
      | cons y t =>
        simp only [likesP] at hk
        split at hk
        · split at hk <;> (cases hk; try decide)
        · cases hk; decide
    simp only [takeS] at h
    split at h
    · split at h
      · split at h
        · cases h; decide
        · split at h
          · cases h; decide
          · split at h
            · rename_i k' hk; cases h; exact hr _ hk
            · split at h
              · rename_i k' hk; cases h; exact hl _ _ hk
              · cases h
      · cases h; decide
    · cases h; decide
theorem take_name {all : List Ent} {e : Ent} : ∀ {ws : List ByteArray}, takeS all ws = .ok e → e.name.size ≤ 12
  | [], h => by cases h
  | [x], h => by
    simp only [takeS] at h
    split at h <;> cases h
  | x0 :: x1 :: t, h => by
    simp only [takeS] at h
    split at h
    · split at h
      · rename_i hn
        split at h
        · cases h
        · split at h
          · cases h
          · split at h
            · cases h
            · split at h
              · cases h
              · cases h; exact name12 hn
      · cases h
    · cases h
theorem likeF_nz {lO : List Ag} {k : Int} : ∀ {ws : List ByteArray} {acc : List Int}, likeF lO acc ws = .error k → k = 5 ∨ k = 6
  | [], acc, h => by cases h
  | x :: t, acc, h => by
    simp only [likeF] at h
    split at h
    · cases h; exact .inl rfl
    · split at h
      · cases h; exact .inr rfl
      · exact likeF_nz h
theorem In9.strs {w : World} {a : Option Addr} {n c : Nat} {l : List ByteArray} (h : In9 w a n c l) (hn : n ≤ 1000000) : Strs w a n l := by
  obtain ⟨h1, -, -, -, h5⟩ := h.1
  refine ⟨h1, hn, ?_⟩
  rcases h5 with h5 | ⟨b, off, e, -, hc⟩
  · exact .inl h5
  · exact .inr ⟨b, off, e, hc⟩
/-- The agents of a side that are settled. -/
def sidP (b : Bool) (pre : List Ent) (T : List Tr) : List Ag := ((pre.zip T).filter (fun p => p.1.left == b)).map agT
theorem sidP_len (b : Bool) (pre : List Ent) (T : List Tr) (h : T.length = pre.length) : (sidP b pre T).length = (sideE b pre).length := by
  unfold sidP
  rw [List.length_map]
  exact zip_len b pre T h
theorem sidP_all (b : Bool) (all : List Ent) (T : List Tr) (h : T.length = all.length) : sidP b all T = sidT b all T := by
  unfold sidP sidT
  rw [h, Nat.sub_self, List.replicate_zero, List.append_nil]
theorem sidP_same (b : Bool) (pre : List Ent) (T : List Tr) (e : Ent) (t : Tr) (h : T.length = pre.length) (he : e.left = b) : sidP b (pre ++ [e]) (T ++ [t]) = sidP b pre T ++ [agT (e, t)] := by
  unfold sidP
  rw [List.zip_append h.symm]
  simp [he]
theorem sidP_other (b : Bool) (pre : List Ent) (T : List Tr) (e : Ent) (t : Tr) (h : T.length = pre.length) (he : e.left ≠ b) : sidP b (pre ++ [e]) (T ++ [t]) = sidP b pre T := by
  unfold sidP
  rw [List.zip_append h.symm]
  simp [he]
theorem new_cells {w : World} {cs : Array Value} {ty : TypeId} {g : Nat} (hg : g = w.heap.size) : ∀ (q : Nat) (u : Value), cs.toList[q]? = some u → (w.alloc (.cells cs ty)).cell? ((⟨g, 0, none⟩ : Addr).add q) = some u := fun q u hu => by
  subst hg
  have : (⟨w.heap.size, 0, none⟩ : Addr).add q = ⟨w.heap.size, q, none⟩ := by unfold Addr.add; split <;> simp_all
  rw [this, (cell_in' (heap_alloc_new w (.cells cs ty)) q).1]
  simpa using hu
theorem rowS_next {lo : Nat} {w6 wB w8 : World} {v v2 : Value} {n : Nat} {L : List Sd} {x : Sd} (hR : RowS lo w6 v n L) (hI : In9 w6 x.wa x.wn x.wc x.e.likes) (hb : Below w6.heap.size w6 wB) (hg : wB.grownBy w8 v.ownBlock) (ho : w8.ownsRow lo 69 5 v2 (n + 1) (sdFlat L ++ sdF x)) : RowS lo w8 v2 (n + 1) (L ++ [x]) := by
  have hO := owns_later hR.1 hb
  refine ⟨by rw [sdFlat_snoc]; exact ho, fun y hy => ?_⟩
  rcases List.mem_append.1 hy with q | q
  · exact ((hR.2 y q).later hb).kept hO (by decide) hg
  · rw [List.mem_singleton] at q
    subst q
    exact (hI.later hb).kept hO (by decide) hg
theorem bound_next {E : List Ent} {en : Ent} (h1 : (sideE true E).length ≤ 6) (h2 : (sideE false E).length ≤ 6) (o1 : (sideE en.left E).length < 6) : (sideE true (E ++ [en])).length ≤ 6 ∧ (sideE false (E ++ [en])).length ≤ 6 := by
  refine ⟨?_, ?_⟩
  · cases hel : en.left with
    | true => rw [sideE_same true E en hel]; rw [hel] at o1; simp; omega
    | false => rw [sideE_other true E en (by rw [hel]; simp)]; exact h1
  · cases hel : en.left with
    | true => rw [sideE_other false E en (by rw [hel]; simp)]; exact h2
    | false => rw [sideE_same false E en hel]; rw [hel] at o1; simp; omega
theorem over2 {wr : World} {g : Nat} {x0 x1 y0 y1 : Value} {t : TypeId} (h : wr.heap[g]? = some (.cells #[x0, x1] t (0, 0))) :
    ((wr.setCell ⟨g, 0, none⟩ y0).setCell ⟨g, 1, none⟩ y1).heap[g]? = some (.cells #[y0, y1] t (0, 0)) := by
  rw [heap_setCell_same _ _ _ _ _ _ (heap_setCell_same _ _ _ _ _ _ h)]; rfl
theorem below2 {w w' : World} {g : Nat} {y0 y1 : Value} (h : Below g w w') : Below g w ((w'.setCell ⟨g, 0, none⟩ y0).setCell ⟨g, 1, none⟩ y1) :=
  (h.setCell (p := ⟨g, 0, none⟩) (Nat.le_refl _) _).setCell (p := ⟨g, 1, none⟩) (Nat.le_refl _) _
theorem own_other {w w' : World} {base e sz n : Nat} {vA vB : Value} {xs : List Value} (h : w.ownsRow base e sz vB n xs) (hap : Ap vA vB) (hg : w.grownBy w' vA.ownBlock) : w'.ownsRow base e sz vB n xs :=
  own_frame h (fun b hb => hg.block b (h.lt b hb).2 (fun q => by
    rcases hap with p | p
    · rw [p] at hb; cases hb
    · rw [hb] at p; exact p q))
theorem names_next (b : Bool) (E : List Ent) (en : Ent) {w : World} {B : Nat} {v : Value} (he : en.left = b) (h : w.ownsRow B 9 1 v ((sideE b E).length + 1) (((sideE b E).map (·.name)).map Value.string ++ [.string en.name])) : w.ownsRow B 9 1 v (sideE b (E ++ [en])).length (((sideE b (E ++ [en])).map (·.name)).map Value.string) := by
  rw [sideE_same b E en he]
  simpa using h
theorem In3.later {w w' : World} {a : Option Addr} {n c : Nat} {l : List Int} (h : In3 w a n c l) (hb : Below w.heap.size w w') : In3 w' a n c l := h.block hb.size (fun b ht => hb.block b ht.lt)
theorem In3.kept {w w' : World} {a : Option Addr} {n c : Nat} {l : List Int} {e' : TypeId} {base sz k : Nat} {v : Value} {xs : List Value} (h : In3 w a n c l) (ho : w.ownsRow base e' sz v k xs) (hn : 3 ≠ e') (hg : w.grownBy w' v.ownBlock) : In3 w' a n c l := h.block hg.size (fun _ ht => ht.kept ho hn hg)
theorem In3.set {w : World} {a : Option Addr} {n c : Nat} {l : List Int} {g o : Nat} {u : Value} {e' : TypeId} (h : In3 w a n c l) (hg : TB w e' g) (hn : 3 ≠ e') : In3 (w.setCell ⟨g, o, none⟩ u) a n c l := h.block (by simp) (fun b ht => Below.heap_setCell _ _ _ _ (by show b ≠ g; exact ht.ne hg hn))
end Go.Proofs.YtajdijjecojdhaaDoor
