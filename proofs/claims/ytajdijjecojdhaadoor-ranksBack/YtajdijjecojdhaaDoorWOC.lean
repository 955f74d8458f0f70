import Derived.Test.YtajdijjecojdhaaDoorWOB
import Derived.Test.YtajdijjecojdhaaDoorWL
import Derived.Test.YtajdijjecojdhaaDoorWNP
namespace Go.Proofs.YtajdijjecojdhaaDoor
open Go.RowKit
def entOf (b : Bool) (others : List Ag) (g : Ag) : Ent := ⟨b, g.name, g.room, g.likes.map (fun k => (agAt others k.toNat).name)⟩
theorem lineB_eq (b : Bool) (others : List Ag) (g : Ag) : lineB (wordOf b) others g = lineE (entOf b others g) ++ [10] := by
  unfold lineB lineE wsE entOf roomB roomWs likesB
  simp only
  by_cases h : g.room = 1
  · simp [h, List.flatMap_map]
  · simp [h, List.flatMap_map]
def entsP (lL lR : List Ag) : List Ent := lL.map (entOf true lR) ++ lR.map (entOf false lL)
theorem textB_eq (lL lR : List Ag) : textB lL lR = (entsP lL lR).flatMap (fun e => lineE e ++ [10]) := by
  unfold textB sideB entsP
  rw [List.flatMap_append, List.flatMap_map, List.flatMap_map]
  congr 1
  · congr 1; funext g; exact lineB_eq true lR g
  · congr 1; funext g; exact lineB_eq false lL g
theorem ents_names (lL lR : List Ag) : (entsP lL lR).map (·.name) = (lL ++ lR).map (·.name) := by
  unfold entsP
  rw [List.map_append, List.map_append, List.map_map, List.map_map]
  rfl
theorem ents_len (lL lR : List Ag) : (entsP lL lR).length = lL.length + lR.length := by simp [entsP]
theorem side_map (b c : Bool) (others l : List Ag) : sideE b (l.map (entOf c others)) = if c = b then l.map (entOf c others) else [] := by
  unfold sideE
  by_cases h : c = b
  · rw [if_pos h, List.filter_eq_self]
    intro e he
    obtain ⟨g, _, rfl⟩ := List.mem_map.1 he
    simpa [entOf] using h
  · rw [if_neg h, List.filter_eq_nil_iff]
    intro e he
    obtain ⟨g, _, rfl⟩ := List.mem_map.1 he
    simpa [entOf] using h
theorem side_app (b : Bool) (x y : List Ent) : sideE b (x ++ y) = sideE b x ++ sideE b y := by simp [sideE]
theorem hasN_names (E : List Ent) (x : ByteArray) : hasN E x = (E.map (·.name)).any (fun n => n.toList == x.toList) := by
  unfold hasN
  rw [List.any_map]
  rfl
theorem hasN_aidx {l : List Ag} {E : List Ent} {x : ByteArray} (hn : E.map (·.name) = l.map (·.name)) (h : aidxFrom l x 0 < 0) : hasN E x = false := by
  rw [hasN_names, hn, List.any_map, List.any_eq_false]
  intro g hg
  obtain ⟨j, hj, rfl⟩ := List.getElem_of_mem hg
  have := (aidx_neg _ 0 rfl).1 h j (Nat.zero_le _) hj
  have e : agAt l j = l[j] := by unfold agAt; rw [List.getElem?_eq_getElem hj]; rfl
  rw [e] at this
  simpa using this
theorem may_at {lL lR : List Ag} (h : mayE lL lR = 0) {k : Nat} (hk : k < (lL ++ lR).length) : nameB (agAt (lL ++ lR) k).name = true ∧ aidxFrom ((lL ++ lR).take k) (agAt (lL ++ lR) k).name 0 < 0 ∧ 1 ≤ (agAt (lL ++ lR) k).room ∧ (agAt (lL ++ lR) k).room ≤ 4 ∧ likesFrom (agAt (lL ++ lR) k).likes (if k < lL.length then (lR.length : Int) else lL.length) 0 = 0 :=
  agE_zero (mayFrom_zero _ _ _ _ 0 rfl (may_zero h).2.2 k (Nat.zero_le _) hk)
theorem may_name {lL lR : List Ag} (h : mayE lL lR = 0) {g : Ag} (hg : g ∈ lL ++ lR) : nameB g.name = true := by
  obtain ⟨k, hk, rfl⟩ := List.getElem_of_mem hg
  have := (may_at h hk).1
  have e : agAt (lL ++ lR) k = (lL ++ lR)[k] := by unfold agAt; rw [List.getElem?_eq_getElem hk]; rfl
  rw [e] at this
  exact this
/-- What one that may be likes: within the other side, none twice. -/
theorem likes_facts {l : List Int} {o : Int} (h : likesFrom l o 0 = 0) : ∀ k, k < l.length → 0 ≤ l[k]?.getD 0 ∧ l[k]?.getD 0 < o ∧ idxFrom (l.take k) (l[k]?.getD 0) 0 < 0 := by
  have key : ∀ d k, l.length - k = d → likesFrom l o k = 0 → ∀ i, k ≤ i → i < l.length → 0 ≤ l[i]?.getD 0 ∧ l[i]?.getD 0 < o ∧ idxFrom (l.take i) (l[i]?.getD 0) 0 < 0 := by
    intro d
    induction d with
    | zero => intro k hk _ i h1 h2; omega
    | succ d ih =>
      intro k hk h i h1 h2
      rw [likesFrom_step (by omega)] at h
      split at h
      · omega
      · rename_i hc
        split at h
        · omega
        · rename_i hd
          by_cases e : i = k
          · subst e
            exact ⟨by omega, by omega, by omega⟩
          · exact ih (k + 1) (by omega) h i (by omega) h2
  exact fun k hk => key _ 0 rfl h k (Nat.zero_le _) hk
theorem ok_left {lL lR : List Ag} (h : mayE lL lR = 0) {k : Nat} (hk : k < lL.length) : okE (entOf true lR lL[k]) ∧ likesFrom lL[k].likes (lR.length : Int) 0 = 0 := by
  obtain ⟨h1, _, h3, h4, h5⟩ := may_at h (k := k) (by simp; omega)
  rw [agAt_left lL lR hk] at h1 h3 h4 h5
  rw [if_pos hk] at h5
  refine ⟨⟨h1, h3, h4, fun x hx => ?_⟩, h5⟩
  obtain ⟨i, hi, rfl⟩ := List.mem_map.1 hx
  obtain ⟨j, hj, rfl⟩ := List.getElem_of_mem hi
  have hf := likes_facts h5 j hj
  rw [List.getElem?_eq_getElem hj] at hf
  simp only [Option.getD_some] at hf
  exact may_name h (List.mem_append_right _ (agAt_mem (by omega)))
theorem ok_right {lL lR : List Ag} (h : mayE lL lR = 0) {k : Nat} (hk : k < lR.length) : okE (entOf false lL lR[k]) ∧ likesFrom lR[k].likes (lL.length : Int) 0 = 0 := by
  obtain ⟨h1, _, h3, h4, h5⟩ := may_at h (k := lL.length + k) (by simp; omega)
  rw [agAt_right lL lR hk] at h1 h3 h4 h5
  rw [if_neg (by omega)] at h5
  refine ⟨⟨h1, h3, h4, fun x hx => ?_⟩, h5⟩
  obtain ⟨i, hi, rfl⟩ := List.mem_map.1 hx
  obtain ⟨j, hj, rfl⟩ := List.getElem_of_mem hi
  have hf := likes_facts h5 j hj
  rw [List.getElem?_eq_getElem hj] at hf
  simp only [Option.getD_some] at hf
  exact may_name h (List.mem_append_left _ (agAt_mem (by omega)))
/-- The lines of a pairing that may be can be read. -/
theorem fine_ents {lL lR : List Ag} (h : mayE lL lR = 0) : Fine [] (entsP lL lR) := by
  intro k hk
  have hz := may_zero h
  have hk' : k < (lL ++ lR).length := by rw [ents_len] at hk; simpa using hk
  have hnm : (entsP lL lR)[k].name = (agAt (lL ++ lR) k).name := by
    have := congrArg (fun l => l[k]?) (ents_names lL lR)
    simp only [List.getElem?_map, List.getElem?_eq_getElem hk, List.getElem?_eq_getElem hk', Option.map_some] at this
    have e : agAt (lL ++ lR) k = (lL ++ lR)[k] := by unfold agAt; rw [List.getElem?_eq_getElem hk']; rfl
    rw [e]
    exact Option.some.inj this
  have hN : hasN ([] ++ (entsP lL lR).take k) (entsP lL lR)[k].name = false := by
    rw [List.nil_append, hnm]
    refine hasN_aidx (l := (lL ++ lR).take k) ?_ (may_at h hk').2.1
    rw [List.map_take, ents_names, ← List.map_take]
  rw [List.nil_append] at hN ⊢
  by_cases hkl : k < lL.length
  · have e : (entsP lL lR)[k] = entOf true lR lL[k] := by simp [entsP, List.getElem_append_left, hkl]
    refine ⟨by rw [e]; exact (ok_left h hkl).1, hN, ?_⟩
    rw [e]
    show (sideE true _).length < 6
    unfold entsP
    rw [List.take_append_of_le_length (by simp; omega), ← List.map_take, side_map, if_pos rfl]
    simp
    omega
  · have hkr : k - lL.length < lR.length := by simp at hk'; omega
    have e : (entsP lL lR)[k] = entOf false lL lR[k - lL.length] := by
      have q : (entsP lL lR)[k]? = some (entOf false lL lR[k - lL.length]) := by
        unfold entsP
        rw [List.getElem?_append_right (by simp; omega), List.length_map, List.getElem?_map, List.getElem?_eq_getElem hkr]
        rfl
      rw [List.getElem?_eq_getElem hk] at q
      exact Option.some.inj q
    refine ⟨by rw [e]; exact (ok_right h hkr).1, hN, ?_⟩
    rw [e]
    show (sideE false _).length < 6
    unfold entsP
    rw [List.take_append, List.take_of_length_le (by simp; omega), side_app, side_map, if_neg (by simp), ← List.map_take, side_map, if_pos rfl]
    simp
    omega
end Go.Proofs.YtajdijjecojdhaaDoor
