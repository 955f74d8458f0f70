import Derived.Test.YtajdijjecojdhaaDoorWOC
namespace Go.Proofs.YtajdijjecojdhaaDoor
open Go.RowKit
theorem aidx_self {l : List Ag} {k : Nat} (hk : k < l.length) (hd : ∀ j, j < k → (agAt l j).name.toList ≠ (agAt l k).name.toList) : ∀ (d i : Nat), k - i = d → i ≤ k → aidxFrom l (agAt l k).name i = k
  | 0, i, hd', hi => by
    obtain rfl : i = k := by omega
    exact aidxFrom_yes hk rfl
  | d + 1, i, hd', hi => by
    rw [aidxFrom_no (by omega) (hd i (by omega))]
    exact aidx_self hk hd d (i + 1) (by omega) (by omega)
/-- Names that stand for places mean those places. -/
theorem like_back {lO : List Ag} {L : List Int} (hd : ∀ i j, i < j → j < lO.length → (agAt lO i).name.toList ≠ (agAt lO j).name.toList) (hL : ∀ k, k < L.length → 0 ≤ L[k]?.getD 0 ∧ L[k]?.getD 0 < (lO.length : Int) ∧ idxFrom (L.take k) (L[k]?.getD 0) 0 < 0) :
    ∀ (d i : Nat), L.length - i = d → i ≤ L.length → likeF lO (L.take i) ((L.drop i).map (fun k => (agAt lO k.toNat).name)) = .ok L
  | 0, i, hd', hi => by
    obtain rfl : i = L.length := by omega
    rw [List.drop_length, List.take_length]
    rfl
  | d + 1, i, hd', hi => by
    have hil : i < L.length := by omega
    obtain ⟨h1, h2, h3⟩ := hL i hil
    have ih := like_back hd hL d (i + 1) (by omega) (by omega)
    rw [List.getElem?_eq_getElem hil] at h1 h2 h3
    simp only [Option.getD_some] at h1 h2 h3
    obtain ⟨x, hx⟩ : ∃ x, x = L[i]'hil := ⟨_, rfl⟩
    rw [← hx] at h1 h2 h3
    have hxn : (x.toNat : Int) = x := Int.toNat_of_nonneg h1
    have ha : aidxFrom lO (agAt lO x.toNat).name 0 = x := by
      rw [aidx_self (by omega) (fun j hj => hd j x.toNat hj (by omega)) _ 0 rfl (Nat.zero_le _)]
      exact hxn
    rw [List.take_succ_eq_append_getElem hil, ← hx] at ih
    rw [List.drop_eq_getElem_cons hil, ← hx, List.map_cons]
    simp only [likeF]
    rw [ha, if_neg (by omega), if_neg (by omega)]
    exact ih
theorem names_apart {lL lR : List Ag} (h : mayE lL lR = 0) : (∀ i j, i < j → j < lL.length → (agAt lL i).name.toList ≠ (agAt lL j).name.toList) ∧ (∀ i j, i < j → j < lR.length → (agAt lR i).name.toList ≠ (agAt lR j).name.toList) := by
  have key : ∀ i j, i < j → j < (lL ++ lR).length → (agAt (lL ++ lR) i).name.toList ≠ (agAt (lL ++ lR) j).name.toList := fun i j hij hj => by
    have h1 := (aidx_neg _ 0 rfl).1 (may_at h hj).2.1 i (Nat.zero_le _) (by simp at hj ⊢; omega)
    have e : agAt ((lL ++ lR).take j) i = agAt (lL ++ lR) i := by
      unfold agAt
      rw [List.getElem?_take, if_pos hij]
    rw [e] at h1
    exact h1
  refine ⟨fun i j hij hj => ?_, fun i j hij hj => ?_⟩
  · have := key i j hij (by simp; omega)
    rw [agAt_left lL lR (by omega), agAt_left lL lR hj] at this
    have e1 : agAt lL i = lL[i] := by unfold agAt; rw [List.getElem?_eq_getElem (by omega)]; rfl
    have e2 : agAt lL j = lL[j] := by unfold agAt; rw [List.getElem?_eq_getElem hj]; rfl
    rw [e1, e2]
    exact this
  · have := key (lL.length + i) (lL.length + j) (by omega) (by simp; omega)
    rw [agAt_right lL lR (by omega), agAt_right lL lR hj] at this
    have e1 : agAt lR i = lR[i] := by unfold agAt; rw [List.getElem?_eq_getElem (by omega)]; rfl
    have e2 : agAt lR j = lR[j] := by unfold agAt; rw [List.getElem?_eq_getElem hj]; rfl
    rw [e1, e2]
    exact this
theorem side_ents (lL lR : List Ag) : sideE true (entsP lL lR) = lL.map (entOf true lR) ∧ sideE false (entsP lL lR) = lR.map (entOf false lL) := by
  unfold entsP
  rw [side_app, side_app, side_map, side_map, side_map, side_map]
  simp
theorem ag_names (b : Bool) (others l : List Ag) : ((l.map (entOf b others)).map agE0).map (·.name) = l.map (·.name) := by
  rw [List.map_map, List.map_map]
  rfl
theorem set_gen (E : List Ent) : ∀ (post : List Ent) (Ls acc : List (List Int)), post.length = Ls.length → (∀ k (h : k < post.length) (h' : k < Ls.length), likeF ((sideE (!post[k].left) E).map agE0) [] post[k].likes = .ok Ls[k]) → setAll E acc post = .ok (acc ++ Ls)
  | [], [], acc, _, _ => by simp [setAll]
  | [], _ :: _, acc, h, _ => by simp at h
  | _ :: _, [], acc, h, _ => by simp at h
  | e :: post, L :: Ls, acc, hl, h => by
    have h0 := h 0 (by simp) (by simp)
    simp only [List.getElem_cons_zero] at h0
    rw [setAll_step, h0]
    simp only
    rw [set_gen E post Ls (acc ++ [L]) (by simpa using hl) (fun k hk hk' => by
      have q := h (k + 1) (by simpa using hk) (by simpa using hk')
      simp only [List.getElem_cons_succ] at q
      exact q)]
    simp
theorem set_ents {lL lR : List Ag} (h : mayE lL lR = 0) : setAll (entsP lL lR) [] (entsP lL lR) = .ok (lL.map (·.likes) ++ lR.map (·.likes)) := by
  obtain ⟨hdL, hdR⟩ := names_apart h
  obtain ⟨s1, s2⟩ := side_ents lL lR
  suffices key : ∀ k (hk : k < (entsP lL lR).length) (hk' : k < (lL.map (·.likes) ++ lR.map (·.likes)).length), likeF ((sideE (!(entsP lL lR)[k].left) (entsP lL lR)).map agE0) [] (entsP lL lR)[k].likes = .ok (lL.map (·.likes) ++ lR.map (·.likes))[k] by
    have := set_gen (entsP lL lR) (entsP lL lR) (lL.map (·.likes) ++ lR.map (·.likes)) [] (by simp [entsP]) key
    rw [this, List.nil_append]
  intro k hk hk'
  by_cases hkl : k < lL.length
  · have e : (entsP lL lR)[k] = entOf true lR lL[k] := by simp [entsP, List.getElem_append_left, hkl]
    have e2 : (lL.map (·.likes) ++ lR.map (·.likes))[k] = lL[k].likes := by simp [List.getElem_append_left, hkl]
    rw [e, e2]
    show likeF ((sideE false (entsP lL lR)).map agE0) [] (lL[k].likes.map (fun k => (agAt lR k.toNat).name)) = _
    rw [s2, likeF_names (ag_names false lL lR)]
    have := like_back hdR (likes_facts (ok_left h hkl).2) _ 0 rfl (Nat.zero_le _)
    simpa using this
  · have hkr : k - lL.length < lR.length := by rw [ents_len] at hk; omega
    have e : (entsP lL lR)[k] = entOf false lL lR[k - lL.length] := by
      have q : (entsP lL lR)[k]? = some (entOf false lL lR[k - lL.length]) := by
        unfold entsP
        rw [List.getElem?_append_right (by simp; omega), List.length_map, List.getElem?_map, List.getElem?_eq_getElem hkr]
        rfl
      rw [List.getElem?_eq_getElem hk] at q
      exact Option.some.inj q
    have e2 : (lL.map (·.likes) ++ lR.map (·.likes))[k] = lR[k - lL.length].likes := by
      have q : (lL.map (·.likes) ++ lR.map (·.likes))[k]? = some lR[k - lL.length].likes := by
        rw [List.getElem?_append_right (by simp; omega), List.length_map, List.getElem?_map, List.getElem?_eq_getElem hkr]
        rfl
      rw [List.getElem?_eq_getElem hk'] at q
      exact Option.some.inj q
    rw [e, e2]
    show likeF ((sideE true (entsP lL lR)).map agE0) [] (lR[k - lL.length].likes.map (fun k => (agAt lL k.toNat).name)) = _
    rw [s1, likeF_names (ag_names true lR lL)]
    have := like_back hdL (likes_facts (ok_right h hkr).2) _ 0 rfl (Nat.zero_le _)
    simpa using this
theorem fin_map (b c : Bool) (others l : List Ag) : (((l.map (entOf c others)).zip (l.map (·.likes))).filter (fun p => p.1.left == b)).map (fun p => (p.1.name.toList, p.1.room, p.2)) = if c = b then plainA l else [] := by
  induction l with
  | nil => simp [plainA]
  | cons g l ih =>
    simp only [List.map_cons, List.zip_cons_cons, List.filter_cons]
    by_cases h : c = b
    · have hc : ((entOf c others g).left == b) = true := by simpa [entOf] using h
      rw [if_pos h] at ih ⊢
      rw [if_pos hc, List.map_cons, ih]
      rfl
    · have hc : ¬ ((entOf c others g).left == b) = true := by simpa [entOf] using h
      rw [if_neg h] at ih ⊢
      rw [if_neg hc, ih]
theorem fin_ents (lL lR : List Ag) : finP true (entsP lL lR) (lL.map (·.likes) ++ lR.map (·.likes)) = plainA lL ∧ finP false (entsP lL lR) (lL.map (·.likes) ++ lR.map (·.likes)) = plainA lR := by
  unfold finP entsP
  rw [List.zip_append (by simp)]
  simp only [List.filter_append, List.map_append, fin_map]
  simp
/-- What is printed of a pairing that may be is read back. -/
theorem spec_back {lL lR : List Ag} (h : mayE lL lR = 0) : specP (mkB (textB lL lR)) = (0, plainA lL, plainA lR) := by
  unfold specP
  rw [textB_eq, read_text (fine_ents h)]
  simp only
  rw [set_ents h]
  simp only
  rw [(fin_ents lL lR).1, (fin_ents lL lR).2]
theorem nodup_len : ∀ (n : Nat) (l : List Nat), l.Nodup → (∀ x ∈ l, x < n) → l.length ≤ n
  | 0, l, _, h => by
    cases l with
    | nil => exact Nat.le_refl _
    | cons x l => exact absurd (h x (List.mem_cons_self ..)) (by omega)
  | n + 1, l, hd, h => by
    have h1 := nodup_len n (l.erase n) (hd.erase n) (fun x hx => by
      have h2 := (List.Nodup.mem_erase_iff hd).1 hx
      have := h x h2.2
      omega)
    by_cases e : n ∈ l
    · rw [List.length_erase_of_mem e] at h1; omega
    · rw [List.erase_of_not_mem e] at h1; omega
theorem likes_len6 {l : List Int} {n : Nat} (h : likesFrom l (n : Int) 0 = 0) : l.length ≤ n := by
  have hf := likes_facts h
  have hf' : ∀ k (hk : k < l.length), 0 ≤ l[k] ∧ l[k] < (n : Int) ∧ idxFrom (l.take k) l[k] 0 < 0 := fun k hk => by
    have := hf k hk
    rw [List.getElem?_eq_getElem hk] at this
    exact this
  have := nodup_len n (l.map Int.toNat) ?_ ?_
  · simpa using this
  · unfold List.Nodup
    rw [List.pairwise_iff_getElem]
    intro i j hi hj hij e
    simp only [List.length_map] at hi hj
    simp only [List.getElem_map] at e
    obtain ⟨a1, a2, a3⟩ := hf' i hi
    obtain ⟨b1, b2, b3⟩ := hf' j hj
    have e2 : l[i] = l[j] := by omega
    rcases idxFrom_spec (l.take j) l[j] _ 0 rfl with ⟨q1, q2⟩ | ⟨m, _, _, _, q4, _⟩
    · refine q2 i (Nat.zero_le _) (by simp; omega) ?_
      rw [List.getElem?_take, if_pos hij, List.getElem?_eq_getElem hi]
      exact e2
    · omega
  · intro x hx
    obtain ⟨y, hy, rfl⟩ := List.mem_map.1 hx
    obtain ⟨k, hk, rfl⟩ := List.getElem_of_mem hy
    have := hf' k hk
    omega
theorem flat_le {α : Type} (f : α → List UInt8) (m : Nat) : ∀ (l : List α), (∀ x ∈ l, (f x).length ≤ m) → (l.flatMap f).length ≤ l.length * m
  | [], _ => by simp
  | x :: l, h => by
    have h1 := h x (by simp)
    have h2 := flat_le f m l (fun y hy => h y (by simp [hy]))
    rw [List.flatMap_cons, List.length_append, List.length_cons, Nat.add_mul]
    omega
theorem flat_ge {α : Type} (f : α → List UInt8) : ∀ (l : List α), (∀ x ∈ l, 1 ≤ (f x).length) → l.length ≤ (l.flatMap f).length
  | [], _ => by simp
  | x :: l, h => by
    have h1 := h x (by simp)
    have h2 := flat_ge f l (fun y hy => h y (by simp [hy]))
    rw [List.flatMap_cons, List.length_append, List.length_cons]
    omega
theorem nameB_len {x : ByteArray} (h : nameB x = true) : x.data.toList.length ≤ 12 := by
  have := nameB_size h
  have e : x.data.toList.length = x.size := by simp
  omega
theorem line_le {e : Ent} (h : okE e) (hl : e.likes.length ≤ 6) : (lineE e ++ [10]).length ≤ 130 := by
  obtain ⟨h1, h2, h3, h4⟩ := h
  have hw : (wordOf e.left).length ≤ 5 := by cases e.left <;> decide
  have hn := nameB_len h1
  have hr : ((roomWs e.room).flatMap (fun x => 32 :: x)).length ≤ 2 := by
    rcases room_cases h2 h3 with q | q | q | q <;> rw [q]
    · decide
    · have : roomWs 2 = [[50]] := by kernel_rfl
      rw [this]; decide
    · have : roomWs 3 = [[51]] := by kernel_rfl
      rw [this]; decide
    · have : roomWs 4 = [[52]] := by kernel_rfl
      rw [this]; decide
  have hk := flat_le (fun x => 32 :: x) 13 (e.likes.map (fun x : ByteArray => x.data.toList)) (fun x hx => by
    obtain ⟨y, hy, rfl⟩ := List.mem_map.1 hx
    have := nameB_len (h4 y hy)
    simp only [List.length_cons]
    omega)
  rw [List.length_map] at hk
  unfold lineE wsE
  rw [List.flatMap_cons, List.flatMap_append, List.flatMap_cons]
  simp only [List.length_append, List.length_cons, List.length_nil]
  omega
theorem text_size {lL lR : List Ag} (h : mayE lL lR = 0) : (textB lL lR).length ≤ 3000 ∧ lL.length + lR.length ≤ (textB lL lR).length := by
  have hz := may_zero h
  rw [textB_eq]
  have hlen := ents_len lL lR
  refine ⟨?_, ?_⟩
  · have := flat_le (fun e => lineE e ++ [10]) 130 (entsP lL lR) (fun e he => by
      refine line_le ((fine_ents h).ok e he) ?_
      unfold entsP at he
      rcases List.mem_append.1 he with q | q
      · obtain ⟨g, hg, rfl⟩ := List.mem_map.1 q
        obtain ⟨k, hk, rfl⟩ := List.getElem_of_mem hg
        have := likes_len6 (ok_left h hk).2
        simp only [entOf, List.length_map]
        omega
      · obtain ⟨g, hg, rfl⟩ := List.mem_map.1 q
        obtain ⟨k, hk, rfl⟩ := List.getElem_of_mem hg
        have := likes_len6 (ok_right h hk).2
        simp only [entOf, List.length_map]
        omega)
    omega
  · have := flat_ge (fun e => lineE e ++ [10]) (entsP lL lR) (fun e he => by simp)
    omega
end Go.Proofs.YtajdijjecojdhaaDoor
