import Derived.Test.YtajdijjecojdhaaDoorWND
import Derived.Test.YtajdijjecojdhaaDoorWMM
namespace Go.Proofs.YtajdijjecojdhaaDoor
open Go.RowKit
/-- What a line says. -/
structure Ent where
  left : Bool
  name : ByteArray
  room : Int
  likes : List ByteArray
def sideE (b : Bool) (all : List Ent) : List Ent := all.filter (fun e => e.left == b)
def agE0 (e : Ent) : Ag := ⟨e.name, e.room, none, 0, 0, []⟩
def sdN (b : Bool) : Nat := if b then 0 else 1
def lnS : List Ent → List Ent → List (Nat × Nat × List ByteArray)
  | _, [] => []
  | pre, e :: r => (sdN e.left, (sideE e.left pre).length, e.likes) :: lnS (pre ++ [e]) r
theorem lnS_snoc (e : Ent) : ∀ (l pre : List Ent), lnS pre (l ++ [e]) = lnS pre l ++ [(sdN e.left, (sideE e.left (pre ++ l)).length, e.likes)]
  | [], pre => by simp [lnS]
  | x :: l, pre => by
    show _ :: lnS (pre ++ [x]) (l ++ [e]) = _
    rw [lnS_snoc e l (pre ++ [x])]
    simp [lnS]
theorem sideE_same (b : Bool) (all : List Ent) (e : Ent) (h : e.left = b) : sideE b (all ++ [e]) = sideE b all ++ [e] := by simp [sideE, h]
theorem sideE_other (b : Bool) (all : List Ent) (e : Ent) (h : e.left ≠ b) : sideE b (all ++ [e]) = sideE b all := by simp [sideE, h]
def hasN (all : List Ent) (x : ByteArray) : Bool := all.any (fun e => e.name.toList == x.toList)
def isL (x : ByteArray) : Bool := x.toList == [108, 101, 102, 116]
def isR (x : ByteArray) : Bool := x.toList == [114, 105, 103, 104, 116]
/-- What a line adds, or why not. -/
def takeS (all : List Ent) : List ByteArray → Except Int Ent
  | [] => .error 3
  | [x0] => if isL x0 || isR x0 then .error 4 else .error 3
  | x0 :: x1 :: t => if isL x0 || isR x0 then (if nameB x1 then (if hasN all x1 then .error 6 else if 6 ≤ (sideE (isL x0) all).length then .error 2 else
      match roomP t with
      | .error k => .error k
      | .ok (r, t2) => match likesP t2 with
        | .error k => .error k
        | .ok t3 => .ok ⟨isL x0, x1, r, t3⟩) else .error 3) else .error 3
/-- How the reader lies. -/
def Rd (R : Nat) (w : World) (all : List Ent) : Prop := ∃ aL cL aR cR vN NL, w.heap[R]? = some (.cells #[.slice aL (sideE true all).length cL, .slice aR (sideE false all).length cR, vN] 58 (0, 0)) ∧
  w.ownsRow (R + 1) 27 3 (.slice aL (sideE true all).length cL) (sideE true all).length (flat ((sideE true all).map agE0)) ∧ w.ownsRow (R + 1) 27 3 (.slice aR (sideE false all).length cR) (sideE false all).length (flat ((sideE false all).map agE0)) ∧
  Ap (.slice aL (sideE true all).length cL) (.slice aR (sideE false all).length cR) ∧ RowN (R + 1) w vN all.length NL ∧ NL.map (fun x => (x.side, x.place, x.ws)) = lnS [] all ∧ ∀ e ∈ all, e.name.size ≤ 12
theorem aidx_neg {l : List Ag} {x : ByteArray} : ∀ (d k : Nat), l.length - k = d → (aidxFrom l x k < 0 ↔ ∀ j, k ≤ j → j < l.length → (agAt l j).name.toList ≠ x.toList)
  | 0, k, hd => by
    rw [aidxFrom_end (by omega)]
    exact ⟨fun _ j h1 h2 => (by omega), fun _ => by omega⟩
  | d + 1, k, hd => by
    have hk : k < l.length := by omega
    by_cases e : (agAt l k).name.toList = x.toList
    · rw [aidxFrom_yes hk e]
      exact ⟨fun h => (by omega), fun h => absurd e (h k (Nat.le_refl _) hk)⟩
    · rw [aidxFrom_no hk e, aidx_neg d (k + 1) (by omega)]
      refine ⟨fun h j h1 h2 => ?_, fun h j h1 h2 => h j (by omega) h2⟩
      by_cases q : j = k
      · subst q; exact e
      · exact h j (by omega) h2
theorem aidx_side {es : List Ent} {x : ByteArray} : aidxFrom (es.map agE0) x 0 < 0 ↔ es.any (fun e => e.name.toList == x.toList) = false := by
  rw [aidx_neg _ 0 rfl]
  constructor
  · intro h
    rw [List.any_eq_false]
    intro e he
    obtain ⟨j, hj, rfl⟩ := List.getElem_of_mem he
    have := h j (Nat.zero_le _) (by simpa using hj)
    have e2 : agAt (es.map agE0) j = agE0 es[j] := by unfold agAt; simp [hj]
    rw [e2] at this
    simpa [agE0] using this
  · intro h j _ hj
    have hj' : j < es.length := by simpa using hj
    have e2 : agAt (es.map agE0) j = agE0 es[j] := by unfold agAt; simp [hj']
    rw [e2]
    rw [List.any_eq_false] at h
    have := h es[j] (List.getElem_mem hj')
    simpa [agE0] using this
theorem hasN_sides {all : List Ent} {x : ByteArray} : hasN all x = ((sideE true all).any (fun e => e.name.toList == x.toList) || (sideE false all).any (fun e => e.name.toList == x.toList)) := by
  unfold hasN sideE
  rw [List.any_filter, List.any_filter]
  induction all with
  | nil => rfl
  | cons e l ih =>
    simp only [List.any_cons, ih]
    cases e.left <;> cases (e.name.toList == x.toList) <;> simp
    all_goals (first | rfl | (cases (l.any fun x_1 => x_1.left == true && x_1.name.toList == x.toList) <;> rfl) | skip)
theorem ags_side {R : Nat} {w : World} {a : Option Addr} {c : Nat} {es : List Ent} (h : w.ownsRow (R + 1) 27 3 (.slice a es.length c) es.length (flat (es.map agE0))) (hn : ∀ e ∈ es, e.name.size ≤ 12) : Ags w a es.length c (es.map agE0) := by
  obtain ⟨a', c', e, hA⟩ := Ags.of_owns h (fun g hg => by
    obtain ⟨x, hx, rfl⟩ := List.mem_map.1 hg
    refine ⟨⟨rfl, Nat.le_refl _, by show (0 : Nat) ≤ maxLen; omega, .inl rfl⟩, ?_⟩
    have := hn x hx
    unfold maxLen
    show x.name.size ≤ _
    omega)
  cases e
  exact hA
theorem side_mem {b : Bool} {all : List Ent} {e : Ent} (h : e ∈ sideE b all) : e ∈ all := (List.mem_filter.1 h).1
theorem name12 {x : ByteArray} (h : nameB x = true) : x.size ≤ 12 := by
  unfold nameB at h
  simp at h
  exact h.1.1.1.2
theorem take_any (R b off n c : Nat) (ws : List ByteArray) (all : List Ent) (w : World) (hRd : Rd R w all) (h : In9 w (some ⟨b, off, none⟩) n c ws) (hne : ∀ x ∈ ws, 0 < x.size ∧ x.size ≤ 281474976710656) (h0 : ws ≠ []) (hg : Glob w) (hal : all.length ≤ 1000) :
    Calls Tryd.prog 29 #[.pointer (some ⟨R, 0, none⟩), .slice (some ⟨b, off, none⟩) n c] w fun e w' => Below R w w' ∧ K9 w w' ∧ ((∃ k, takeS all ws = .error k ∧ e = .panicked [{ v := thrown k, recovered := false }]) ∨ (∃ en, takeS all ws = .ok en ∧ e = .returned (.tuple #[]) ∧ Rd R w' (all ++ [en]))) := by
  obtain ⟨aL, cL, aR, cR, vN, NL, hR, oL, oR, hap, hN, hNL, hnm⟩ := hRd
  have hRlt : R < w.heap.size := (Array.getElem?_eq_some_iff.1 hR).1
  have hAL := ags_side oL (fun e he => hnm e (side_mem he))
  have hAR := ags_side oR (fun e he => hnm e (side_mem he))
  have pan : ∀ k, takeS all ws = .error k → ∀ (e : Ending) (w' : World), e = .panicked [{ v := thrown k, recovered := false }] ∧ Below w.heap.size w w' → Below R w w' ∧ K9 w w' ∧ ((∃ k, takeS all ws = .error k ∧ e = .panicked [{ v := thrown k, recovered := false }]) ∨ (∃ en, takeS all ws = .ok en ∧ e = .returned (.tuple #[]) ∧ Rd R w' (all ++ [en]))) := fun k hk e w' q => ⟨q.2.mono (by omega), K9.of_below q.2, .inl ⟨k, hk, q.1⟩⟩
  have hnc := h.1.2.1
  have hnl := h.1.1
  rcases ws with _ | ⟨x0, _ | ⟨x1, t⟩⟩
  · exact absurd rfl h0
  ·
    simp at hnl
    subst hnl
    obtain ⟨c, rfl⟩ : ∃ d, c = d + 1 := ⟨c - 1, by omega⟩
    cases hl : isL x0 with
    | true => exact (take_short R b off c x0 w h.1 (.inl hl)).mono (pan 4 (by simp [takeS, hl]))
    | false =>
      cases hr : isR x0 with
      | true => exact (take_short R b off c x0 w h.1 (.inr hr)).mono (pan 4 (by simp [takeS, hr]))
      | false => exact (take_word R b off 0 c x0 [] w h.1 hl hr).mono (pan 3 (by simp [takeS, hl, hr]))
  ·
    obtain ⟨n, rfl⟩ : ∃ d, n = d + 2 := ⟨t.length, by simpa using hnl⟩
    obtain ⟨c, rfl⟩ : ∃ d, c = d + 2 := ⟨c - 2, by omega⟩
    have hneT : ∀ x ∈ t, 0 < x.size ∧ x.size ≤ 281474976710656 := fun x hx => hne x (by simp [hx])
    cases hl : isL x0 with
    | true =>
      have hr : isR x0 = false := by
        unfold isL at hl; unfold isR
        have := eq_of_beq hl
        rw [this]; rfl
      cases h1 : nameB x1 with
      | false => exact (take0_name R b off n c x0 x1 t aL _ cL aR _ cR vN w h.1 hl hr hR h1).mono (pan 3 (by simp [takeS, hl, h1]))
      | true =>
        by_cases g1 : aidxFrom ((sideE true all).map agE0) x1 0 < 0
        · by_cases g2 : aidxFrom ((sideE false all).map agE0) x1 0 < 0
          · have hh : hasN all x1 = false := by rw [hasN_sides, aidx_side.1 g1, aidx_side.1 g2]; rfl
            by_cases g3 : (sideE true all).length < 6
            · have g3' : ¬ 6 ≤ (sideE true all).length := by omega
              cases hroom : roomP t with
              | error k => exact (take0_room R b off n c x0 x1 t aL _ cL _ aR _ cR _ vN w h.1 hneT hg hl hr hR hAL hAR h1 g1 g2 g3 k hroom).mono (pan k (by simp [takeS, hl, h1, hh, g3', hroom]))
              | ok rt =>
                obtain ⟨r, t2⟩ := rt
                cases hlikes : likesP t2 with
                | error k => exact (take0_likes R b off n c x0 x1 t aL _ cL _ aR _ cR _ vN w h.1 hneT hg hl hr hR hAL hAR h1 g1 g2 g3 r k t2 hroom hlikes).mono (pan k (by simp [takeS, hl, h1, hh, g3', hroom, hlikes]))
                | ok t3 =>
                  refine (take0_good R b off n c x0 x1 t aL _ cL _ aR _ cR _ vN _ NL w h hneT hg hl hr h1 hR hAL hAR g1 g2 g3 oL oR hap hN (by omega) r t2 t3 hroom hlikes).mono ?_
                  rintro e w' ⟨rfl, hb, hk9, vS, vM, a4, n4, c4, q1, q2, q3, q4, q5⟩
                  obtain ⟨gS, cS, rfl⟩ := own64_slice q2 (Nat.succ_pos _)
                  refine ⟨hb, hk9, .inr ⟨⟨true, x1, r, t3⟩, by simp [takeS, hl, h1, hh, g3', hroom, hlikes], rfl, ?_⟩⟩
                  have s1 : sideE true (all ++ [⟨true, x1, r, t3⟩]) = sideE true all ++ [⟨true, x1, r, t3⟩] := sideE_same true all _ rfl
                  have s2 : sideE false (all ++ [⟨true, x1, r, t3⟩]) = sideE false all := sideE_other false all _ (by simp)
                  unfold Rd
                  rw [s1, s2, lnS_snoc]
                  simp only [List.length_append, List.length_singleton, List.map_append, List.map_cons, List.map_nil, List.nil_append]
                  refine ⟨_, cS, aR, cR, vM, NL ++ [⟨0, (sideE true all).length, a4, n4, c4, t3⟩], q1, q2, q3, q4, q5, by rw [List.map_append, hNL]; rfl, fun e he => ?_⟩
                  rcases List.mem_append.1 he with he | he
                  · exact hnm e he
                  · rw [List.mem_singleton] at he; subst he; exact name12 h1
            · exact (take0_full R b off n c x0 x1 t aL _ cL _ aR _ cR _ vN w h.1 hl hr hR hAL hAR h1 g1 g2 g3).mono (pan 2 (by simp [takeS, hl, h1, hh, show 6 ≤ (sideE true all).length by omega]))
          · exact (take0_right R b off n c x0 x1 t aL _ cL _ aR _ cR _ vN w h.1 hl hr hR hAL hAR h1 g1 g2).mono (pan 6 (by
              have q : (sideE false all).any (fun e => e.name.toList == x1.toList) = true := by
                cases q : (sideE false all).any (fun e => e.name.toList == x1.toList) with
                | true => rfl
                | false => exact absurd (aidx_side.2 q) g2
              simp [takeS, hl, h1, hasN_sides, q]))
        · exact (take0_left R b off n c x0 x1 t aL _ cL _ aR _ cR vN w h.1 hl hr hR hAL h1 g1).mono (pan 6 (by
            have q : (sideE true all).any (fun e => e.name.toList == x1.toList) = true := by
              cases q : (sideE true all).any (fun e => e.name.toList == x1.toList) with
              | true => rfl
              | false => exact absurd (aidx_side.2 q) g1
            simp [takeS, hl, h1, hasN_sides, q]))
    | false =>
      cases hr : isR x0 with
      | false => exact (take_word R b off (n + 1) (c + 1) x0 (x1 :: t) w h.1 hl hr).mono (pan 3 (by simp [takeS, hl, hr]))
      | true =>
        cases h1 : nameB x1 with
        | false => exact (take1_name R b off n c x0 x1 t aL _ cL aR _ cR vN w h.1 hl hr hR h1).mono (pan 3 (by simp [takeS, hl, hr, h1]))
        | true =>
          by_cases g1 : aidxFrom ((sideE true all).map agE0) x1 0 < 0
          · by_cases g2 : aidxFrom ((sideE false all).map agE0) x1 0 < 0
            · have hh : hasN all x1 = false := by rw [hasN_sides, aidx_side.1 g1, aidx_side.1 g2]; rfl
              by_cases g3 : (sideE false all).length < 6
              · have g3' : ¬ 6 ≤ (sideE false all).length := by omega
                cases hroom : roomP t with
                | error k => exact (take1_room R b off n c x0 x1 t aL _ cL _ aR _ cR _ vN w h.1 hneT hg hl hr hR hAL hAR h1 g1 g2 g3 k hroom).mono (pan k (by simp [takeS, hl, hr, h1, hh, g3', hroom]))
                | ok rt =>
                  obtain ⟨r, t2⟩ := rt
                  cases hlikes : likesP t2 with
                  | error k => exact (take1_likes R b off n c x0 x1 t aL _ cL _ aR _ cR _ vN w h.1 hneT hg hl hr hR hAL hAR h1 g1 g2 g3 r k t2 hroom hlikes).mono (pan k (by simp [takeS, hl, hr, h1, hh, g3', hroom, hlikes]))
                  | ok t3 =>
                    refine (take1_good R b off n c x0 x1 t aL _ cL _ aR _ cR _ vN _ NL w h hneT hg hl hr h1 hR hAL hAR g1 g2 g3 oL oR hap hN (by omega) r t2 t3 hroom hlikes).mono ?_
                    rintro e w' ⟨rfl, hb, hk9, vS, vM, a4, n4, c4, q1, q2, q3, q4, q5⟩
                    obtain ⟨gS, cS, rfl⟩ := own64_slice q2 (Nat.succ_pos _)
                    refine ⟨hb, hk9, .inr ⟨⟨false, x1, r, t3⟩, by simp [takeS, hl, hr, h1, hh, g3', hroom, hlikes], rfl, ?_⟩⟩
                    have s1 : sideE false (all ++ [⟨false, x1, r, t3⟩]) = sideE false all ++ [⟨false, x1, r, t3⟩] := sideE_same false all _ rfl
                    have s2 : sideE true (all ++ [⟨false, x1, r, t3⟩]) = sideE true all := sideE_other true all _ (by simp)
                    unfold Rd
                    rw [s1, s2, lnS_snoc]
                    simp only [List.length_append, List.length_singleton, List.map_append, List.map_cons, List.map_nil, List.nil_append]
                    refine ⟨aL, cL, _, cS, vM, NL ++ [⟨1, (sideE false all).length, a4, n4, c4, t3⟩], q1, q3, q2, q4.sym, q5, by rw [List.map_append, hNL]; rfl, fun e he => ?_⟩
                    rcases List.mem_append.1 he with he | he
                    · exact hnm e he
                    · rw [List.mem_singleton] at he; subst he; exact name12 h1
              · exact (take1_full R b off n c x0 x1 t aL _ cL _ aR _ cR _ vN w h.1 hl hr hR hAL hAR h1 g1 g2 g3).mono (pan 2 (by simp [takeS, hl, hr, h1, hh, show 6 ≤ (sideE false all).length by omega]))
            · exact (take1_right R b off n c x0 x1 t aL _ cL _ aR _ cR _ vN w h.1 hl hr hR hAL hAR h1 g1 g2).mono (pan 6 (by
                have q : (sideE false all).any (fun e => e.name.toList == x1.toList) = true := by
                  cases q : (sideE false all).any (fun e => e.name.toList == x1.toList) with
                  | true => rfl
                  | false => exact absurd (aidx_side.2 q) g2
                simp [takeS, hl, hr, h1, hasN_sides, q]))
          · exact (take1_left R b off n c x0 x1 t aL _ cL _ aR _ cR vN w h.1 hl hr hR hAL h1 g1).mono (pan 6 (by
              have q : (sideE true all).any (fun e => e.name.toList == x1.toList) = true := by
                cases q : (sideE true all).any (fun e => e.name.toList == x1.toList) with
                | true => rfl
                | false => exact absurd (aidx_side.2 q) g1
              simp [takeS, hl, hr, h1, hasN_sides, q]))
end Go.Proofs.YtajdijjecojdhaaDoor
