import Derived.Test.YtajdijjecojdhaaDoorWG6
import Derived.Test.YtajdijjecojdhaaDoorWG7
namespace Go.Proofs.YtajdijjecojdhaaDoor
open Go.RowKit
theorem wof_all (s : ByteArray) : ∀ (f l k : Nat), s.size - k = f → k ≤ s.size → l ≤ k → (∀ x ∈ wofFrom s l k, 0 < x.size ∧ x.size ≤ s.size) ∧ (wofFrom s l k).length ≤ f + 1
  | 0, l, k, hf, hk, hl => by
    obtain rfl : k = s.size := by omega
    by_cases h : l < s.size
    · rw [wofFrom_last h]
      refine ⟨fun x hx => ?_, by simp⟩
      rw [List.mem_singleton] at hx
      subst hx
      simp
      omega
    · rw [wofFrom_none h]
      exact ⟨fun x hx => (by cases hx), by simp⟩
  | f + 1, l, k, hf, hk, hl => by
    have hk' : k < s.size := by omega
    cases e : blankB s[k] with
    | true =>
      obtain ⟨h1, h2⟩ := wof_all s f (k + 1) (k + 1) (by omega) (by omega) (Nat.le_refl _)
      by_cases h : l < k
      · rw [wofFrom_word hk' e h]
        refine ⟨fun x hx => ?_, by simp; omega⟩
        rcases List.mem_cons.1 hx with q | q
        · subst q
          simp
          omega
        · exact h1 x q
      · rw [wofFrom_blank hk' e h]
        exact ⟨h1, by omega⟩
    | false =>
      obtain ⟨h1, h2⟩ := wof_all s f l (k + 1) (by omega) (by omega) (by omega)
      rw [wofFrom_on hk' e]
      exact ⟨h1, by omega⟩
theorem cut_all (s : ByteArray) : ∀ (f l k : Nat), s.size - k = f → ∀ x ∈ cutFrom s l k, x.size ≤ s.size
  | 0, l, k, hf, x, hx => by
    rw [cutFrom_end (by omega), List.mem_singleton] at hx
    subst hx
    exact size_extract s _ _
  | f + 1, l, k, hf, x, hx => by
    have hk : k < s.size := by omega
    by_cases e : s[k].toNat = 10
    · rw [cutFrom_hit hk e] at hx
      rcases List.mem_cons.1 hx with q | q
      · subst q; exact size_extract s _ _
      · exact cut_all s f _ _ (by omega) x q
    · rw [cutFrom_miss hk e] at hx
      exact cut_all s f _ _ (by omega) x hx
theorem cutB_size {s x : ByteArray} (h : x ∈ cutB s) : x.size ≤ s.size := cut_all s _ _ _ rfl x h
theorem words_facts (s : ByteArray) : (∀ x ∈ wordsB s, 0 < x.size ∧ x.size ≤ s.size) ∧ (wordsB s).length ≤ s.size + 1 := by
  rw [wordsB_eq]
  exact wof_all s s.size 0 0 rfl (Nat.zero_le _) (Nat.le_refl _)
theorem likes_len : ∀ {l t : List ByteArray}, likesP l = .ok t → t.length ≤ l.length
  | [], t, h => by cases h
  | x :: l, t, h => by
    simp only [likesP] at h
    split at h
    · split at h
      · cases h; simp
      · cases h
    · cases h
theorem room_len : ∀ {l t : List ByteArray} {r : Int}, roomP l = .ok (r, t) → t.length ≤ l.length
  | [], t, r, h => by cases h; simp
  | x :: l, t, r, h => by
    simp only [roomP] at h
    split at h
    · cases h; simp
    · split at h
      · split at h
        · cases h; simp
        · cases h
      · cases h
theorem take_ok {all : List Ent} {e : Ent} : ∀ {ws : List ByteArray}, takeS all ws = .ok e → (sideE e.left all).length < 6 ∧ e.likes.length ≤ ws.length
  | [], h => by cases h
  | [x], h => by
    simp only [takeS] at h
    split at h <;> cases h
  | x0 :: x1 :: t, h => by
    simp only [takeS] at h
    split at h
    · split at h
      · split at h
        · cases h
        · split at h
          · cases h
          · rename_i h6
            split at h
            · cases h
            · rename_i r t2 hr
              split at h
              · cases h
              · rename_i t3 hl
                cases h
                have := room_len hr
                have := likes_len hl
                refine ⟨by simp only; omega, ?_⟩
                simp only [List.length_cons]
                omega
      · cases h
    · cases h
theorem len_sides : ∀ (all : List Ent), all.length = (sideE true all).length + (sideE false all).length
  | [] => rfl
  | e :: l => by
    have := len_sides l
    unfold sideE at this ⊢
    cases h : e.left
    · simp only [List.filter_cons, h, show (false == true) = false from rfl, show (false == false) = true from rfl, Bool.false_eq_true, if_false, if_true, List.length_cons]
      omega
    · simp only [List.filter_cons, h, show (true == false) = false from rfl, show (true == true) = true from rfl, Bool.false_eq_true, if_false, if_true, List.length_cons]
      omega
/-- A line that says nothing. -/
def skipB : List ByteArray → Bool
  | [] => true
  | x :: _ => Lib.hasPrefix x.data.toList [35]
/-- All lines. -/
def readAll : List Ent → List ByteArray → Except Int (List Ent)
  | all, [] => .ok all
  | all, p :: r => if skipB (wordsB p) then readAll all r else match takeS all (wordsB p) with
    | .error k => .error k
    | .ok e => readAll (all ++ [e]) r
/-- Whom all like. -/
def setAll (all : List Ent) : List (List Int) → List Ent → Except Int (List (List Int))
  | acc, [] => .ok acc
  | acc, e :: r => match likeF ((sideE (!e.left) all).map agE0) [] e.likes with
    | .error k => .error k
    | .ok L => setAll all (acc ++ [L]) r
def finP (b : Bool) (all : List Ent) (Ls : List (List Int)) : List (List UInt8 × Int × List Int) := ((all.zip Ls).filter (fun p => p.1.left == b)).map (fun p => (p.1.name.toList, p.1.room, p.2))
/-- What a text says. -/
def specP (s : ByteArray) : Int × List (List UInt8 × Int × List Int) × List (List UInt8 × Int × List Int) := match readAll [] (cutB s) with
  | .error k => (k, [], [])
  | .ok all => match setAll all [] all with
    | .error k => (k, [], [])
    | .ok Ls => (0, finP true all Ls, finP false all Ls)
theorem words_in9 (s : ByteArray) (w : World) (hs : s.size ≤ 4294967296) :
    Calls Tryd.prog 27 #[.string s] w fun e w' => ∃ A, e = .returned (.slice (some ⟨A, 0, none⟩) (wordsB s).length (wordsB s).length) ∧ In9 w' (some ⟨A, 0, none⟩) (wordsB s).length (wordsB s).length (wordsB s) ∧ Below w.heap.size w w' := by
  refine (words_any s w hs).mono ?_
  rintro e w' ⟨A, rfl, -, h, hb⟩
  refine ⟨A, rfl, ⟨strz_of_row h (fun x hx => ?_), .inr ⟨A, 0, rfl, own_tb h rfl⟩⟩, hb⟩
  have := ((words_facts s).1 x hx).2
  unfold maxLen
  omega
end Go.Proofs.YtajdijjecojdhaaDoor
