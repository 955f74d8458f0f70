import Derived.Test.YtajdijjecojdhaaDoorWNK
namespace Go.Proofs.YtajdijjecojdhaaDoor
open Go.RowKit
def mkB (l : List UInt8) : ByteArray := ⟨l.toArray⟩
theorem mkB_size (l : List UInt8) : (mkB l).size = l.length := by simp [mkB, ByteArray.size]
theorem mkB_data (l : List UInt8) : (mkB l).data.toList = l := by simp [mkB]
theorem mkB_toList (l : List UInt8) : (mkB l).toList = l := by rw [ByteArray.toList_eq]; exact mkB_data l
theorem mkB_of (s : ByteArray) : mkB s.data.toList = s := by cases s; simp [mkB]
theorem mkB_get (l : List UInt8) (i : Nat) (h : i < (mkB l).size) : (mkB l)[i] = l[i]'(by rw [mkB_size] at h; exact h) := by
  have := data_get (mkB l) i h
  rw [mkB_data, List.getElem?_eq_getElem (by rw [mkB_size] at h; exact h)] at this
  exact (Option.some.inj this).symm
def seg (l : List UInt8) (i j : Nat) : List UInt8 := (l.drop i).take (j - i)
theorem mkB_extract (l : List UInt8) (i j : Nat) : (mkB l).extract i j = mkB (seg l i j) := by
  apply ByteArray.ext
  simp [mkB, seg, List.extract_eq_take_drop]
theorem seg_same (l : List UInt8) (i : Nat) : seg l i i = [] := by simp [seg]
theorem seg_snoc (l : List UInt8) {i j : Nat} (hij : i ≤ j) (hj : j < l.length) : seg l i (j + 1) = seg l i j ++ [l[j]] := by
  unfold seg
  rw [show j + 1 - i = (j - i) + 1 by omega, List.take_succ_eq_append_getElem (by simp; omega)]
  simp [show i + (j - i) = j by omega]
theorem seg_empty (l : List UInt8) {i j : Nat} (hj : j ≤ l.length) : seg l i j = [] ↔ ¬ i < j := by
  unfold seg
  constructor
  · intro h hlt
    have := congrArg List.length h
    simp at this
    omega
  · intro h
    rw [show j - i = 0 by omega]
    rfl
/-- Cut at every line's end. -/
def cutLs : List UInt8 → List UInt8 → List (List UInt8)
  | cur, [] => [cur]
  | cur, c :: r => if c.toNat = 10 then cur :: cutLs [] r else cutLs (cur ++ [c]) r
theorem cutLs_hit {cur r : List UInt8} {c : UInt8} (h : c.toNat = 10) : cutLs cur (c :: r) = cur :: cutLs [] r := by simp [cutLs, h]
theorem cutLs_miss {cur r : List UInt8} {c : UInt8} (h : ¬ c.toNat = 10) : cutLs cur (c :: r) = cutLs (cur ++ [c]) r := by simp [cutLs, h]
theorem cut_ls (l : List UInt8) : ∀ (d last i : Nat), l.length - i = d → last ≤ i → i ≤ l.length → cutFrom (mkB l) last i = (cutLs (seg l last i) (l.drop i)).map mkB
  | 0, last, i, hd, h1, h2 => by
    obtain rfl : i = l.length := by omega
    rw [cutFrom_end (by rw [mkB_size]; omega), List.drop_length, mkB_size, mkB_extract]
    rfl
  | d + 1, last, i, hd, h1, h2 => by
    have hi : i < l.length := by omega
    have hi' : i < (mkB l).size := by rw [mkB_size]; exact hi
    obtain ⟨c, hc⟩ : ∃ c, c = l[i]'hi := ⟨_, rfl⟩
    have hg : (mkB l)[i] = c := (mkB_get l i hi').trans hc.symm
    have hsn := seg_snoc l h1 hi
    rw [List.drop_eq_getElem_cons hi]
    rw [← hc] at hsn ⊢
    by_cases h10 : c.toNat = 10
    · rw [cutFrom_hit hi' (by rw [hg]; exact h10), cutLs_hit h10, cut_ls l d (i + 1) (i + 1) (by omega) (Nat.le_refl _) hi, seg_same, mkB_extract]
      rfl
    · rw [cutFrom_miss hi' (by rw [hg]; exact h10), cutLs_miss h10, cut_ls l d last (i + 1) (by omega) (by omega) hi, hsn]
theorem cutB_ls (l : List UInt8) : cutB (mkB l) = (cutLs [] l).map mkB := by
  show cutFrom (mkB l) 0 0 = _
  have := cut_ls l _ 0 0 rfl (Nat.le_refl _) (Nat.zero_le _)
  simpa [seg] using this
theorem cutLs_word : ∀ (a cur r : List UInt8), (∀ c ∈ a, c.toNat ≠ 10) → cutLs cur (a ++ r) = cutLs (cur ++ a) r
  | [], cur, r, _ => by simp
  | c :: a, cur, r, h => by
    rw [List.cons_append, cutLs_miss (h c (by simp)), cutLs_word a _ r (fun x hx => h x (by simp [hx]))]
    simp
theorem cutLs_lines : ∀ (ls : List (List UInt8)), (∀ a ∈ ls, ∀ c ∈ a, c.toNat ≠ 10) → cutLs [] (ls.flatMap (fun a => a ++ [10])) = ls ++ [[]]
  | [], _ => rfl
  | a :: ls, h => by
    rw [List.flatMap_cons, List.append_assoc, cutLs_word a [] _ (h a (by simp))]
    rw [List.nil_append, List.singleton_append, cutLs_hit (by decide), cutLs_lines ls (fun x hx => h x (by simp [hx]))]
    rfl
/-- The words of a line. -/
def wofLs : List UInt8 → List UInt8 → List (List UInt8)
  | cur, [] => if cur = [] then [] else [cur]
  | cur, c :: r => if blankB c = true then (if cur = [] then wofLs [] r else cur :: wofLs [] r) else wofLs (cur ++ [c]) r
theorem wof_ls (l : List UInt8) : ∀ (d i k : Nat), l.length - k = d → i ≤ k → k ≤ l.length → wofFrom (mkB l) i k = (wofLs (seg l i k) (l.drop k)).map mkB
  | 0, i, k, hd, h1, h2 => by
    obtain rfl : k = l.length := by omega
    have hk : (mkB l).size = l.length := mkB_size l
    rw [List.drop_length, wofLs]
    by_cases h : i < l.length
    · rw [if_neg (by rw [seg_empty l (Nat.le_refl _)]; simpa using h), ← hk, wofFrom_last (by omega), mkB_extract]
      rfl
    · rw [if_pos ((seg_empty l (Nat.le_refl _)).2 h), ← hk, wofFrom_none (by omega)]
      rfl
  | d + 1, i, k, hd, h1, h2 => by
    have hk : k < l.length := by omega
    have hk' : k < (mkB l).size := by rw [mkB_size]; exact hk
    have hg := mkB_get l k hk'
    rw [List.drop_eq_getElem_cons hk, wofLs]
    cases hb : blankB l[k] with
    | true =>
      rw [if_pos rfl]
      have hb' : blankB (mkB l)[k] = true := by rw [hg]; exact hb
      have ih := wof_ls l d (k + 1) (k + 1) (by omega) (Nat.le_refl _) hk
      rw [seg_same] at ih
      by_cases h : i < k
      · rw [wofFrom_word hk' hb' h, if_neg (by rw [seg_empty l h2]; simpa using h), ih, mkB_extract]
        rfl
      · rw [wofFrom_blank hk' hb' h, if_pos ((seg_empty l h2).2 h), ih]
    | false =>
      rw [if_neg (by simp), wofFrom_on hk' (by rw [hg]; exact hb), wof_ls l d i (k + 1) (by omega) (by omega) hk, seg_snoc l h1 hk]
theorem wordsB_ls (l : List UInt8) : wordsB (mkB l) = (wofLs [] l).map mkB := by
  rw [wordsB_eq]
  show wofFrom (mkB l) 0 0 = _
  have := wof_ls l _ 0 0 rfl (Nat.le_refl _) (Nat.zero_le _)
  simpa [seg] using this
theorem wofLs_word : ∀ (a cur r : List UInt8), (∀ c ∈ a, blankB c = false) → wofLs cur (a ++ r) = wofLs (cur ++ a) r
  | [], cur, r, _ => by simp
  | c :: a, cur, r, h => by
    rw [List.cons_append, wofLs, if_neg (by rw [h c (by simp)]; simp), wofLs_word a _ r (fun x hx => h x (by simp [hx]))]
    simp
theorem wofLs_line : ∀ (ws : List (List UInt8)) (a : List UInt8), a ≠ [] → (∀ c ∈ a, blankB c = false) → (∀ x ∈ ws, x ≠ [] ∧ ∀ c ∈ x, blankB c = false) → wofLs [] (a ++ ws.flatMap (fun x => 32 :: x)) = a :: ws
  | [], a, h0, ha, _ => by
    rw [wofLs_word a [] _ ha]
    simp [wofLs, h0]
  | x :: ws, a, h0, ha, h => by
    rw [wofLs_word a [] _ ha, List.flatMap_cons, List.cons_append, List.nil_append, wofLs, if_pos (by decide), if_neg h0]
    rw [wofLs_line ws x (h x (by simp)).1 (h x (by simp)).2 (fun y hy => h y (by simp [hy]))]
end Go.Proofs.YtajdijjecojdhaaDoor
