import Derived.Test.YtajdijjecojdhaaDoorWOA
import Derived.Test.YtajdijjecojdhaaDoorWJ
namespace Go.Proofs.YtajdijjecojdhaaDoor
open Go.RowKit
def wordOf (b : Bool) : List UInt8 := if b then [108, 101, 102, 116] else [114, 105, 103, 104, 116]
def roomWs (r : Int) : List (List UInt8) := if r = 1 then [] else [Lib.decDigits r.toNat]
def wsE (e : Ent) : List (List UInt8) := e.name.data.toList :: (roomWs e.room ++ [58] :: e.likes.map (·.data.toList))
/-- The line that says this. -/
def lineE (e : Ent) : List UInt8 := wordOf e.left ++ (wsE e).flatMap (fun x => 32 :: x)
def okE (e : Ent) : Prop := nameB e.name = true ∧ 1 ≤ e.room ∧ e.room ≤ 4 ∧ ∀ x ∈ e.likes, nameB x = true
theorem nameFrom_all {s : ByteArray} : ∀ (d k : Nat), s.size - k = d → nameFrom s k = true → ∀ j (h : j < s.size), k ≤ j → okAt j s[j].toNat = true
  | 0, k, hd, _, j, h, hk => by omega
  | d + 1, k, hd, hn, j, h, hk => by
    have hlt : k < s.size := by omega
    rw [nameFrom_step hlt, Bool.and_eq_true] at hn
    by_cases e : j = k
    · subst e; exact hn.1
    · exact nameFrom_all d (k + 1) (by omega) hn.2 j h (by omega)
theorem name_chars {x : ByteArray} (h : nameB x = true) : x.data.toList ≠ [] ∧ ∀ c ∈ x.data.toList, blankB c = false ∧ c.toNat ≠ 10 := by
  unfold nameB at h
  simp only [Bool.and_eq_true] at h
  refine ⟨fun e => ?_, fun c hc => ?_⟩
  · have := h.1.1.1.1
    rw [ByteArray.toList_eq, e] at this
    simp at this
  · obtain ⟨j, hj, e⟩ := List.getElem_of_mem hc
    have hj' : j < x.size := by simpa using hj
    have h1 := nameFrom_all _ 0 rfl h.2 j hj' (Nat.zero_le _)
    have h2 := data_get x j hj'
    rw [List.getElem?_eq_getElem hj] at h2
    have h3 : c = x[j] := by rw [← e]; exact Option.some.inj h2
    rw [← h3] at h1
    unfold okAt isLet isFig at h1
    simp at h1
    have hc1 : c.toNat ≠ 10 ∧ c.toNat ≠ 32 ∧ c.toNat ≠ 9 := by omega
    refine ⟨?_, hc1.1⟩
    unfold blankB
    rw [decide_eq_false hc1.2.1, decide_eq_false hc1.2.2]
    rfl
theorem room_cases {r : Int} (h1 : 1 ≤ r) (h4 : r ≤ 4) : r = 1 ∨ r = 2 ∨ r = 3 ∨ r = 4 := by omega
theorem room_ws {r : Int} (h1 : 1 ≤ r) (h4 : r ≤ 4) : ∀ x ∈ roomWs r, x ≠ [] ∧ ∀ c ∈ x, blankB c = false ∧ c.toNat ≠ 10 := by
  rcases room_cases h1 h4 with rfl | rfl | rfl | rfl
  · intro x hx; cases hx
  · intro x hx
    have e : roomWs 2 = [[50]] := by kernel_rfl
    rw [e, List.mem_singleton] at hx
    subst hx
    exact ⟨by simp, fun c hc => by rw [List.mem_singleton] at hc; subst hc; exact ⟨by decide, by decide⟩⟩
  · intro x hx
    have e : roomWs 3 = [[51]] := by kernel_rfl
    rw [e, List.mem_singleton] at hx
    subst hx
    exact ⟨by simp, fun c hc => by rw [List.mem_singleton] at hc; subst hc; exact ⟨by decide, by decide⟩⟩
  · intro x hx
    have e : roomWs 4 = [[52]] := by kernel_rfl
    rw [e, List.mem_singleton] at hx
    subst hx
    exact ⟨by simp, fun c hc => by rw [List.mem_singleton] at hc; subst hc; exact ⟨by decide, by decide⟩⟩
theorem ws_chars {e : Ent} (h : okE e) : ∀ x ∈ wsE e, x ≠ [] ∧ ∀ c ∈ x, blankB c = false ∧ c.toNat ≠ 10 := by
  obtain ⟨h1, h2, h3, h4⟩ := h
  intro x hx
  unfold wsE at hx
  rcases List.mem_cons.1 hx with rfl | hx
  · exact name_chars h1
  · rcases List.mem_append.1 hx with hx | hx
    · exact room_ws h2 h3 x hx
    · rcases List.mem_cons.1 hx with rfl | hx
      · exact ⟨by simp, fun c hc => by rw [List.mem_singleton] at hc; subst hc; exact ⟨by decide, by decide⟩⟩
      · obtain ⟨y, hy, rfl⟩ := List.mem_map.1 hx
        exact name_chars (h4 y hy)
theorem word_chars (b : Bool) : wordOf b ≠ [] ∧ ∀ c ∈ wordOf b, blankB c = false ∧ c.toNat ≠ 10 := by
  cases b <;> (refine ⟨by decide, ?_⟩; decide)
theorem line_chars {e : Ent} (h : okE e) : ∀ c ∈ lineE e, c.toNat ≠ 10 := by
  intro c hc
  unfold lineE at hc
  rcases List.mem_append.1 hc with hc | hc
  · exact ((word_chars e.left).2 c hc).2
  · obtain ⟨x, hx, hc⟩ := List.mem_flatMap.1 hc
    rcases List.mem_cons.1 hc with rfl | hc
    · decide
    · exact ((ws_chars h x hx).2 c hc).2
theorem words_line {e : Ent} (h : okE e) : wordsB (mkB (lineE e)) = mkB (wordOf e.left) :: e.name :: ((roomWs e.room).map mkB ++ mkB [58] :: e.likes) := by
  rw [wordsB_ls]
  unfold lineE
  rw [wofLs_line (wsE e) (wordOf e.left) (word_chars _).1 (fun c hc => ((word_chars _).2 c hc).1) (fun x hx => ⟨(ws_chars h x hx).1, fun c hc => ((ws_chars h x hx).2 c hc).1⟩)]
  unfold wsE
  simp only [List.map_cons, List.map_append, List.map_map, mkB_of]
  congr 4
  have : (mkB ∘ fun x : ByteArray => x.data.toList) = id := by funext x; exact mkB_of x
  rw [this, List.map_id]
theorem names_all {l : List ByteArray} (h : ∀ x ∈ l, nameB x = true) : ∀ (d k : Nat), l.length - k = d → namesFrom l k = true
  | 0, k, hd => namesFrom_end (by omega)
  | d + 1, k, hd => by
    have hk : k < l.length := by omega
    rw [namesFrom_step hk, names_all h d (k + 1) (by omega), List.getElem?_eq_getElem hk]
    simp [h _ (List.getElem_mem hk)]
theorem room_read {r : Int} (h1 : 1 ≤ r) (h4 : r ≤ 4) (t : List ByteArray) : roomP ((roomWs r).map mkB ++ mkB [58] :: t) = .ok (r, mkB [58] :: t) := by
  have h58 : ((mkB [58]).toList == [58]) = true := by rw [mkB_toList]; rfl
  have num : ∀ (c : UInt8), 49 ≤ c.toNat → c.toNat ≤ 52 → c ≠ 58 → roomP (mkB [c] :: mkB [58] :: t) = .ok ((c.toNat : Int) - 48, mkB [58] :: t) := fun c hc1 hc2 hc3 => by
    have hs : (mkB [c]).size = 1 := mkB_size _
    have hg : (mkB [c])[0] = c := mkB_get [c] 0 (by omega)
    have hn : numB (mkB [c]) = true := by
      unfold numB
      rw [dif_pos (by omega), digFrom_step (by omega), digFrom_end (by omega), hg]
      have : isFig c.toNat = true := by unfold isFig; simp; omega
      rw [this, decide_eq_true hs]
      rfl
    have hv : roomV (mkB [c]) = some ((c.toNat : Int) - 48) := by
      unfold roomV
      rw [dif_pos (by omega), hg, if_pos ⟨hs, hc1, hc2⟩]
    have hne : ((mkB [c]).toList == [58]) = false := by
      rw [mkB_toList]
      simpa using hc3
    simp only [roomP, hne, hn, hv, Bool.false_eq_true, if_false, if_true]
  rcases room_cases h1 h4 with rfl | rfl | rfl | rfl
  · show roomP (mkB [58] :: t) = _
    simp only [roomP, h58, if_true]
  · have e : roomWs 2 = [[50]] := by kernel_rfl
    rw [e]
    exact num 50 (by decide) (by decide) (by decide)
  · have e : roomWs 3 = [[51]] := by kernel_rfl
    rw [e]
    exact num 51 (by decide) (by decide) (by decide)
  · have e : roomWs 4 = [[52]] := by kernel_rfl
    rw [e]
    exact num 52 (by decide) (by decide) (by decide)
theorem take_line {e : Ent} {pre : List Ent} (h : okE e) (hn : hasN pre e.name = false) (h6 : (sideE e.left pre).length < 6) : takeS pre (wordsB (mkB (lineE e))) = .ok e := by
  rw [words_line h]
  obtain ⟨h1, h2, h3, h4⟩ := h
  have hl : isL (mkB (wordOf e.left)) = e.left := by unfold isL; rw [mkB_toList]; cases e.left <;> rfl
  have hr : isR (mkB (wordOf e.left)) = !e.left := by unfold isR; rw [mkB_toList]; cases e.left <;> rfl
  have h58 : ((mkB [58]).toList == [58]) = true := by rw [mkB_toList]; rfl
  have h6' : ¬ 6 ≤ (sideE e.left pre).length := by omega
  simp only [takeS, hl, hr, Bool.or_not_self, h1, hn, h6', room_read h2 h3, likesP, h58, names_all h4 _ 0 rfl, if_true, if_false, Bool.false_eq_true]
theorem skip_line {e : Ent} (h : okE e) : skipB (wordsB (mkB (lineE e))) = false := by
  rw [words_line h]
  show Lib.hasPrefix (mkB (wordOf e.left)).data.toList [35] = false
  rw [mkB_data]
  cases e.left <;> rfl
/-- Lines that may follow what was read. -/
def Fine (pre post : List Ent) : Prop := ∀ k (h : k < post.length), okE post[k] ∧ hasN (pre ++ post.take k) post[k].name = false ∧ (sideE post[k].left (pre ++ post.take k)).length < 6
theorem read_all : ∀ (post pre : List Ent), Fine pre post → readAll pre (post.map (fun e => mkB (lineE e)) ++ [mkB []]) = .ok (pre ++ post)
  | [], pre, _ => by
    have : wordsB (mkB []) = [] := by rw [wordsB_ls]; rfl
    simp only [List.map_nil, List.nil_append, readAll, this, skipB, if_true, List.append_nil]
  | e :: post, pre, h => by
    obtain ⟨h1, h2, h3⟩ := h 0 (by simp)
    simp only [List.getElem_cons_zero, List.take_zero, List.append_nil] at h1 h2 h3
    have ih := read_all post (pre ++ [e]) (fun k hk => by
      have := h (k + 1) (by simpa using hk)
      simpa using this)
    simp only [List.map_cons, List.cons_append, readAll, skip_line h1, take_line h1 h2 h3, Bool.false_eq_true, if_false, ih]
    simp
theorem cut_text {E : List Ent} (h : ∀ e ∈ E, okE e) : cutB (mkB (E.flatMap (fun e => lineE e ++ [10]))) = E.map (fun e => mkB (lineE e)) ++ [mkB []] := by
  have e : E.flatMap (fun e => lineE e ++ [10]) = (E.map lineE).flatMap (fun a => a ++ [10]) := by rw [List.flatMap_map]
  rw [e, cutB_ls, cutLs_lines _ (fun a ha => by
    obtain ⟨x, hx, rfl⟩ := List.mem_map.1 ha
    exact line_chars (h x hx))]
  simp
theorem Fine.ok {E : List Ent} (h : Fine [] E) : ∀ e ∈ E, okE e := fun e he => by
  obtain ⟨k, hk, rfl⟩ := List.getElem_of_mem he
  exact (h k hk).1
theorem read_text {E : List Ent} (h : Fine [] E) : readAll [] (cutB (mkB (E.flatMap (fun e => lineE e ++ [10])))) = .ok E := by
  rw [cut_text h.ok, read_all E [] h]
  rfl
end Go.Proofs.YtajdijjecojdhaaDoor
