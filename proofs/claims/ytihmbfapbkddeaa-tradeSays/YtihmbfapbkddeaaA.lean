import Derived.Test.YtihmbfapbkddeaaProg
import Derived.WalkKit
import Derived.WalkSpells
import Derived.WalkLawsBesides
import Derived.BigQuiet
import Derived.Deep.QuietTactic
import Derived.Handy
import Derived.Deep.CutRange
import Derived.Lib.QuietBelow
import Derived.StillTailTactics
import Derived.Laws.CopyOwn
import Derived.Deep.RegionLaw
import Derived.Lib.AppendZerosOnto
import Derived.Deep.AppendLies
import Derived.Deep.Upon
import Derived.Lib.SliceRun
import Derived.Lib.Walk
namespace Go.Proofs.Ytihmbfapbkddeaa
open Go.RowKit
theorem ret_bool {a b : Bool} (h : a = b) : Ending.returned (.bool a) = .returned (.bool b) := by rw [h]
theorem ret_int {k : IntKind} {a b : Int} (h : a = b) : Ending.returned (.int k a) = .returned (.int k b) := by rw [h]
theorem hide {p : Prop} (h : p) : Hid p := h
theorem unhide {p : Prop} (h : Hid p) : p := h
/-- A slice of ints as it lies: nil or empty, or a row of cells. -/
def Ints (w : World) (a : Option Addr) (n c : Nat) (l : List Int) : Prop :=
  n = l.length ∧ n ≤ c ∧ c ≤ maxLen ∧ (n = 0 ∨ ∃ b off, a = some ⟨b, off, none⟩ ∧ b < w.heap.size ∧ ∀ j, j < n → w.cell? ⟨b, off + j, none⟩ = some (.int .i64 (l[j]?.getD 0)))
def idxFuel (l : List Int) (x : Int) : Nat → Nat → Int
  | 0, _ => -1
  | f + 1, k => if l[k]?.getD 0 = x then (k : Int) else idxFuel l x f (k + 1)
def idxFrom (l : List Int) (x : Int) (k : Nat) : Int := idxFuel l x (l.length - k) k
theorem idxFrom_step {l : List Int} {x : Int} {k : Nat} (h : k < l.length) : idxFrom l x k = if l[k]?.getD 0 = x then (k : Int) else idxFrom l x (k+1) := by
  unfold idxFrom
  rw [show l.length - k = (l.length - (k + 1)) + 1 by omega, idxFuel]
theorem idxFrom_yes {l : List Int} {x : Int} {k : Nat} (h : k < l.length) (e : l[k]?.getD 0 = x) : idxFrom l x k = k := by
  rw [idxFrom_step h, if_pos e]
theorem idxFrom_no {l : List Int} {x : Int} {k : Nat} (h : k < l.length) (e : ¬ l[k]?.getD 0 = x) : idxFrom l x k = idxFrom l x (k+1) := by
  rw [idxFrom_step h, if_neg e]
theorem idxFrom_end {l : List Int} {x : Int} {k : Nat} (h : ¬ k < l.length) : idxFrom l x k = -1 := by
  unfold idxFrom
  rw [show l.length - k = 0 by omega, idxFuel]
set_option maxHeartbeats 400000 in
theorem place_any (a : Option Addr) (n c : Nat) (l : List Int) (x : Int) (w : World) (h : Ints w a n c l) :
    Calls Try.prog 23 #[.slice a n c, .int .i64 x] w fun e w' => e = .returned (.int .i64 (idxFrom l x 0)) ∧ w' = w := by
  obtain ⟨hn, hc, hm, h⟩ := h
  unfold maxLen at hm
  rcases h with h0 | ⟨b, off, rfl, hb, hcell⟩
  · subst h0
    go_enter Try.func23, Try.ntmps23
    go_wp2
    refine wp_loop_rounds 1 ?_
    rw [rounds_succ]
    go_wp2
    go_ret
    exact ⟨ret_int (by rw [idxFrom_end (by omega)]), rfl⟩
  · have HN : Hid (n = l.length) := hn
    clear hn
    go_enter Try.func23, Try.ntmps23
    go_wp2
    go_loop [5] (fun i => ∃ k : Nat, k ≤ n ∧ i = .int .i64 k ∧ idxFrom l x 0 = idxFrom l x k) (fun i => n - (intOf i).toNat)
    case atStart => exact ⟨0, Nat.zero_le _, rfl, rfl⟩
    case round =>
      obtain ⟨k, hk, rfl, hn⟩ := hrel
      have HI : Hid (idxFrom l x 0 = idxFrom l x k) := hn
      clear hn
      by_cases hlt : k < n
      · have hck := hcell k hlt
        go_wp2
        · go_ret
          refine ⟨ret_int ?_, rfl⟩
          rw [HI.out]; exact (idxFrom_yes (by have := HN.out; omega) (by simp_all)).symm
        · refine ⟨⟨k+1, by omega, by go_num, ?_⟩, by simp [intOf]; omega⟩
          rw [HI.out]; exact idxFrom_no (by have := HN.out; omega) (by simp_all)
      · go_wp2
        go_ret
        exact ⟨ret_int (by rw [HI.out, idxFrom_end (by have := HN.out; omega)]), rfl⟩
set_option maxHeartbeats 400000 in
theorem index_any (a : Option Addr) (n c : Nat) (l : List Int) (x : Int) (w : World) (h : Ints w a n c l) :
    Calls Try.prog 45 #[.slice a n c, .int .i64 x] w fun e w' => e = .returned (.int .i64 (idxFrom l x 0)) ∧ w' = w := by
  obtain ⟨hn, hc, hm, h⟩ := h
  unfold maxLen at hm
  rcases h with h0 | ⟨b, off, rfl, hb, hcell⟩
  · subst h0
    go_enter Try.func45, Try.ntmps45
    go_wp2
    refine wp_loop_rounds 1 ?_
    rw [rounds_succ]
    go_wp2
    go_ret
    exact ⟨ret_int (by rw [idxFrom_end (by omega)]), rfl⟩
  · have HN : Hid (n = l.length) := hn
    clear hn
    go_enter Try.func45, Try.ntmps45
    go_wp2
    go_loop [8, 5] (fun i _ => ∃ k : Nat, k ≤ n ∧ i = .int .i64 k ∧ idxFrom l x 0 = idxFrom l x k) (fun i _ => n - (intOf i).toNat)
    case atStart => exact ⟨0, Nat.zero_le _, rfl, rfl⟩
    case round =>
      obtain ⟨k, hk, rfl, hn⟩ := hrel
      have HI : Hid (idxFrom l x 0 = idxFrom l x k) := hn
      clear hn
      by_cases hlt : k < n
      · have hck := hcell k hlt
        go_wp2
        · go_ret
          refine ⟨ret_int ?_, rfl⟩
          rw [HI.out]; exact (idxFrom_yes (by have := HN.out; omega) (by simp_all)).symm
        · refine ⟨⟨k+1, by omega, by go_num, ?_⟩, by simp [intOf]; omega⟩
          rw [HI.out]; exact idxFrom_no (by have := HN.out; omega) (fun e => by simp_all)
      · go_wp2
        go_ret
        exact ⟨ret_int (by rw [HI.out, idxFrom_end (by have := HN.out; omega)]), rfl⟩
theorem contains_any (a : Option Addr) (n c : Nat) (l : List Int) (x : Int) (w : World) (h : Ints w a n c l) :
    Calls Try.prog 47 #[.slice a n c, .int .i64 x] w fun e w' => e = .returned (.bool (decide (0 ≤ idxFrom l x 0))) ∧ w' = w := by
  go_enter Try.func47, Try.ntmps47
  go_wp2_with (go_at_call 45; refine (index_any _ _ _ l _ _ h).mono ?_; rintro e w' ⟨rfl, rfl⟩)
  go_ret
  exact ⟨rfl, rfl⟩
theorem Ints.later {w w' : World} {a : Option Addr} {n c : Nat} {l : List Int} (h : Ints w a n c l) (hb : Below w.heap.size w w') : Ints w' a n c l := by
  obtain ⟨hn, hc, hm, h⟩ := h
  refine ⟨hn, hc, hm, ?_⟩
  rcases h with h0 | ⟨b, off, rfl, hlt, hcell⟩
  · exact Or.inl h0
  · exact Or.inr ⟨b, off, rfl, Nat.lt_of_lt_of_le hlt hb.size, fun j hj => (hb.cell (p := ⟨b, off + j, none⟩) hlt).trans (hcell j hj)⟩
theorem idxFrom_spec (l : List Int) (x : Int) : ∀ d k, l.length - k = d → (idxFrom l x k = -1 ∧ ∀ i, k ≤ i → i < l.length → ¬ l[i]?.getD 0 = x) ∨ (∃ m : Nat, k ≤ m ∧ m < l.length ∧ l[m]?.getD 0 = x ∧ idxFrom l x k = m ∧ ∀ i, k ≤ i → i < m → ¬ l[i]?.getD 0 = x) := by
  intro d
  induction d with
  | zero =>
    intro k hk
    exact Or.inl ⟨idxFrom_end (by omega), fun i h1 h2 => by omega⟩
  | succ d ih =>
    intro k hk
    by_cases he : l[k]?.getD 0 = x
    · exact Or.inr ⟨k, Nat.le_refl _, by omega, he, idxFrom_yes (by omega) he, fun i h1 h2 => by omega⟩
    · rw [idxFrom_no (by omega) he]
      rcases ih (k+1) (by omega) with ⟨h1, h2⟩ | ⟨m, h1, h2, h3, h4, h5⟩
      · refine Or.inl ⟨h1, fun i hi hl => ?_⟩
        by_cases e : i = k
        · rw [e]; exact he
        · exact h2 i (by omega) hl
      · refine Or.inr ⟨m, by omega, h2, h3, h4, fun i hi hl => ?_⟩
        by_cases e : i = k
        · rw [e]; exact he
        · exact h5 i (by omega) hl
theorem take_at (l : List Int) {k i : Nat} (h : i < k) : (l.take k)[i]?.getD 0 = l[i]?.getD 0 := by rw [List.getElem?_take, if_pos h]
/-- Named already: among the earlier ones, or its first place is ahead. -/
theorem idx_take (l : List Int) (k : Nat) (h : k < l.length) : 0 ≤ idxFrom (l.take k) (l[k]?.getD 0) 0 ↔ idxFrom l (l[k]?.getD 0) 0 < k := by
  have hl : (l.take k).length = k := by simp; omega
  rcases idxFrom_spec l (l[k]?.getD 0) _ 0 rfl with ⟨h1, h2⟩ | ⟨m, _, h2, h3, h4, h5⟩
  · exact absurd rfl (h2 k (Nat.zero_le _) h)
  · rw [h4]
    rcases idxFrom_spec (l.take k) (l[k]?.getD 0) _ 0 rfl with ⟨g1, g2⟩ | ⟨q, _, g2, g3, g4, g5⟩
    · rw [g1]
      refine ⟨fun h => by omega, fun hm => ?_⟩
      have hm' : m < k := by omega
      exact absurd (by rw [take_at l hm']; exact h3) (g2 m (Nat.zero_le _) (by omega))
    · rw [g4]
      refine ⟨fun _ => ?_, fun _ => by omega⟩
      rw [hl] at g2
      rw [take_at l g2] at g3
      rcases Nat.lt_or_ge q m with h' | h'
      · exact absurd g3 (h5 q (Nat.zero_le _) h')
      · omega
def likesFuel (l : List Int) (others : Int) : Nat → Nat → Int
  | 0, _ => 0
  | f + 1, k => if l[k]?.getD 0 < 0 ∨ others ≤ l[k]?.getD 0 then 8 else if 0 ≤ idxFrom (l.take k) (l[k]?.getD 0) 0 then 6 else likesFuel l others f (k + 1)
def likesFrom (l : List Int) (others : Int) (k : Nat) : Int := likesFuel l others (l.length - k) k
theorem likesFrom_step {l : List Int} {o : Int} {k : Nat} (h : k < l.length) : likesFrom l o k = if l[k]?.getD 0 < 0 ∨ o ≤ l[k]?.getD 0 then 8 else if 0 ≤ idxFrom (l.take k) (l[k]?.getD 0) 0 then 6 else likesFrom l o (k+1) := by
  unfold likesFrom
  rw [show l.length - k = (l.length - (k + 1)) + 1 by omega, likesFuel]
theorem likesFrom_who {l : List Int} {o : Int} {k : Nat} (h : k < l.length) (e : l[k]?.getD 0 < 0 ∨ o ≤ l[k]?.getD 0) : likesFrom l o k = 8 := by
  rw [likesFrom_step h, if_pos e]
theorem likesFrom_dbl {l : List Int} {o : Int} {k : Nat} (h : k < l.length) (e : ¬ (l[k]?.getD 0 < 0 ∨ o ≤ l[k]?.getD 0)) (d : 0 ≤ idxFrom (l.take k) (l[k]?.getD 0) 0) : likesFrom l o k = 6 := by
  rw [likesFrom_step h, if_neg e, if_pos d]
theorem likesFrom_on {l : List Int} {o : Int} {k : Nat} (h : k < l.length) (e : ¬ (l[k]?.getD 0 < 0 ∨ o ≤ l[k]?.getD 0)) (d : ¬ 0 ≤ idxFrom (l.take k) (l[k]?.getD 0) 0) : likesFrom l o k = likesFrom l o (k+1) := by
  rw [likesFrom_step h, if_neg e, if_neg d]
theorem likesFrom_end {l : List Int} {o : Int} {k : Nat} (h : ¬ k < l.length) : likesFrom l o k = 0 := by
  unfold likesFrom
  rw [show l.length - k = 0 by omega, likesFuel]
theorem Ints.take {w : World} {a : Option Addr} {n c : Nat} {l : List Int} (h : Ints w a n c l) (k : Nat) (hk : k ≤ n) : Ints w a k c (l.take k) := by
  obtain ⟨hn, hc, hm, h⟩ := h
  refine ⟨by simp; omega, by omega, hm, ?_⟩
  rcases h with h0 | ⟨b, off, rfl, hlt, hcell⟩
  · exact Or.inl (by omega)
  · refine Or.inr ⟨b, off, rfl, hlt, fun j hj => ?_⟩
    rw [hcell j (by omega), List.getElem?_take, if_pos hj]
set_option maxHeartbeats 1000000 in
theorem maySome_any (la : Option Addr) (ln lc : Nat) (likes : List Int) (o : Int) (w : World) (hl : Ints w la ln lc likes) :
    Calls Try.prog 43 #[.slice la ln lc, .int .i64 o] w fun e w' => e = .returned (.int .i64 (likesFrom likes o 0)) ∧ w' = w := by
  have hl0 := hl
  obtain ⟨hn', hc', hm', hrow⟩ := hl
  unfold maxLen at hm'
  have HN := hide hn'
  clear hn'
  rcases hrow with hz | ⟨b, off, rfl, hb, hcell⟩
  · subst hz
    go_enter Try.func43, Try.ntmps43
    go_wp2
    refine wp_loop_rounds 1 ?_
    rw [rounds_succ]
    go_wp2
    go_ret
    exact ⟨ret_int (by rw [likesFrom_end (by have := unhide HN; omega)]), rfl⟩
  go_enter Try.func43, Try.ntmps43
  go_wp2
  go_loop [9, 5, 6] (fun i _ _ => ∃ k : Nat, k ≤ ln ∧ i = .int .i64 k ∧ likesFrom likes o 0 = likesFrom likes o k) (fun i _ _ => ln - (intOf i).toNat)
  case atStart => exact ⟨0, Nat.zero_le _, rfl, rfl⟩
  case round =>
    obtain ⟨k, hk, rfl, hn⟩ := hrel
    have HI := hide hn
    clear hn
    by_cases hlt : k < ln
    · have hck : w.cell? ⟨b, off + k, none⟩ = some (.int .i64 (likes[k]?.getD 0)) := hcell k hlt
      have hlen : k < likes.length := by have := unhide HN; omega
      have HL := hide hlen
      clear hlen
      by_cases he : likes[k]?.getD 0 < 0 ∨ o ≤ likes[k]?.getD 0
      · have HE := hide (likesFrom_who (unhide HL) he)
        rcases he with he | he
        · go_wp2
          go_ret
          exact ⟨ret_int (by rw [unhide HI, unhide HE]), rfl⟩
        · by_cases he2 : likes[k]?.getD 0 < 0
          · go_wp2
            go_ret
            exact ⟨ret_int (by rw [unhide HI, unhide HE]), rfl⟩
          · go_wp2
            go_ret
            exact ⟨ret_int (by rw [unhide HI, unhide HE]), rfl⟩
      · have he1 : ¬ likes[k]?.getD 0 < 0 := by omega
        have he2 : ¬ o ≤ likes[k]?.getD 0 := by omega
        by_cases hd : 0 ≤ idxFrom (likes.take k) (likes[k]?.getD 0) 0
        · have HE := hide (likesFrom_dbl (unhide HL) he hd)
          clear he
          go_wp2_with (go_at_call 47; refine (contains_any _ k lc (likes.take k) _ _ (hl0.take k hk)).mono ?_; rintro e w' ⟨rfl, rfl⟩)
          go_ret
          exact ⟨ret_int (by rw [unhide HI, unhide HE]), rfl⟩
        · have HE := hide (likesFrom_on (unhide HL) he hd)
          have hd' : idxFrom (likes.take k) (likes[k]?.getD 0) 0 < 0 := by omega
          clear he
          go_wp2_with (go_at_call 47; refine (contains_any _ k lc (likes.take k) _ _ (hl0.take k hk)).mono ?_; rintro e w' ⟨rfl, rfl⟩)
          refine ⟨⟨k+1, by omega, by go_num, by rw [unhide HI, unhide HE]⟩, by simp [intOf]; omega⟩
    · go_wp2
      go_ret
      exact ⟨ret_int (by rw [unhide HI, likesFrom_end (by have := unhide HN; omega)]), rfl⟩
set_option maxHeartbeats 1000000 in
theorem some_any (la : Option Addr) (ln lc : Nat) (likes : List Int) (o : Int) (w : World) (hl : Ints w la ln lc likes) :
    Calls Try.prog 38 #[.slice la ln lc, .int .i64 o] w fun e w' => e = .returned (.int .i64 (likesFrom likes o 0)) ∧ w' = w := by
  have hl0 := hl
  obtain ⟨hn', hc', hm', hrow⟩ := hl
  unfold maxLen at hm'
  have HN := hide hn'
  clear hn'
  rcases hrow with hz | ⟨b, off, rfl, hb, hcell⟩
  · subst hz
    go_enter Try.func38, Try.ntmps38
    go_wp2
    refine wp_loop_rounds 1 ?_
    rw [rounds_succ]
    go_wp2
    go_ret
    exact ⟨ret_int (by rw [likesFrom_end (by have := unhide HN; omega)]), rfl⟩
  go_enter Try.func38, Try.ntmps38
  go_wp2
  go_loop [5, 6] (fun i _ => ∃ k : Nat, k ≤ ln ∧ i = .int .i64 k ∧ likesFrom likes o 0 = likesFrom likes o k) (fun i _ => ln - (intOf i).toNat)
  case atStart => exact ⟨0, Nat.zero_le _, rfl, rfl⟩
  case round =>
    obtain ⟨k, hk, rfl, hn⟩ := hrel
    have HI := hide hn
    clear hn
    by_cases hlt : k < ln
    · have hck : w.cell? ⟨b, off + k, none⟩ = some (.int .i64 (likes[k]?.getD 0)) := hcell k hlt
      have hlen : k < likes.length := by have := unhide HN; omega
      have hit := idx_take likes k hlen
      have HL := hide hlen
      clear hlen
      by_cases he : likes[k]?.getD 0 < 0 ∨ o ≤ likes[k]?.getD 0
      · have HE := hide (likesFrom_who (unhide HL) he)
        clear hit
        rcases he with he | he
        · go_wp2
          go_ret
          exact ⟨ret_int (by rw [unhide HI, unhide HE]), rfl⟩
        · by_cases he2 : likes[k]?.getD 0 < 0
          · go_wp2
            go_ret
            exact ⟨ret_int (by rw [unhide HI, unhide HE]), rfl⟩
          · go_wp2
            go_ret
            exact ⟨ret_int (by rw [unhide HI, unhide HE]), rfl⟩
      · have he1 : ¬ likes[k]?.getD 0 < 0 := by omega
        have he2 : ¬ o ≤ likes[k]?.getD 0 := by omega
        by_cases hd : idxFrom likes (likes[k]?.getD 0) 0 < k
        · have HE := hide (likesFrom_dbl (unhide HL) he (hit.2 hd))
          clear he hit
          go_wp2_with (go_at_call 23; refine (place_any _ ln lc likes _ _ hl0).mono ?_; rintro e w' ⟨rfl, rfl⟩)
          go_ret
          exact ⟨ret_int (by rw [unhide HI, unhide HE]), rfl⟩
        · have HE := hide (likesFrom_on (unhide HL) he (fun h => hd (hit.1 h)))
          have hd' : (k : Int) ≤ idxFrom likes (likes[k]?.getD 0) 0 := by omega
          clear he hit
          go_wp2_with (go_at_call 23; refine (place_any _ ln lc likes _ _ hl0).mono ?_; rintro e w' ⟨rfl, rfl⟩)
          refine ⟨⟨k+1, by omega, by go_num, by rw [unhide HI, unhide HE]⟩, by simp [intOf]; omega⟩
    · go_wp2
      go_ret
      exact ⟨ret_int (by rw [unhide HI, likesFrom_end (by have := unhide HN; omega)]), rfl⟩
/-- T1 of an order of n. -/
def ordE (l : List Int) (n : Int) : Int := if (l.length : Int) = n then likesFrom l n 0 else 7
theorem ordersMay_any (la : Option Addr) (ln lc : Nat) (likes : List Int) (o : Int) (w : World) (hl : Ints w la ln lc likes) :
    Calls Try.prog 27 #[.slice la ln lc, .int .i64 o] w fun e w' => e = .returned (.int .i64 (ordE likes o)) ∧ w' = w := by
  have hn := hide hl.1
  by_cases h : (ln : Int) = o
  · subst h
    go_enter Try.func27, Try.ntmps27
    go_wp2_with (go_at_call 43; refine (maySome_any _ ln lc likes _ _ hl).mono ?_; rintro e w' ⟨rfl, rfl⟩)
    go_ret
    exact ⟨ret_int (by unfold ordE; rw [if_pos (by have := unhide hn; omega)]), rfl⟩
  · go_enter Try.func27, Try.ntmps27
    go_wp2
    go_ret
    exact ⟨ret_int (by unfold ordE; rw [if_neg (by have := unhide hn; omega)]), rfl⟩
theorem orderOf_any (la : Option Addr) (ln lc : Nat) (likes : List Int) (o : Int) (w : World) (hl : Ints w la ln lc likes) :
    Calls Try.prog 28 #[.slice la ln lc, .int .i64 o] w fun e w' => e = .returned (.int .i64 (ordE likes o)) ∧ w' = w := by
  have hn := hide hl.1
  by_cases h : (ln : Int) = o
  · subst h
    go_enter Try.func28, Try.ntmps28
    go_wp2_with (go_at_call 38; refine (some_any _ ln lc likes _ _ hl).mono ?_; rintro e w' ⟨rfl, rfl⟩)
    go_ret
    exact ⟨ret_int (by unfold ordE; rw [if_pos (by have := unhide hn; omega)]), rfl⟩
  · go_enter Try.func28, Try.ntmps28
    go_wp2
    go_ret
    exact ⟨ret_int (by unfold ordE; rw [if_neg (by have := unhide hn; omega)]), rfl⟩
theorem owns_drew {w : World} {B : Nat} {e : TypeId} {size : Nat} {v : Value} {n : Nat} {xs : List Value} (h : w.ownsRow B e size v n xs) : w.drew.ownsRow B e size v n xs := h
theorem owns_later {w w' : World} {B : Nat} {e : TypeId} {size : Nat} {v : Value} {n : Nat} {xs : List Value} (h : w.ownsRow B e size v n xs) (hb : Below w.heap.size w w') : w'.ownsRow B e size v n xs :=
  h.kept (row := none) ⟨hb.os, hb.tape, hb.output, hb.size, fun k hk _ => hb.block k hk⟩ (by cases hv : v.ownBlock <;> simp)
theorem below_drewN (B : Nat) (w : World) (n : Nat) : Below B w (w.drewN n) := ⟨rfl, rfl, rfl, Nat.le_refl _, fun _ _ => rfl⟩
theorem info3 : (Try.prog.info? 3).map (fun i => (i.zero, i.size, i.bytes)) = some (some (.int .i64 0), 1, 8) := by kernel_rfl
def intVals (l : List Int) : List Value := l.map (Value.int .i64)
theorem wpList_append_int (w : World) {ops : Array Oper} {rest : List Oper} {o : Oper} {a : Act} {Q : Exit → Act → World → Prop} (hgd : o.guard = none) (s x : Operand)
    (ho : o.op = .call { callee := .builtin .append, args := #[s, x], argTypes := #[23, 23] })
    (base : Nat) (v : Value) (n : Nat) (xs : List Value) (hs : a.eval s = v) (hown : w.ownsRow base 3 1 v n xs)
    (g : Nat) (y : Int) (hx : a.eval x = .slice (some ⟨g, 0, none⟩) 1 1) (hc : w.cell? ⟨g, 0, none⟩ = some (.int .i64 y))
    (hsm : n ≤ 1000) (hbase : base ≤ w.heap.size)
    (hK : ∀ v' w', w'.ownsRow base 3 1 v' (n + 1) (xs ++ [.int .i64 y]) → w.grownBy w' v.ownBlock → wpList Try.prog ops Q rest (a.put o.dst v') w') : wpList Try.prog ops Q (o :: rest) a w := by
  obtain ⟨i9, hi9, hz90, hz91, hz92⟩ := info_parts info3
  exact wpList_append_own w hgd s x 23 ho base 3 i9 _ 1 8 Try.underlying23 hi9 hz90 hz91 hz92 rfl (by decide) v n xs hs hown ⟨g, 0, none⟩ 1 1 [.int .i64 y] hx rfl
    (fun j u hu => by
      cases j with
      | zero => simp at hu; subst hu; simpa [Addr.add] using hc
      | succ j => simp at hu)
    (fun u hu => by simp at hu; subst hu; rfl) (by unfold maxLen; omega) (by omega) hbase (fun v' w' h1 h2 _ => hK v' w' h1 h2)
theorem Ints.of_owns {w : World} {B : Nat} {v : Value} {n : Nat} {l : List Int} (h : w.ownsRow B 3 1 v n (intVals l)) (hn : n ≤ 1000) : ∃ a c, v = .slice a n c ∧ Ints w a n c l ∧ (n = 0 ∨ ∃ g, B ≤ g ∧ g < w.heap.size ∧ a = some ⟨g, 0, none⟩) := by
  have hl : l.length = n := by have := h.1; simp [intVals] at this; omega
  have h0 := h
  rcases h.2 with ⟨rfl, rfl⟩ | ⟨g, cap, cur, rfl, hbg, hgg, hnc, hcm, hcs, htake⟩
  · exact ⟨none, 0, rfl, ⟨hl.symm, Nat.le_refl _, by unfold maxLen; omega, .inl rfl⟩, .inl rfl⟩
  · by_cases hz : n = 0
    · exact ⟨_, cap, rfl, ⟨hl.symm, hnc, hcm, .inl hz⟩, .inl hz⟩
    · have hc0 : ∀ j, j < n → w.cell? ⟨g, 0 + j, none⟩ = some (.int .i64 (l[j]?.getD 0)) := fun j hj => by
        rw [Nat.zero_add, h0.cellAt j (by omega), intVals, List.getElem?_map, List.getElem?_eq_getElem (show j < l.length by omega)]
        simp
      have hlt : g < w.heap.size := World.block_lt_of_cell? w _ (hc0 0 (by omega))
      exact ⟨_, cap, rfl, ⟨hl.symm, hnc, hcm, .inr ⟨g, 0, rfl, hlt, hc0⟩⟩, .inr ⟨g, hbg, hlt, rfl⟩⟩
theorem Ints.cellAt {w : World} {a : Option Addr} {n c : Nat} {l : List Int} (h : Ints w a n c l) (hn : 0 < n) : ∃ b off, a = some ⟨b, off, none⟩ ∧ b < w.heap.size ∧ ∀ j, j < n → w.cell? ⟨b, off + j, none⟩ = some (.int .i64 (l[j]?.getD 0)) := by
  obtain ⟨_, _, _, h0 | ⟨b, off, rfl, hb, hcell⟩⟩ := h
  · omega
  · exact ⟨b, off, rfl, hb, hcell⟩
/-- A slice of ints, as a cell holds it, and what it holds. -/
structure Sl where
  la : Option Addr
  ln : Nat
  lc : Nat
  ints : List Int
def slNone : Sl := ⟨none, 0, 0, []⟩
def Sl.val (s : Sl) : Value := .slice s.la s.ln s.lc
def slVals (l : List Sl) : List Value := l.map Sl.val
def slAt (l : List Sl) (j : Nat) : Sl := l[j]?.getD slNone
def lists (l : List Sl) : List (List Int) := l.map (·.ints)
/-- A slice of slices of ints as it lies. -/
def Lsts (w : World) (a : Option Addr) (n c : Nat) (l : List Sl) : Prop :=
  n = l.length ∧ n ≤ c ∧ c ≤ maxLen ∧ (∀ s ∈ l, Ints w s.la s.ln s.lc s.ints) ∧
  (n = 0 ∨ ∃ b off, a = some ⟨b, off, none⟩ ∧ b < w.heap.size ∧ ∀ j, j < n → w.cell? ⟨b, off + j, none⟩ = some (.slice (slAt l j).la (slAt l j).ln (slAt l j).lc))
theorem Lsts.later {w w' : World} {a : Option Addr} {n c : Nat} {l : List Sl} (h : Lsts w a n c l) (hb : Below w.heap.size w w') : Lsts w' a n c l := by
  obtain ⟨hn, hc, hm, hg, h⟩ := h
  refine ⟨hn, hc, hm, fun s m => (hg s m).later hb, ?_⟩
  rcases h with h0 | ⟨b, off, rfl, hlt, hcell⟩
  · exact Or.inl h0
  · exact Or.inr ⟨b, off, rfl, Nat.lt_of_lt_of_le hlt hb.size, fun j hj => (hb.cell (p := ⟨b, off + j, none⟩) hlt).trans (hcell j hj)⟩
theorem Lsts.cellAt {w : World} {a : Option Addr} {n c : Nat} {l : List Sl} (h : Lsts w a n c l) (hn : 0 < n) : ∃ b off, a = some ⟨b, off, none⟩ ∧ b < w.heap.size ∧ ∀ j, j < n → w.cell? ⟨b, off + j, none⟩ = some (.slice (slAt l j).la (slAt l j).ln (slAt l j).lc) := by
  obtain ⟨_, _, _, _, h0 | ⟨b, off, rfl, hb, hcell⟩⟩ := h
  · omega
  · exact ⟨b, off, rfl, hb, hcell⟩
theorem Lsts.mem {w : World} {a : Option Addr} {n c : Nat} {l : List Sl} (h : Lsts w a n c l) {k : Nat} (hk : k < n) : Ints w (slAt l k).la (slAt l k).ln (slAt l k).lc (slAt l k).ints := by
  refine h.2.2.2.1 _ ?_
  unfold slAt
  rw [List.getElem?_eq_getElem (show k < l.length by have := h.1; omega)]
  simp
theorem slAt_mem {l : List Sl} {j : Nat} (h : j < l.length) : slAt l j ∈ l := by
  unfold slAt
  rw [List.getElem?_eq_getElem h]
  exact List.getElem_mem h
/-- Heavy says true, or all is small. -/
def HeavyPost (n : Nat) (l : List Sl) (w : World) (e : Ending) (w' : World) : Prop := ∃ hv : Bool, e = .returned (.bool hv) ∧ (hv = false → n ≤ 1024 ∧ ∀ s ∈ l, s.ln ≤ 1024) ∧ w' = w
set_option maxHeartbeats 1000000 in
theorem heavy_any (a : Option Addr) (n c : Nat) (l : List Sl) (w : World) (h : Lsts w a n c l) (hs : ∀ s ∈ l, s.ln ≤ 140737488351232) (hn : n ≤ 140737488351232) :
    Calls Try.prog 7 #[.slice a n c] w fun e w' => HeavyPost n l w e w' := by
  have hl := hide h.1
  have HS := hide hs
  clear hs
  go_enter Try.func7, Try.ntmps7
  go_wp2
  go_loop [4, 3] (fun i v => ∃ k acc : Nat, k ≤ n ∧ i = .int .i64 k ∧ v = .int .i64 acc ∧ n ≤ acc ∧ acc ≤ 281474976702464 ∧ ∀ j, j < k → (slAt l j).ln ≤ acc) (fun i _ => n - (intOf i).toNat)
  case atStart => exact ⟨0, n, Nat.zero_le _, rfl, rfl, Nat.le_refl _, by omega, fun j hj => by omega⟩
  case round =>
    obtain ⟨k, acc, hk, rfl, rfl, hna, hac, hall⟩ := hrel
    have HALL := hide hall
    clear hall
    by_cases hlt : k < n
    · by_cases hle : acc ≤ 1024
      · obtain ⟨b, off, rfl, hb, hcell⟩ := h.cellAt (by omega)
        have hck := hcell k hlt
        have hsk := unhide HS (slAt l k) (slAt_mem (by have := unhide hl; omega))
        have hmk := (h.mem hlt).2.1
        have hmc := (h.mem hlt).2.2.1
        unfold maxLen at hmc
        obtain ⟨sk, hsk'⟩ : ∃ s, s = slAt l k := ⟨_, rfl⟩
        rw [← hsk'] at hck hsk hmk hmc
        have HSK := hide hsk'
        clear hsk' hcell
        obtain ⟨la, ln, lc, ints⟩ := sk
        simp only at hck hsk hmk hmc
        go_wp2
        refine ⟨⟨k + 1, acc + ln, by omega, by go_num, by go_num, by omega, by omega, fun j hj => ?_⟩, by simp [intOf]; omega⟩
        by_cases e : j = k
        · subst e
          rw [← unhide HSK]
          show ln ≤ _
          omega
        · have := unhide HALL j (by omega)
          omega
      · have d1 : decide ((acc : Int) ≤ 1024) = false := by simp; omega
        have d2 : decide (1024 < (acc : Int)) = true := by simp; omega
        go_wp2
        go_ret
        exact ⟨true, rfl, fun e => (by cases e), rfl⟩
    · have d0 : decide ((k : Int) < (n : Int)) = false := by simp; omega
      by_cases hle : acc ≤ 1024
      · have d2 : decide (1024 < (acc : Int)) = false := by simp; omega
        go_wp2
        go_ret
        refine ⟨false, rfl, fun _ => ⟨by omega, fun s hs => ?_⟩, rfl⟩
        obtain ⟨j, hj, e⟩ := List.getElem_of_mem hs
        have := unhide HALL j (by have := unhide hl; omega)
        have e2 : slAt l j = s := by unfold slAt; rw [List.getElem?_eq_getElem hj, e]; rfl
        rw [e2] at this
        omega
      · have d2 : decide (1024 < (acc : Int)) = true := by simp; omega
        go_wp2
        go_ret
        exact ⟨true, rfl, fun e => (by cases e), rfl⟩
end Go.Proofs.Ytihmbfapbkddeaa
