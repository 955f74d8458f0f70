import Derived.Test.YtloandcndnmkhaaProg
import Derived.WalkKit
import Derived.WalkSpells
import Derived.WalkLawsBesides
import Derived.BigQuiet
import Derived.Deep.QuietTactic
import Derived.Handy
import Derived.Deep.CutRange
import Derived.Lib.QuietBelow
import Derived.StillTailTactics
import Derived.Laws.CopyOwn
import Derived.Deep.RegionLaw
import Derived.Lib.AppendZerosOnto
import Derived.Deep.AppendLies
import Derived.Deep.Upon
import Derived.Lib.SliceRun
import Derived.Lib.Walk
import Derived.Deep.RegionWith
import Derived.Deep.RegionHeld3
import Derived.Laws.Rows
namespace Go.Proofs.Ytloandcndnmkhaa
open Go.RowKit
theorem ret_bool {a b : Bool} (h : a = b) : Ending.returned (.bool a) = .returned (.bool b) := by rw [h]
theorem ret_int {k : IntKind} {a b : Int} (h : a = b) : Ending.returned (.int k a) = .returned (.int k b) := by rw [h]
theorem hide {p : Prop} (h : p) : Hid p := h
theorem unhide {p : Prop} (h : Hid p) : p := h
/-- A slice of ints as it lies: nil or empty, or a row of cells. -/
def Ints (w : World) (a : Option Addr) (n c : Nat) (l : List Int) : Prop :=
  n = l.length ∧ n ≤ c ∧ c ≤ maxLen ∧ (n = 0 ∨ ∃ b off, a = some ⟨b, off, none⟩ ∧ b < w.heap.size ∧ ∀ j, j < n → w.cell? ⟨b, off + j, none⟩ = some (.int .i64 (l[j]?.getD 0)))
def idxFuel (l : List Int) (x : Int) : Nat → Nat → Int
  | 0, _ => -1
  | f + 1, k => if l[k]?.getD 0 = x then (k : Int) else idxFuel l x f (k + 1)
def idxFrom (l : List Int) (x : Int) (k : Nat) : Int := idxFuel l x (l.length - k) k
theorem idxFrom_step {l : List Int} {x : Int} {k : Nat} (h : k < l.length) : idxFrom l x k = if l[k]?.getD 0 = x then (k : Int) else idxFrom l x (k+1) := by
  unfold idxFrom
  rw [show l.length - k = (l.length - (k + 1)) + 1 by omega, idxFuel]
theorem idxFrom_yes {l : List Int} {x : Int} {k : Nat} (h : k < l.length) (e : l[k]?.getD 0 = x) : idxFrom l x k = k := by
  rw [idxFrom_step h, if_pos e]
theorem idxFrom_no {l : List Int} {x : Int} {k : Nat} (h : k < l.length) (e : ¬ l[k]?.getD 0 = x) : idxFrom l x k = idxFrom l x (k+1) := by
  rw [idxFrom_step h, if_neg e]
theorem idxFrom_end {l : List Int} {x : Int} {k : Nat} (h : ¬ k < l.length) : idxFrom l x k = -1 := by
  unfold idxFrom
  rw [show l.length - k = 0 by omega, idxFuel]
set_option maxHeartbeats 400000 in
theorem place_any (a : Option Addr) (n c : Nat) (l : List Int) (x : Int) (w : World) (h : Ints w a n c l) :
    Calls Try.prog 28 #[.slice a n c, .int .i64 x] w fun e w' => e = .returned (.int .i64 (idxFrom l x 0)) ∧ w' = w := by
  obtain ⟨hn, hc, hm, h⟩ := h
  unfold maxLen at hm
  rcases h with h0 | ⟨b, off, rfl, hb, hcell⟩
  · subst h0
    go_enter Try.func28, Try.ntmps28
    go_wp2
    refine wp_loop_rounds 1 ?_
    rw [rounds_succ]
    go_wp2
    go_ret
    exact ⟨ret_int (by rw [idxFrom_end (by omega)]), rfl⟩
  · have HN : Hid (n = l.length) := hn
    clear hn
    go_enter Try.func28, Try.ntmps28
    go_wp2
    go_loop [5] (fun i => ∃ k : Nat, k ≤ n ∧ i = .int .i64 k ∧ idxFrom l x 0 = idxFrom l x k) (fun i => n - (intOf i).toNat)
    case atStart => exact ⟨0, Nat.zero_le _, rfl, rfl⟩
    case round =>
      obtain ⟨k, hk, rfl, hn⟩ := hrel
      have HI : Hid (idxFrom l x 0 = idxFrom l x k) := hn
      clear hn
      by_cases hlt : k < n
      · have hck := hcell k hlt
        go_wp2
        · go_ret
          refine ⟨ret_int ?_, rfl⟩
          rw [HI.out]; exact (idxFrom_yes (by have := HN.out; omega) (by simp_all)).symm
        · refine ⟨⟨k+1, by omega, by go_num, ?_⟩, by simp [intOf]; omega⟩
          rw [HI.out]; exact idxFrom_no (by have := HN.out; omega) (by simp_all)
      · go_wp2
        go_ret
        exact ⟨ret_int (by rw [HI.out, idxFrom_end (by have := HN.out; omega)]), rfl⟩
set_option maxHeartbeats 400000 in
theorem index_any (a : Option Addr) (n c : Nat) (l : List Int) (x : Int) (w : World) (h : Ints w a n c l) :
    Calls Try.prog 73 #[.slice a n c, .int .i64 x] w fun e w' => e = .returned (.int .i64 (idxFrom l x 0)) ∧ w' = w := by
  obtain ⟨hn, hc, hm, h⟩ := h
  unfold maxLen at hm
  rcases h with h0 | ⟨b, off, rfl, hb, hcell⟩
  · subst h0
    go_enter Try.func73, Try.ntmps73
    go_wp2
    refine wp_loop_rounds 1 ?_
    rw [rounds_succ]
    go_wp2
    go_ret
    exact ⟨ret_int (by rw [idxFrom_end (by omega)]), rfl⟩
  · have HN : Hid (n = l.length) := hn
    clear hn
    go_enter Try.func73, Try.ntmps73
    go_wp2
    go_loop [8, 5] (fun i _ => ∃ k : Nat, k ≤ n ∧ i = .int .i64 k ∧ idxFrom l x 0 = idxFrom l x k) (fun i _ => n - (intOf i).toNat)
    case atStart => exact ⟨0, Nat.zero_le _, rfl, rfl⟩
    case round =>
      obtain ⟨k, hk, rfl, hn⟩ := hrel
      have HI : Hid (idxFrom l x 0 = idxFrom l x k) := hn
      clear hn
      by_cases hlt : k < n
      · have hck := hcell k hlt
        go_wp2
        · go_ret
          refine ⟨ret_int ?_, rfl⟩
          rw [HI.out]; exact (idxFrom_yes (by have := HN.out; omega) (by simp_all)).symm
        · refine ⟨⟨k+1, by omega, by go_num, ?_⟩, by simp [intOf]; omega⟩
          rw [HI.out]; exact idxFrom_no (by have := HN.out; omega) (fun e => by simp_all)
      · go_wp2
        go_ret
        exact ⟨ret_int (by rw [HI.out, idxFrom_end (by have := HN.out; omega)]), rfl⟩
theorem contains_any (a : Option Addr) (n c : Nat) (l : List Int) (x : Int) (w : World) (h : Ints w a n c l) :
    Calls Try.prog 68 #[.slice a n c, .int .i64 x] w fun e w' => e = .returned (.bool (decide (0 ≤ idxFrom l x 0))) ∧ w' = w := by
  go_enter Try.func68, Try.ntmps68
  go_wp2_with (go_at_call 73; refine (index_any _ _ _ l _ _ h).mono ?_; rintro e w' ⟨rfl, rfl⟩)
  go_ret
  exact ⟨rfl, rfl⟩
theorem Ints.later {w w' : World} {a : Option Addr} {n c : Nat} {l : List Int} (h : Ints w a n c l) (hb : Below w.heap.size w w') : Ints w' a n c l := by
  obtain ⟨hn, hc, hm, h⟩ := h
  refine ⟨hn, hc, hm, ?_⟩
  rcases h with h0 | ⟨b, off, rfl, hlt, hcell⟩
  · exact Or.inl h0
  · exact Or.inr ⟨b, off, rfl, Nat.lt_of_lt_of_le hlt hb.size, fun j hj => (hb.cell (p := ⟨b, off + j, none⟩) hlt).trans (hcell j hj)⟩
theorem idxFrom_spec (l : List Int) (x : Int) : ∀ d k, l.length - k = d → (idxFrom l x k = -1 ∧ ∀ i, k ≤ i → i < l.length → ¬ l[i]?.getD 0 = x) ∨ (∃ m : Nat, k ≤ m ∧ m < l.length ∧ l[m]?.getD 0 = x ∧ idxFrom l x k = m ∧ ∀ i, k ≤ i → i < m → ¬ l[i]?.getD 0 = x) := by
  intro d
  induction d with
  | zero =>
    intro k hk
    exact Or.inl ⟨idxFrom_end (by omega), fun i h1 h2 => by omega⟩
  | succ d ih =>
    intro k hk
    by_cases he : l[k]?.getD 0 = x
    · exact Or.inr ⟨k, Nat.le_refl _, by omega, he, idxFrom_yes (by omega) he, fun i h1 h2 => by omega⟩
    · rw [idxFrom_no (by omega) he]
      rcases ih (k+1) (by omega) with ⟨h1, h2⟩ | ⟨m, h1, h2, h3, h4, h5⟩
      · refine Or.inl ⟨h1, fun i hi hl => ?_⟩
        by_cases e : i = k
        · rw [e]; exact he
        · exact h2 i (by omega) hl
      · refine Or.inr ⟨m, by omega, h2, h3, h4, fun i hi hl => ?_⟩
        by_cases e : i = k
        · rw [e]; exact he
        · exact h5 i (by omega) hl
theorem take_at (l : List Int) {k i : Nat} (h : i < k) : (l.take k)[i]?.getD 0 = l[i]?.getD 0 := by rw [List.getElem?_take, if_pos h]
/-- Named already: among the earlier ones, or its first place is ahead. -/
theorem idx_take (l : List Int) (k : Nat) (h : k < l.length) : 0 ≤ idxFrom (l.take k) (l[k]?.getD 0) 0 ↔ idxFrom l (l[k]?.getD 0) 0 < k := by
  have hl : (l.take k).length = k := by simp; omega
  rcases idxFrom_spec l (l[k]?.getD 0) _ 0 rfl with ⟨h1, h2⟩ | ⟨m, _, h2, h3, h4, h5⟩
  · exact absurd rfl (h2 k (Nat.zero_le _) h)
  · rw [h4]
    rcases idxFrom_spec (l.take k) (l[k]?.getD 0) _ 0 rfl with ⟨g1, g2⟩ | ⟨q, _, g2, g3, g4, g5⟩
    · rw [g1]
      refine ⟨fun h => by omega, fun hm => ?_⟩
      have hm' : m < k := by omega
      exact absurd (by rw [take_at l hm']; exact h3) (g2 m (Nat.zero_le _) (by omega))
    · rw [g4]
      refine ⟨fun _ => ?_, fun _ => by omega⟩
      rw [hl] at g2
      rw [take_at l g2] at g3
      rcases Nat.lt_or_ge q m with h' | h'
      · exact absurd g3 (h5 q (Nat.zero_le _) h')
      · omega
def likesFuel (l : List Int) (others : Int) : Nat → Nat → Int
  | 0, _ => 0
  | f + 1, k => if l[k]?.getD 0 < 0 ∨ others ≤ l[k]?.getD 0 then 8 else if 0 ≤ idxFrom (l.take k) (l[k]?.getD 0) 0 then 6 else likesFuel l others f (k + 1)
def likesFrom (l : List Int) (others : Int) (k : Nat) : Int := likesFuel l others (l.length - k) k
theorem likesFrom_step {l : List Int} {o : Int} {k : Nat} (h : k < l.length) : likesFrom l o k = if l[k]?.getD 0 < 0 ∨ o ≤ l[k]?.getD 0 then 8 else if 0 ≤ idxFrom (l.take k) (l[k]?.getD 0) 0 then 6 else likesFrom l o (k+1) := by
  unfold likesFrom
  rw [show l.length - k = (l.length - (k + 1)) + 1 by omega, likesFuel]
theorem likesFrom_who {l : List Int} {o : Int} {k : Nat} (h : k < l.length) (e : l[k]?.getD 0 < 0 ∨ o ≤ l[k]?.getD 0) : likesFrom l o k = 8 := by
  rw [likesFrom_step h, if_pos e]
theorem likesFrom_dbl {l : List Int} {o : Int} {k : Nat} (h : k < l.length) (e : ¬ (l[k]?.getD 0 < 0 ∨ o ≤ l[k]?.getD 0)) (d : 0 ≤ idxFrom (l.take k) (l[k]?.getD 0) 0) : likesFrom l o k = 6 := by
  rw [likesFrom_step h, if_neg e, if_pos d]
theorem likesFrom_on {l : List Int} {o : Int} {k : Nat} (h : k < l.length) (e : ¬ (l[k]?.getD 0 < 0 ∨ o ≤ l[k]?.getD 0)) (d : ¬ 0 ≤ idxFrom (l.take k) (l[k]?.getD 0) 0) : likesFrom l o k = likesFrom l o (k+1) := by
  rw [likesFrom_step h, if_neg e, if_neg d]
theorem likesFrom_end {l : List Int} {o : Int} {k : Nat} (h : ¬ k < l.length) : likesFrom l o k = 0 := by
  unfold likesFrom
  rw [show l.length - k = 0 by omega, likesFuel]
theorem Ints.take {w : World} {a : Option Addr} {n c : Nat} {l : List Int} (h : Ints w a n c l) (k : Nat) (hk : k ≤ n) : Ints w a k c (l.take k) := by
  obtain ⟨hn, hc, hm, h⟩ := h
  refine ⟨by simp; omega, by omega, hm, ?_⟩
  rcases h with h0 | ⟨b, off, rfl, hlt, hcell⟩
  · exact Or.inl (by omega)
  · refine Or.inr ⟨b, off, rfl, hlt, fun j hj => ?_⟩
    rw [hcell j (by omega), List.getElem?_take, if_pos hj]
set_option maxHeartbeats 1000000 in
theorem maySome_any (la : Option Addr) (ln lc : Nat) (likes : List Int) (o : Int) (w : World) (hl : Ints w la ln lc likes) :
    Calls Try.prog 57 #[.slice la ln lc, .int .i64 o] w fun e w' => e = .returned (.int .i64 (likesFrom likes o 0)) ∧ w' = w := by
  have hl0 := hl
  obtain ⟨hn', hc', hm', hrow⟩ := hl
  unfold maxLen at hm'
  have HN := hide hn'
  clear hn'
  rcases hrow with hz | ⟨b, off, rfl, hb, hcell⟩
  · subst hz
    go_enter Try.func57, Try.ntmps57
    go_wp2
    refine wp_loop_rounds 1 ?_
    rw [rounds_succ]
    go_wp2
    go_ret
    exact ⟨ret_int (by rw [likesFrom_end (by have := unhide HN; omega)]), rfl⟩
  go_enter Try.func57, Try.ntmps57
  go_wp2
  go_loop [9, 5, 6] (fun i _ _ => ∃ k : Nat, k ≤ ln ∧ i = .int .i64 k ∧ likesFrom likes o 0 = likesFrom likes o k) (fun i _ _ => ln - (intOf i).toNat)
  case atStart => exact ⟨0, Nat.zero_le _, rfl, rfl⟩
  case round =>
    obtain ⟨k, hk, rfl, hn⟩ := hrel
    have HI := hide hn
    clear hn
    by_cases hlt : k < ln
    · have hck : w.cell? ⟨b, off + k, none⟩ = some (.int .i64 (likes[k]?.getD 0)) := hcell k hlt
      have hlen : k < likes.length := by have := unhide HN; omega
      have HL := hide hlen
      clear hlen
      by_cases he : likes[k]?.getD 0 < 0 ∨ o ≤ likes[k]?.getD 0
      · have HE := hide (likesFrom_who (unhide HL) he)
        rcases he with he | he
        · go_wp2
          go_ret
          exact ⟨ret_int (by rw [unhide HI, unhide HE]), rfl⟩
        · by_cases he2 : likes[k]?.getD 0 < 0
          · go_wp2
            go_ret
            exact ⟨ret_int (by rw [unhide HI, unhide HE]), rfl⟩
          · go_wp2
            go_ret
            exact ⟨ret_int (by rw [unhide HI, unhide HE]), rfl⟩
      · have he1 : ¬ likes[k]?.getD 0 < 0 := by omega
        have he2 : ¬ o ≤ likes[k]?.getD 0 := by omega
        by_cases hd : 0 ≤ idxFrom (likes.take k) (likes[k]?.getD 0) 0
        · have HE := hide (likesFrom_dbl (unhide HL) he hd)
          clear he
          go_wp2_with (go_at_call 68; refine (contains_any _ k lc (likes.take k) _ _ (hl0.take k hk)).mono ?_; rintro e w' ⟨rfl, rfl⟩)
          go_ret
          exact ⟨ret_int (by rw [unhide HI, unhide HE]), rfl⟩
        · have HE := hide (likesFrom_on (unhide HL) he hd)
          have hd' : idxFrom (likes.take k) (likes[k]?.getD 0) 0 < 0 := by omega
          clear he
          go_wp2_with (go_at_call 68; refine (contains_any _ k lc (likes.take k) _ _ (hl0.take k hk)).mono ?_; rintro e w' ⟨rfl, rfl⟩)
          refine ⟨⟨k+1, by omega, by go_num, by rw [unhide HI, unhide HE]⟩, by simp [intOf]; omega⟩
    · go_wp2
      go_ret
      exact ⟨ret_int (by rw [unhide HI, likesFrom_end (by have := unhide HN; omega)]), rfl⟩
set_option maxHeartbeats 1000000 in
theorem some_any (la : Option Addr) (ln lc : Nat) (likes : List Int) (o : Int) (w : World) (hl : Ints w la ln lc likes) :
    Calls Try.prog 56 #[.slice la ln lc, .int .i64 o] w fun e w' => e = .returned (.int .i64 (likesFrom likes o 0)) ∧ w' = w := by
  have hl0 := hl
  obtain ⟨hn', hc', hm', hrow⟩ := hl
  unfold maxLen at hm'
  have HN := hide hn'
  clear hn'
  rcases hrow with hz | ⟨b, off, rfl, hb, hcell⟩
  · subst hz
    go_enter Try.func56, Try.ntmps56
    go_wp2
    refine wp_loop_rounds 1 ?_
    rw [rounds_succ]
    go_wp2
    go_ret
    exact ⟨ret_int (by rw [likesFrom_end (by have := unhide HN; omega)]), rfl⟩
  go_enter Try.func56, Try.ntmps56
  go_wp2
  go_loop [5, 6] (fun i _ => ∃ k : Nat, k ≤ ln ∧ i = .int .i64 k ∧ likesFrom likes o 0 = likesFrom likes o k) (fun i _ => ln - (intOf i).toNat)
  case atStart => exact ⟨0, Nat.zero_le _, rfl, rfl⟩
  case round =>
    obtain ⟨k, hk, rfl, hn⟩ := hrel
    have HI := hide hn
    clear hn
    by_cases hlt : k < ln
    · have hck : w.cell? ⟨b, off + k, none⟩ = some (.int .i64 (likes[k]?.getD 0)) := hcell k hlt
      have hlen : k < likes.length := by have := unhide HN; omega
      have hit := idx_take likes k hlen
      have HL := hide hlen
      clear hlen
      by_cases he : likes[k]?.getD 0 < 0 ∨ o ≤ likes[k]?.getD 0
      · have HE := hide (likesFrom_who (unhide HL) he)
        clear hit
        rcases he with he | he
        · go_wp2
          go_ret
          exact ⟨ret_int (by rw [unhide HI, unhide HE]), rfl⟩
        · by_cases he2 : likes[k]?.getD 0 < 0
          · go_wp2
            go_ret
            exact ⟨ret_int (by rw [unhide HI, unhide HE]), rfl⟩
          · go_wp2
            go_ret
            exact ⟨ret_int (by rw [unhide HI, unhide HE]), rfl⟩
      · have he1 : ¬ likes[k]?.getD 0 < 0 := by omega
        have he2 : ¬ o ≤ likes[k]?.getD 0 := by omega
        by_cases hd : idxFrom likes (likes[k]?.getD 0) 0 < k
        · have HE := hide (likesFrom_dbl (unhide HL) he (hit.2 hd))
          clear he hit
          go_wp2_with (go_at_call 28; refine (place_any _ ln lc likes _ _ hl0).mono ?_; rintro e w' ⟨rfl, rfl⟩)
          go_ret
          exact ⟨ret_int (by rw [unhide HI, unhide HE]), rfl⟩
        · have HE := hide (likesFrom_on (unhide HL) he (fun h => hd (hit.1 h)))
          have hd' : (k : Int) ≤ idxFrom likes (likes[k]?.getD 0) 0 := by omega
          clear he hit
          go_wp2_with (go_at_call 28; refine (place_any _ ln lc likes _ _ hl0).mono ?_; rintro e w' ⟨rfl, rfl⟩)
          refine ⟨⟨k+1, by omega, by go_num, by rw [unhide HI, unhide HE]⟩, by simp [intOf]; omega⟩
    · go_wp2
      go_ret
      exact ⟨ret_int (by rw [unhide HI, likesFrom_end (by have := unhide HN; omega)]), rfl⟩
/-- T1 of an order of n. -/
def ordE (l : List Int) (n : Int) : Int := if (l.length : Int) = n then likesFrom l n 0 else 7
theorem ordersMay_any (la : Option Addr) (ln lc : Nat) (likes : List Int) (o : Int) (w : World) (hl : Ints w la ln lc likes) :
    Calls Try.prog 30 #[.slice la ln lc, .int .i64 o] w fun e w' => e = .returned (.int .i64 (ordE likes o)) ∧ w' = w := by
  have hn := hide hl.1
  by_cases h : (ln : Int) = o
  · subst h
    go_enter Try.func30, Try.ntmps30
    go_wp2_with (go_at_call 57; refine (maySome_any _ ln lc likes _ _ hl).mono ?_; rintro e w' ⟨rfl, rfl⟩)
    go_ret
    exact ⟨ret_int (by unfold ordE; rw [if_pos (by have := unhide hn; omega)]), rfl⟩
  · go_enter Try.func30, Try.ntmps30
    go_wp2
    go_ret
    exact ⟨ret_int (by unfold ordE; rw [if_neg (by have := unhide hn; omega)]), rfl⟩
theorem orderOf_any (la : Option Addr) (ln lc : Nat) (likes : List Int) (o : Int) (w : World) (hl : Ints w la ln lc likes) :
    Calls Try.prog 29 #[.slice la ln lc, .int .i64 o] w fun e w' => e = .returned (.int .i64 (ordE likes o)) ∧ w' = w := by
  have hn := hide hl.1
  by_cases h : (ln : Int) = o
  · subst h
    go_enter Try.func29, Try.ntmps29
    go_wp2_with (go_at_call 56; refine (some_any _ ln lc likes _ _ hl).mono ?_; rintro e w' ⟨rfl, rfl⟩)
    go_ret
    exact ⟨ret_int (by unfold ordE; rw [if_pos (by have := unhide hn; omega)]), rfl⟩
  · go_enter Try.func29, Try.ntmps29
    go_wp2
    go_ret
    exact ⟨ret_int (by unfold ordE; rw [if_neg (by have := unhide hn; omega)]), rfl⟩
theorem owns_drew {w : World} {B : Nat} {e : TypeId} {size : Nat} {v : Value} {n : Nat} {xs : List Value} (h : w.ownsRow B e size v n xs) : w.drew.ownsRow B e size v n xs := h
theorem owns_later {w w' : World} {B : Nat} {e : TypeId} {size : Nat} {v : Value} {n : Nat} {xs : List Value} (h : w.ownsRow B e size v n xs) (hb : Below w.heap.size w w') : w'.ownsRow B e size v n xs :=
  h.kept (row := none) ⟨hb.os, hb.tape, hb.output, hb.size, fun k hk _ => hb.block k hk⟩ (by cases hv : v.ownBlock <;> simp)
theorem below_drewN (B : Nat) (w : World) (n : Nat) : Below B w (w.drewN n) := ⟨rfl, rfl, rfl, Nat.le_refl _, fun _ _ => rfl⟩
theorem info3 : (Try.prog.info? 3).map (fun i => (i.zero, i.size, i.bytes)) = some (some (.int .i64 0), 1, 8) := by kernel_rfl
def intVals (l : List Int) : List Value := l.map (Value.int .i64)
theorem wpList_append_int (w : World) {ops : Array Oper} {rest : List Oper} {o : Oper} {a : Act} {Q : Exit → Act → World → Prop} (hgd : o.guard = none) (s x : Operand)
    (ho : o.op = .call { callee := .builtin .append, args := #[s, x], argTypes := #[23, 23] })
    (base : Nat) (v : Value) (n : Nat) (xs : List Value) (hs : a.eval s = v) (hown : w.ownsRow base 3 1 v n xs)
    (g : Nat) (y : Int) (hx : a.eval x = .slice (some ⟨g, 0, none⟩) 1 1) (hc : w.cell? ⟨g, 0, none⟩ = some (.int .i64 y))
    (hsm : n ≤ 1000) (hbase : base ≤ w.heap.size)
    (hK : ∀ v' w', w'.ownsRow base 3 1 v' (n + 1) (xs ++ [.int .i64 y]) → w.grownBy w' v.ownBlock → wpList Try.prog ops Q rest (a.put o.dst v') w') : wpList Try.prog ops Q (o :: rest) a w := by
  obtain ⟨i9, hi9, hz90, hz91, hz92⟩ := info_parts info3
  exact wpList_append_own w hgd s x 23 ho base 3 i9 _ 1 8 Try.underlying23 hi9 hz90 hz91 hz92 rfl (by decide) v n xs hs hown ⟨g, 0, none⟩ 1 1 [.int .i64 y] hx rfl
    (fun j u hu => by
      cases j with
      | zero => simp at hu; subst hu; simpa [Addr.add] using hc
      | succ j => simp at hu)
    (fun u hu => by simp at hu; subst hu; rfl) (by unfold maxLen; omega) (by omega) hbase (fun v' w' h1 h2 _ => hK v' w' h1 h2)
theorem Ints.of_owns {w : World} {B : Nat} {v : Value} {n : Nat} {l : List Int} (h : w.ownsRow B 3 1 v n (intVals l)) (hn : n ≤ 1000) : ∃ a c, v = .slice a n c ∧ Ints w a n c l ∧ (n = 0 ∨ ∃ g, B ≤ g ∧ g < w.heap.size ∧ a = some ⟨g, 0, none⟩) := by
  have hl : l.length = n := by have := h.1; simp [intVals] at this; omega
  have h0 := h
  rcases h.2 with ⟨rfl, rfl⟩ | ⟨g, cap, cur, rfl, hbg, hgg, hnc, hcm, hcs, htake⟩
  · exact ⟨none, 0, rfl, ⟨hl.symm, Nat.le_refl _, by unfold maxLen; omega, .inl rfl⟩, .inl rfl⟩
  · by_cases hz : n = 0
    · exact ⟨_, cap, rfl, ⟨hl.symm, hnc, hcm, .inl hz⟩, .inl hz⟩
    · have hc0 : ∀ j, j < n → w.cell? ⟨g, 0 + j, none⟩ = some (.int .i64 (l[j]?.getD 0)) := fun j hj => by
        rw [Nat.zero_add, h0.cellAt j (by omega), intVals, List.getElem?_map, List.getElem?_eq_getElem (show j < l.length by omega)]
        simp
      have hlt : g < w.heap.size := World.block_lt_of_cell? w _ (hc0 0 (by omega))
      exact ⟨_, cap, rfl, ⟨hl.symm, hnc, hcm, .inr ⟨g, 0, rfl, hlt, hc0⟩⟩, .inr ⟨g, hbg, hlt, rfl⟩⟩
theorem Ints.cellAt {w : World} {a : Option Addr} {n c : Nat} {l : List Int} (h : Ints w a n c l) (hn : 0 < n) : ∃ b off, a = some ⟨b, off, none⟩ ∧ b < w.heap.size ∧ ∀ j, j < n → w.cell? ⟨b, off + j, none⟩ = some (.int .i64 (l[j]?.getD 0)) := by
  obtain ⟨_, _, _, h0 | ⟨b, off, rfl, hb, hcell⟩⟩ := h
  · omega
  · exact ⟨b, off, rfl, hb, hcell⟩
/-- A slice of ints, as a cell holds it, and what it holds. -/
structure Sl where
  la : Option Addr
  ln : Nat
  lc : Nat
  ints : List Int
def slNone : Sl := ⟨none, 0, 0, []⟩
def Sl.val (s : Sl) : Value := .slice s.la s.ln s.lc
def slVals (l : List Sl) : List Value := l.map Sl.val
def slAt (l : List Sl) (j : Nat) : Sl := l[j]?.getD slNone
def lists (l : List Sl) : List (List Int) := l.map (·.ints)
/-- A slice of slices of ints as it lies. -/
def Lsts (w : World) (a : Option Addr) (n c : Nat) (l : List Sl) : Prop :=
  n = l.length ∧ n ≤ c ∧ c ≤ maxLen ∧ (∀ s ∈ l, Ints w s.la s.ln s.lc s.ints) ∧
  (n = 0 ∨ ∃ b off, a = some ⟨b, off, none⟩ ∧ b < w.heap.size ∧ ∀ j, j < n → w.cell? ⟨b, off + j, none⟩ = some (.slice (slAt l j).la (slAt l j).ln (slAt l j).lc))
theorem Lsts.later {w w' : World} {a : Option Addr} {n c : Nat} {l : List Sl} (h : Lsts w a n c l) (hb : Below w.heap.size w w') : Lsts w' a n c l := by
  obtain ⟨hn, hc, hm, hg, h⟩ := h
  refine ⟨hn, hc, hm, fun s m => (hg s m).later hb, ?_⟩
  rcases h with h0 | ⟨b, off, rfl, hlt, hcell⟩
  · exact Or.inl h0
  · exact Or.inr ⟨b, off, rfl, Nat.lt_of_lt_of_le hlt hb.size, fun j hj => (hb.cell (p := ⟨b, off + j, none⟩) hlt).trans (hcell j hj)⟩
theorem Lsts.cellAt {w : World} {a : Option Addr} {n c : Nat} {l : List Sl} (h : Lsts w a n c l) (hn : 0 < n) : ∃ b off, a = some ⟨b, off, none⟩ ∧ b < w.heap.size ∧ ∀ j, j < n → w.cell? ⟨b, off + j, none⟩ = some (.slice (slAt l j).la (slAt l j).ln (slAt l j).lc) := by
  obtain ⟨_, _, _, _, h0 | ⟨b, off, rfl, hb, hcell⟩⟩ := h
  · omega
  · exact ⟨b, off, rfl, hb, hcell⟩
theorem Lsts.mem {w : World} {a : Option Addr} {n c : Nat} {l : List Sl} (h : Lsts w a n c l) {k : Nat} (hk : k < n) : Ints w (slAt l k).la (slAt l k).ln (slAt l k).lc (slAt l k).ints := by
  refine h.2.2.2.1 _ ?_
  unfold slAt
  rw [List.getElem?_eq_getElem (show k < l.length by have := h.1; omega)]
  simp
theorem slAt_mem {l : List Sl} {j : Nat} (h : j < l.length) : slAt l j ∈ l := by
  unfold slAt
  rw [List.getElem?_eq_getElem h]
  exact List.getElem_mem h
def two (v : Value) (e : Int) : Value := .tuple #[v, .int .i64 e]
theorem intVals_len (l : List Int) : (intVals l).length = l.length := by simp [intVals]
theorem intVals_append (a b : List Int) : intVals (a ++ b) = intVals a ++ intVals b := by simp [intVals]
theorem intVals_at (l : List Int) (j : Nat) (h : j < l.length) : (intVals l)[j]? = some (.int .i64 (l[j]?.getD 0)) := by
  unfold intVals
  rw [List.getElem?_map, List.getElem?_eq_getElem h]
  rfl
theorem run_append_ints (w : World) (ty : TypeId) (base : Nat) (v : Value) (n : Nat) (xs : List Int) (hown : w.ownsRow base 3 1 v n (intVals xs)) (a : Option Addr) (m c : Nat) (l : List Int) (h : Ints w a m c l)
    (hsm : n + m ≤ 1000) (hbase : base ≤ w.heap.size) :
    ∃ v' w', (Builtin.append_ #[23, 23] ty #[v, .slice a m c]).run Try.prog w = .ok v' w' ∧ w'.ownsRow base 3 1 v' (n + m) (intVals (xs ++ l)) ∧ w.grownBy w' v.ownBlock := by
  obtain ⟨i0, hi, hz0, hz1, hz2⟩ := info_parts info3
  have hl : l.length = m := h.1.symm
  by_cases hm : 0 < m
  · obtain ⟨b, off, rfl, hb, hcell⟩ := h.cellAt hm
    have hc2 : ∀ j u, (intVals l)[j]? = some u → w.cell? ((⟨b, off, none⟩ : Addr).add j) = some u := by
      intro j u hu
      have hj : j < l.length := by
        rcases Nat.lt_or_ge j l.length with h' | h'
        · exact h'
        · rw [List.getElem?_eq_none (by rw [intVals_len]; exact h')] at hu; cases hu
      rw [intVals_at l j hj] at hu
      cases hu
      have e : (⟨b, off, none⟩ : Addr).add j = ⟨b, off + j, none⟩ := by unfold Addr.add; split <;> simp_all
      rw [e]
      exact hcell j (by omega)
    obtain ⟨v', w', hr, ho, hg, _⟩ := run_append_own (P := Try.prog) w base 23 ty 3 i0 _ 1 8 Try.underlying23 hi hz0 hz1 hz2 rfl (by decide) v n (intVals xs) hown ⟨b, off, none⟩ m c (intVals l) (by rw [intVals_len, hl, Nat.mul_one]) hc2 (fun u hu => by unfold intVals at hu; obtain ⟨y, _, rfl⟩ := List.mem_map.1 hu; rfl) (by unfold maxLen; omega) (by omega) hbase
    exact ⟨v', w', hr, by rw [intVals_append]; exact ho, hg⟩
  · obtain rfl : m = 0 := by omega
    obtain rfl : l = [] := List.length_eq_zero_iff.1 hl
    have hs : Src Try.prog i0.size 23 (.slice a 0 c) 0 [] w := by
      cases a with
      | none => exact Src.ofNil w Try.underlying23 c
      | some ad => exact Src.ofSlice w Try.underlying23 ad 0 c [] (by simp) (by simp) (by simp)
    refine ⟨v, w, ?_, by simpa using hown, ⟨rfl, rfl, rfl, Nat.le_refl _, fun _ _ _ => rfl⟩⟩
    rcases hown.2 with ⟨rfl, rfl⟩ | ⟨g, cap, cur, rfl, _, _, hnc, _⟩
    · exact run_append_nothing w 23 23 ty 3 i0 Try.underlying23 hi none 0 0 (Nat.le_refl _) _ hs
    · exact run_append_nothing w 23 23 ty 3 i0 Try.underlying23 hi _ n cap hnc _ hs
theorem wpList_append_ints (w : World) {ops : Array Oper} {rest : List Oper} {o : Oper} {a : Act} {Q : Exit → Act → World → Prop} (hgd : o.guard = none) (s x : Operand)
    (ho : o.op = .call { callee := .builtin .append, args := #[s, x], argTypes := #[23, 23] })
    (base : Nat) (v : Value) (n : Nat) (xs : List Int) (hs : a.eval s = v) (hown : w.ownsRow base 3 1 v n (intVals xs))
    (ad : Option Addr) (m c : Nat) (l : List Int) (hx : a.eval x = .slice ad m c) (h : Ints w ad m c l)
    (hsm : n + m ≤ 1000) (hbase : base ≤ w.heap.size)
    (hK : ∀ v' w', w'.ownsRow base 3 1 v' (n + m) (intVals (xs ++ l)) → w.grownBy w' v.ownBlock → wpList Try.prog ops Q rest (a.put o.dst v') w') : wpList Try.prog ops Q (o :: rest) a w :=
  wpList_plain hgd fun _ hk => by
    obtain ⟨v', w', hr, h2, h3⟩ := run_append_ints w o.type base v n xs hown ad m c l h hsm hbase
    unfold Oper.wp execOp
    simp only [ho, resolve, invoke, builtin, Sem.run_bind, Sem.run_pure, Result.andThen_ok, List.map_toArray, List.map_cons, List.map_nil, hs, hx, hr]
    exact hk _ _ (hK v' w' h2 h3)
set_option maxRecDepth 100000 in
set_option maxHeartbeats 1000000 in
theorem clone_any (a : Option Addr) (n c : Nat) (l : List Int) (w : World) (h : Ints w a n c l) (hs : n ≤ 1000) :
    Calls Try.prog 72 #[.slice a n c] w fun e w' => ∃ v, e = .returned v ∧ w'.ownsRow w.heap.size 3 1 v n (intVals l) ∧ Below w.heap.size w w' := by
  cases a with
  | none =>
    have hz : n = 0 := by
      rcases h.2.2.2 with h0 | ⟨b, off, hh, _⟩
      · exact h0
      · cases hh
    have hl : l = [] := List.length_eq_zero_iff.1 (by have := h.1; omega)
    subst hz hl
    have hq : ∀ w, (binOp .eql 23 (.slice none 0 c) (.slice none 0 0)).run Try.prog w = .ok (.bool true) w := fun w => Lib.run_eql_slice_nil w 23 3 none 0 c 0 0 Try.underlying23
    go_enter Try.func72, Try.ntmps72
    go_wp2
    go_ret
    exact ⟨_, rfl, World.ownsRow_nil _ _ _ _, Below.refl _ _⟩
  | some ad =>
    have hb0 : Below w.heap.size w (w.alloc (.cells #[] 3)) := by go_grown
    have h1 := h.later hb0
    have hown0 : (w.alloc (.cells #[] 3)).ownsRow w.heap.size 3 1 (.slice (some ⟨w.heap.size, 0, none⟩) 0 0) 0 (intVals []) :=
      World.ownsRow_made (base := w.heap.size) (e := 3) (size := 1) w #[] 0 (Nat.le_refl _) (by unfold maxLen; omega) rfl
    have HO := hide hown0
    clear hown0
    have hq : ∀ w, (binOp .eql 23 (.slice (some ad) n c) (.slice none 0 0)).run Try.prog w = .ok (.bool false) w := fun w => Lib.run_eql_slice_nil w 23 3 (some ad) n c 0 0 Try.underlying23
    go_enter Try.func72, Try.ntmps72
    go_wp2_with (at_builtin; refine wpList_append_ints _ rfl _ _ rfl w.heap.size _ 0 [] rfl (unhide HO) (some ad) n c l rfl h1 (by omega) (by simp) ?_; intro v2 w2 ho2 hg2)
    go_ret
    have hb2 := ((Below.refl w.heap.size _).grown hg2 (by simp) (fun k hk => ((unhide HO).lt k hk).1))
    refine ⟨_, rfl, ?_, hb0.trans hb2⟩
    simpa using ho2
/-- What the row that is being written reads as. -/
def Row (base : Nat) (W : World) (va : Option Addr) (n : Nat) (f : Nat → Int) : Prop :=
  n = 0 ∨ ∃ g, va = some ⟨g, 0, none⟩ ∧ base ≤ g ∧ g < W.heap.size ∧ (∀ j, j < n → W.cell? ⟨g, j, none⟩ = some (.int .i64 (f j))) ∧ (∀ j, j < n → W.frozen? ⟨g, j, none⟩ = false)
theorem Row.of_owns {W : World} {base : Nat} {v : Value} {n : Nat} {l : List Int} (h : W.ownsRow base 3 1 v n (intVals l)) :
    ∃ va cap, v = .slice va n cap ∧ n ≤ cap ∧ cap ≤ maxLen ∧ Row base W va n (fun j => l[j]?.getD 0) := by
  have hl : l.length = n := by have := h.1; rw [intVals_len] at this; omega
  have h0 := h
  rcases h.2 with ⟨rfl, rfl⟩ | ⟨g, cap, cur, rfl, hbg, hgg, hnc, hcm, hcs, htake⟩
  · exact ⟨none, 0, rfl, Nat.le_refl _, by unfold maxLen; omega, .inl rfl⟩
  · refine ⟨_, cap, rfl, hnc, hcm, .inr ⟨g, rfl, hbg, ?_, fun j hj => ?_, fun j hj => ?_⟩⟩
    · rcases Nat.lt_or_ge g W.heap.size with h' | h'
      · exact h'
      · rw [Array.getElem?_eq_none h'] at hgg; cases hgg
    · rw [h0.cellAt j (by omega), intVals_at l j (by omega)]
    · simp [World.frozen?, hgg]
theorem Row.later {base : Nat} {W W' : World} {va : Option Addr} {n : Nat} {f : Nat → Int} (h : Row base W va n f) (hb : Below W.heap.size W W') : Row base W' va n f := by
  rcases h with h | ⟨g, h1, h2, h3, h4, h5⟩
  · exact .inl h
  · exact .inr ⟨g, h1, h2, Nat.lt_of_lt_of_le h3 hb.size, fun j hj => (hb.cell (p := ⟨g, j, none⟩) h3).trans (h4 j hj), fun j hj => (hb.frozen (p := ⟨g, j, none⟩) h3).trans (h5 j hj)⟩
theorem Row.same {base : Nat} {W : World} {va : Option Addr} {n : Nat} {f f' : Nat → Int} (h : Row base W va n f) (e : ∀ j, j < n → f j = f' j) : Row base W va n f' := by
  rcases h with h | ⟨g, h1, h2, h3, h4, h5⟩
  · exact .inl h
  · exact .inr ⟨g, h1, h2, h3, fun j hj => by rw [h4 j hj, e j hj], h5⟩
theorem Row.ints {base : Nat} {W : World} {va : Option Addr} {n cap : Nat} {f : Nat → Int} {l : List Int} (h : Row base W va n f) (hl : n = l.length) (h1 : n ≤ cap) (h2 : cap ≤ maxLen) (e : ∀ j, j < n → f j = l[j]?.getD 0) : Ints W va n cap l := by
  refine ⟨hl, h1, h2, ?_⟩
  rcases h with h | ⟨g, h1, h2, h3, h4, h5⟩
  · exact .inl h
  · exact .inr ⟨g, 0, h1, h3, fun j hj => by rw [Nat.zero_add, h4 j hj, e j hj]⟩
theorem Row.set {base : Nat} {W : World} {g n k : Nat} {f f' : Nat → Int} {x : Int} (h : Row base W (some ⟨g, 0, none⟩) n f) (hk : k < n) (e : ∀ j, j < n → j ≠ k → f j = f' j) (ek : x = f' k) : Row base (W.setCell ⟨g, k, none⟩ (.int .i64 x)) (some ⟨g, 0, none⟩) n f' := by
  rcases h with h | ⟨g', h1, h2, h3, h4, h5⟩
  · omega
  · cases h1
    refine .inr ⟨g, rfl, h2, by simpa using h3, fun j hj => ?_, fun j hj => by rw [World.frozen?_setCell]; exact h5 j hj⟩
    by_cases hjk : j = k
    · subst hjk
      rw [World.cell?_setCell_same' W ⟨g, j, none⟩ _ (by rw [h4 j hj]; rfl), ek]
    · rw [World.cell?_setCell_other _ _ _ _ (by intro hh; cases hh; exact hjk rfl), h4 j hj, e j hj hjk]
theorem Row.at {base : Nat} {W : World} {g n : Nat} {f : Nat → Int} (h : Row base W (some ⟨g, 0, none⟩) n f) {j : Nat} (hj : j < n) : W.cell? ⟨g, j, none⟩ = some (.int .i64 (f j)) ∧ W.frozen? ⟨g, j, none⟩ = false ∧ g < W.heap.size ∧ base ≤ g := by
  rcases h with h | ⟨b, h1, h2, h3, h4, h5⟩
  · omega
  · cases h1; exact ⟨h4 j hj, h5 j hj, h3, h2⟩
theorem Row.apart {base : Nat} {W : World} {va : Option Addr} {n : Nat} {f : Nat → Int} {g : Nat} {j : Nat} {v : Value} (h : Row base W va n f) (hg : ∀ b, va = some ⟨b, 0, none⟩ → b ≠ g) : Row base (W.setCell ⟨g, j, none⟩ v) va n f := by
  rcases h with h | ⟨b, rfl, h2, h3, h4, h5⟩
  · exact .inl h
  · have hb := hg b rfl
    refine .inr ⟨b, rfl, h2, by simpa using h3, fun t ht => ?_, fun t ht => by rw [World.frozen?_setCell]; exact h5 t ht⟩
    rw [World.cell?_setCell_other _ _ _ _ (by intro hh; cases hh; exact hb rfl), h4 t ht]
theorem made_at (v : Value) (hv : v.cells = #[v]) (n j : Nat) (hj : j < n) : (madeCells v.cells (n * 1)).toList[j]? = some v := by
  rw [hv]
  unfold madeCells
  rw [Nat.mul_one]
  simp [hj, Nat.mod_one]
theorem row_made {W : World} {base G n : Nat} (h : W.ownsRow base 3 1 (.slice (some ⟨G, 0, none⟩) n n) n (madeCells (Value.int .i64 0).cells (n * 1)).toList) : Row base W (some ⟨G, 0, none⟩) n (fun _ => 0) := by
  have h0 := h
  rcases h.2 with ⟨h1, _⟩ | ⟨g, cap, cur, h1, hbg, hgg, hnc, hcm, hcs, htake⟩
  · cases h1
  · cases h1
    refine .inr ⟨G, rfl, hbg, (Array.getElem?_eq_some_iff.1 hgg).1, fun j hj => ?_, fun j _ => by simp [World.frozen?, hgg]⟩
    rw [h0.cellAt j (by omega), made_at _ rfl n j hj]
def eqFuel (l m : List Int) : Nat → Nat → Bool
  | 0, _ => true
  | f + 1, k => decide (l[k]?.getD 0 = m[k]?.getD 0) && eqFuel l m f (k + 1)
def eqFrom (l m : List Int) (k : Nat) : Bool := eqFuel l m (l.length - k) k
theorem eqFrom_step {l m : List Int} {k : Nat} (h : k < l.length) : eqFrom l m k = (decide (l[k]?.getD 0 = m[k]?.getD 0) && eqFrom l m (k+1)) := by
  unfold eqFrom
  rw [show l.length - k = (l.length - (k + 1)) + 1 by omega, eqFuel]
theorem eqFrom_yes {l m : List Int} {k : Nat} (h : k < l.length) (e : l[k]?.getD 0 = m[k]?.getD 0) : eqFrom l m k = eqFrom l m (k+1) := by
  rw [eqFrom_step h, decide_eq_true e, Bool.true_and]
theorem eqFrom_no {l m : List Int} {k : Nat} (h : k < l.length) (e : ¬ l[k]?.getD 0 = m[k]?.getD 0) : eqFrom l m k = false := by
  rw [eqFrom_step h, decide_eq_false e, Bool.false_and]
theorem eqFrom_end {l m : List Int} {k : Nat} (h : ¬ k < l.length) : eqFrom l m k = true := by
  unfold eqFrom
  rw [show l.length - k = 0 by omega, eqFuel]
theorem eqFrom_all {l m : List Int} : ∀ (d k : Nat), l.length - k = d → eqFrom l m k = true → ∀ j, k ≤ j → j < l.length → l[j]?.getD 0 = m[j]?.getD 0
  | 0, k, hd, _, j, hj, hl => by omega
  | d + 1, k, hd, h, j, hj, hl => by
    have hk : k < l.length := by omega
    rw [eqFrom_step hk, Bool.and_eq_true, decide_eq_true_eq] at h
    by_cases e : j = k
    · rw [e]; exact h.1
    · exact eqFrom_all d (k + 1) (by omega) h.2 j (by omega) hl
theorem eqFrom_refl {l : List Int} : ∀ (d k : Nat), l.length - k = d → eqFrom l l k = true
  | 0, k, hd => eqFrom_end (by omega)
  | d + 1, k, hd => by rw [eqFrom_step (by omega), eqFrom_refl d (k + 1) (by omega)]; simp
theorem eqFrom_eq {l m : List Int} (hl : l.length = m.length) : eqFrom l m 0 = decide (l = m) := by
  by_cases e : l = m
  · subst e; rw [eqFrom_refl _ 0 rfl]; simp
  · rw [decide_eq_false e]
    cases h : eqFrom l m 0 with
    | false => rfl
    | true =>
      refine absurd ?_ e
      refine List.ext_getElem hl fun j h1 h2 => ?_
      have := eqFrom_all _ 0 rfl h j (Nat.zero_le _) h1
      simpa [h1, h2] using this
set_option maxHeartbeats 1000000 in
theorem sameInts_any (a a' : Option Addr) (n c n' c' : Nat) (l m : List Int) (w : World) (h : Ints w a n c l) (h' : Ints w a' n' c' m) :
    Calls Try.prog 58 #[.slice a n c, .slice a' n' c'] w fun e w' => e = .returned (.bool (decide (l = m))) ∧ Below w.heap.size w w' := by
  obtain ⟨hn, hc, hm, h⟩ := h
  obtain ⟨hn', hc', hm', h'⟩ := h'
  unfold maxLen at hm hm'
  have HN : Hid (n = l.length) := hn
  have HN' : Hid (n' = m.length) := hn'
  clear hn hn'
  by_cases hnn : n = n'
  · subst hnn
    have HL : Hid (decide (l = m) = eqFrom l m 0) := (eqFrom_eq (HN.out.symm.trans HN'.out)).symm
    rcases h with h0 | ⟨b, off, rfl, hb, hcell⟩
    · subst h0
      go_enter Try.func58, Try.ntmps58
      go_wp2
      refine wp_loop_rounds 1 ?_
      rw [rounds_succ]
      go_wp2
      go_ret
      exact ⟨ret_bool (by rw [HL.out, eqFrom_end (by have := HN.out; omega)]), Below.refl _ _⟩
    · rcases h' with h0 | ⟨b', off', rfl, hb', hcell'⟩
      · subst h0
        go_enter Try.func58, Try.ntmps58
        go_wp2
        refine wp_loop_rounds 1 ?_
        rw [rounds_succ]
        go_wp2
        go_ret
        exact ⟨ret_bool (by rw [HL.out, eqFrom_end (by have := HN.out; omega)]), Below.refl _ _⟩
      · go_enter Try.func58, Try.ntmps58
        go_wp2
        go_loopw [5] (fun i wr => Below w.heap.size w wr ∧ ∃ k : Nat, k ≤ n ∧ i = .int .i64 k ∧ eqFrom l m 0 = eqFrom l m k) (fun i _ => n - (intOf i).toNat)
        case atStart => exact ⟨Below.refl _ _, 0, Nat.zero_le _, rfl, rfl⟩
        case round =>
          obtain ⟨hbr, k, hk, rfl, hn⟩ := hrel
          have HI : Hid (eqFrom l m 0 = eqFrom l m k) := hn
          clear hn
          by_cases hlt : k < n
          · have hck := (hbr.cell (p := ⟨b, off + k, none⟩) hb).trans (hcell k hlt)
            have hck' := (hbr.cell (p := ⟨b', off' + k, none⟩) hb').trans (hcell' k hlt)
            clear hcell hcell'
            by_cases q : l[k]?.getD 0 = m[k]?.getD 0
            · have HQ : Hid (l[k]?.getD 0 = m[k]?.getD 0) := q
              rw [← q] at hck'
              clear q
              go_wp2
              go_quiet (fail)
              go_wp2
              go_roundw
              case rel => exact ⟨hbr.trans (below_drewN _ _ _), k+1, by omega, by go_num, by rw [HI.out]; exact eqFrom_yes (by have := HN.out; omega) HQ.out⟩
              case measure => simp [intOf]; omega
            · go_wp2
              go_quiet (fail)
              go_wp2
              go_ret
              refine ⟨ret_bool ?_, hbr.trans (below_drewN _ _ _)⟩
              rw [HL.out, HI.out]; exact (eqFrom_no (by have := HN.out; omega) q).symm
          · go_wp2
            go_ret
            exact ⟨ret_bool (by rw [HL.out, HI.out, eqFrom_end (by have := HN.out; omega)]), hbr⟩
  · have HL : Hid (decide (l = m) = false) := decide_eq_false (fun e => hnn (by rw [HN.out, HN'.out, e]))
    have hnn' : ¬ (n : Int) = (n' : Int) := by omega
    go_enter Try.func58, Try.ntmps58
    go_wp2
    go_ret
    exact ⟨ret_bool HL.out.symm, Below.refl _ _⟩
theorem quiet_skip {Pr : Program} {ops : Array Oper} {C : World → Prop} {Q : Act → Prop} {a : Act} {o : Oper} {rest : List Oper} (hw : Region.wanted o (yielded ops a.tmps) = false) (h : wpQuiet Pr ops C Q rest (a.put o.dst undef)) : wpQuiet Pr ops C Q (o :: rest) a := by
  unfold wpQuiet
  rw [if_neg (by rw [hw]; exact Bool.false_ne_true)]
  exact h
/-- An int of 64 bits. -/
def InR (c : Int) : Prop := -9223372036854775808 ≤ c ∧ c ≤ 9223372036854775807
set_option maxHeartbeats 400000 in
theorem pick_any (c : Int) (n : Nat) (hc : InR c) (hn : 0 < n) (hm : n ≤ 1000) (w : World) :
    Calls Try.prog 23 #[.int .i64 c, .int .i64 n] w fun e w' => ∃ k : Nat, k < n ∧ e = .returned (.int .i64 k) ∧ w' = w := by
  obtain ⟨h1, h2⟩ := hc
  have hnz : ((n : Int) == 0) = false := by simp; omega
  by_cases hneg : c < 0
  · go_enter Try.func23, Try.ntmps23
    go_wp2
    go_ret
    refine ⟨((-(c + 1)) % (n : Int)).toNat, ?_, ret_int ?_, rfl⟩
    · have := Int.emod_lt_of_pos (-(c + 1)) (show (0 : Int) < n by omega)
      have := Int.emod_nonneg (-(c + 1)) (show (n : Int) ≠ 0 by omega)
      omega
    · have h0 := Int.emod_nonneg (-(c + 1)) (show (n : Int) ≠ 0 by omega)
      rw [← Int.neg_tmod, Int.tmod_eq_emod_of_nonneg (by omega)]
      omega
  · go_enter Try.func23, Try.ntmps23
    go_wp2
    go_ret
    refine ⟨(c % (n : Int)).toNat, ?_, ret_int ?_, rfl⟩
    · have := Int.emod_lt_of_pos c (show (0 : Int) < n by omega)
      have := Int.emod_nonneg c (show (n : Int) ≠ 0 by omega)
      omega
    · have h0 := Int.emod_nonneg c (show (n : Int) ≠ 0 by omega)
      omega
theorem at_any (a : Option Addr) (n c : Nat) (l : List Int) (ki : Int) (w : World) (h : Ints w a n c l) (hr : ∀ x ∈ l, InR x) (hk0 : 0 ≤ ki) (hk : ki ≤ 1000) (hn : n ≤ 512) :
    Calls Try.prog 54 #[.slice a n c, .int .i64 ki] w fun e w' => ∃ x, InR x ∧ e = .returned (.int .i64 x) ∧ w' = w := by
  obtain ⟨k, rfl⟩ : ∃ k : Nat, ki = k := ⟨ki.toNat, by omega⟩
  obtain ⟨hl, hc, hm, h⟩ := h
  unfold maxLen at hm
  rcases h with h0 | ⟨b, off, rfl, hb, hcell⟩
  · subst h0
    go_enter Try.func54, Try.ntmps54
    go_wp2
    go_ret
    exact ⟨0, ⟨by omega, by omega⟩, rfl, rfl⟩
  · by_cases hz : n = 0
    · subst hz
      go_enter Try.func54, Try.ntmps54
      go_wp2
      go_ret
      exact ⟨0, ⟨by omega, by omega⟩, rfl, rfl⟩
    · have hnz : ((n : Int) == 0) = false := by simp; omega
      have hlt : k % n < n := Nat.mod_lt _ (by omega)
      have hck := hcell (k % n) hlt
      have hin : InR (l[k % n]?.getD 0) := by
        rw [List.getElem?_eq_getElem (by omega)]
        exact hr _ (by simp)
      have HL : Hid (n = l.length) := hl
      clear hl hcell
      go_enter Try.func54, Try.ntmps54
      go_wp2
      go_ret
      exact ⟨_, hin, rfl, rfl⟩
/-- 0, 1, .., n - 1. -/
def upL (n : Nat) : List Int := (List.range n).map (fun i : Nat => (i : Int))
theorem upL_succ (n : Nat) : upL (n + 1) = upL n ++ [(n : Int)] := by simp [upL, List.range_succ]
set_option maxHeartbeats 1000000 in
theorem upTo_any (n : Nat) (w : World) (hn : n ≤ 6) :
    Calls Try.prog 55 #[.int .i64 n] w fun e w' => ∃ v, e = .returned v ∧ w'.ownsRow w.heap.size 3 1 v n (intVals (upL n)) ∧ Below w.heap.size w w' := by
  go_enter Try.func55, Try.ntmps55
  go_wp2
  go_loopw [4, 3] (fun i v wr => Below w.heap.size w wr ∧ ∃ k : Nat, k ≤ n ∧ i = .int .i64 k ∧ wr.ownsRow w.heap.size 3 1 v k (intVals (upL k))) (fun i _ _ => n - (intOf i).toNat)
  case atStart => exact ⟨Below.refl _ _, 0, Nat.zero_le _, rfl, World.ownsRow_nil _ _ _ _⟩
  case round =>
    obtain ⟨hbr, k, hk, rfl, hown⟩ := hrel
    by_cases hlt : k < n
    · have HO := hide hown
      clear hown
      go_wp2_with (at_builtin; refine wpList_append_int _ rfl _ _ rfl w.heap.size _ k _ rfl ((unhide HO).alloc _) wr.heap.size (k : Int) rfl (by simp) (by omega) (by have := hbr.size; simp; omega) ?_; intro v2 w2 ho2 hg2)
      go_roundw
      case rel =>
        have hb5 := (((Below.refl w.heap.size wr).alloc hbr.size (.cells #[.int .i64 (k : Int)] 3)).grown hg2 (by have := hbr.size; simp; omega) (fun q hq => ((unhide HO).lt q hq).1))
        refine ⟨hbr.trans hb5, k+1, by omega, by go_num, ?_⟩
        rw [upL_succ, intVals_append]
        exact ho2
      case measure => simp [intOf]; omega
    · obtain rfl : k = n := by omega
      go_wp2
      go_ret
      exact ⟨_, rfl, hown, hbr⟩
theorem wrap_in (x : Int) (h1 : -9223372036854775808 ≤ x) (h2 : x ≤ 9223372036854775807) : IntKind.i64.wrap x = x := by
  rw [IntKind.wrap_i64]
  omega
theorem getD_mem {l : List Int} {k : Nat} (h : k < l.length) : l[k]?.getD 0 ∈ l := by
  rw [List.getElem?_eq_getElem h]
  exact List.getElem_mem h
theorem idx_at {l : List Int} (hn : l.Nodup) {i : Nat} (h : i < l.length) : idxFrom l (l[i]?.getD 0) 0 = i := by
  rcases idxFrom_spec l (l[i]?.getD 0) _ 0 rfl with ⟨_, h2⟩ | ⟨m, _, h2, h3, h4, _⟩
  · exact absurd rfl (h2 i (Nat.zero_le _) h)
  · rw [h4]
    rw [List.getElem?_eq_getElem h, List.getElem?_eq_getElem h2] at h3
    have := (List.getElem_inj hn (h₀ := h2) (h₁ := h)).1 h3
    omega
theorem idx_mem (l : List Int) (x : Int) : decide (0 ≤ idxFrom l x 0) = decide (x ∈ l) := by
  rcases idxFrom_spec l x _ 0 rfl with ⟨h1, h2⟩ | ⟨m, _, h2, h3, h4, _⟩
  · rw [decide_eq_false (by omega), decide_eq_false]
    intro h
    obtain ⟨i, hi, e⟩ := List.getElem_of_mem h
    exact h2 i (Nat.zero_le _) hi (by rw [List.getElem?_eq_getElem hi]; exact e)
  · rw [decide_eq_true (by omega), decide_eq_true]
    rw [List.getElem?_eq_getElem h2] at h3
    have : l[m] = x := h3
    rw [← this]
    exact List.getElem_mem h2
theorem idx_of {l : List Int} {x : Int} (h : x ∈ l) : ∃ i : Nat, i < l.length ∧ idxFrom l x 0 = i ∧ l[i]?.getD 0 = x := by
  rcases idxFrom_spec l x _ 0 rfl with ⟨_, h2⟩ | ⟨m, _, h2, h3, h4, _⟩
  · obtain ⟨i, hi, e⟩ := List.getElem_of_mem h
    exact absurd (by rw [List.getElem?_eq_getElem hi]; exact e) (h2 i (Nat.zero_le _) hi)
  · exact ⟨m, h2, h4, h3⟩
/-- No more numbers below n than n. -/
theorem len_le : ∀ (n : Nat) (l : List Nat), l.Nodup → (∀ x ∈ l, x < n) → l.length ≤ n := by
  intro n
  induction n with
  | zero =>
    intro l _ h
    cases l with
    | nil => simp
    | cons x r => exact absurd (h x (by simp)) (by omega)
  | succ n ih =>
    intro l hn h
    have h1 := ih (l.erase n) (hn.erase n) (fun x hx => by
      have h2 : x ∈ l := List.mem_of_mem_erase hx
      have h3 : x ≠ n := fun e => by subst e; exact (List.Nodup.mem_erase_iff hn).1 hx |>.1 rfl
      have := h x h2
      omega)
    by_cases c : n ∈ l
    · rw [List.length_erase_of_mem c] at h1; omega
    · rw [List.erase_of_not_mem c] at h1; omega
theorem likes_all {l : List Int} {o : Int} : ∀ d k, l.length - k = d → likesFrom l o k = 0 → ∀ j, k ≤ j → j < l.length → (0 ≤ l[j]?.getD 0 ∧ l[j]?.getD 0 < o) ∧ ¬ l[j]?.getD 0 ∈ l.take j := by
  intro d
  induction d with
  | zero => intro k hd _ j h1 h2; omega
  | succ d ih =>
    intro k hd h j h1 h2
    have hk : k < l.length := by omega
    by_cases c : l[k]?.getD 0 < 0 ∨ o ≤ l[k]?.getD 0
    · rw [likesFrom_who hk c] at h; omega
    · by_cases c2 : 0 ≤ idxFrom (l.take k) (l[k]?.getD 0) 0
      · rw [likesFrom_dbl hk c c2] at h; omega
      · rw [likesFrom_on hk c c2] at h
        by_cases e : j = k
        · subst e
          refine ⟨by omega, fun hm => c2 ?_⟩
          have := idx_mem (l.take j) (l[j]?.getD 0)
          rw [decide_eq_true hm] at this
          exact of_decide_eq_true this
        · exact ih (k + 1) (by omega) h j (by omega) h2
theorem likes_range {l : List Int} {o : Int} (h : likesFrom l o 0 = 0) : ∀ x ∈ l, 0 ≤ x ∧ x < o := by
  intro x hx
  obtain ⟨j, hj, e⟩ := List.getElem_of_mem hx
  have := (likes_all _ 0 rfl h j (Nat.zero_le _) hj).1
  rw [List.getElem?_eq_getElem hj] at this
  rw [← e]
  exact this
theorem likes_nodup {l : List Int} {o : Int} (h : likesFrom l o 0 = 0) : l.Nodup := by
  have go : ∀ k, k ≤ l.length → (l.take k).Nodup := by
    intro k
    induction k with
    | zero => intro _; simp
    | succ k ih =>
      intro hk
      rw [List.take_succ_eq_append_getElem (by omega), List.nodup_append]
      refine ⟨ih (by omega), by simp, fun a ha c hc e => ?_⟩
      simp at hc
      have := (likes_all _ 0 rfl h k (Nat.zero_le _) (by omega)).2
      rw [List.getElem?_eq_getElem (by omega)] at this
      refine this ?_
      show l[k] ∈ l.take k
      rw [← hc, ← e]
      exact ha
  have := go l.length (Nat.le_refl _)
  rwa [List.take_length] at this
theorem ord_range {l : List Int} {n : Nat} (h : ordE l n = 0) : ∀ x ∈ l, 0 ≤ x ∧ x < n := by
  unfold ordE at h
  by_cases c : (l.length : Int) = n
  · rw [if_pos c] at h; exact likes_range h
  · rw [if_neg c] at h; omega
theorem ord_nodup {l : List Int} {n : Nat} (h : ordE l n = 0) : l.Nodup := by
  unfold ordE at h
  by_cases c : (l.length : Int) = n
  · rw [if_pos c] at h; exact likes_nodup h
  · rw [if_neg c] at h; omega
/-- An order of n has them all. -/
theorem ord_all {l : List Int} {n : Nat} (h : ordE l n = 0) : ∀ k, k < n → (k : Int) ∈ l := by
  intro k hk
  unfold ordE at h
  by_cases c : (l.length : Int) = n
  · rw [if_pos c] at h
    have hr := likes_range h
    have hn := likes_nodup h
    by_cases hm : (k : Int) ∈ l
    · exact hm
    · exfalso
      have h1 := len_le n (k :: l.map Int.toNat) (by
        rw [List.nodup_cons]
        refine ⟨fun hk2 => ?_, ?_⟩
        · rw [List.mem_map] at hk2
          obtain ⟨x, hx, e⟩ := hk2
          have := hr x hx
          exact hm (by rw [← e, Int.toNat_of_nonneg this.1]; exact hx)
        · have h2 : (l.map Int.toNat).Pairwise (· ≠ ·) := by
            rw [List.pairwise_map]
            refine List.Pairwise.imp_of_mem (fun {a b} ha hb hab e => hab ?_) hn
            have h3 := hr a ha
            have h4 := hr b hb
            omega
          exact h2) (fun x hx => by
        rcases List.mem_cons.1 hx with rfl | hx
        · exact hk
        · rw [List.mem_map] at hx
          obtain ⟨y, hy, rfl⟩ := hx
          have := hr y hy
          omega)
      simp at h1
      omega
  · rw [if_neg c] at h; omega
theorem likes_zero {l : List Int} {o : Int} (hr : ∀ x ∈ l, 0 ≤ x ∧ x < o) (hn : l.Nodup) : ∀ d k, l.length - k = d → likesFrom l o k = 0 := by
  intro d
  induction d with
  | zero => intro k h; unfold likesFrom; rw [h]; rfl
  | succ d ih =>
    intro k h
    have hk : k < l.length := by omega
    have h1 := hr _ (getD_mem hk)
    rw [likesFrom_on hk (by omega) (fun h2 => ?_), ih (k + 1) (by omega)]
    rw [idx_take l k hk, idx_at hn hk] at h2
    omega
theorem ord_zero {l : List Int} {n : Nat} (hl : l.length = n) (hr : ∀ x ∈ l, 0 ≤ x ∧ x < n) (hn : l.Nodup) : ordE l n = 0 := by
  unfold ordE
  rw [if_pos (by omega)]
  exact likes_zero hr hn _ 0 rfl
theorem ord_up {l : List Int} {n : Nat} (h : l.Perm (upL n)) : ordE l n = 0 := by
  refine ord_zero (by rw [h.length_eq]; simp [upL]) (fun x hx => ?_) (h.nodup_iff.2 ?_)
  · have := h.mem_iff.1 hx
    unfold upL at this
    obtain ⟨i, hi, rfl⟩ := List.mem_map.1 this
    have := List.mem_range.1 hi
    omega
  · unfold upL
    show List.Pairwise _ _
    rw [List.pairwise_map]
    exact (List.nodup_range (n := n)).imp (fun h e => h (by omega))
theorem own_empty (W : World) (base : Nat) (h : base ≤ W.heap.size) : (W.alloc (.cells #[] 3)).ownsRow base 3 1 (.slice (some ⟨W.heap.size, 0, none⟩) 0 0) 0 (intVals []) :=
  World.ownsRow_made (base := base) (e := 3) (size := 1) W #[] 0 h (by unfold maxLen; omega) rfl
theorem own_empty2 (W : World) (o : Obj) (base : Nat) (h : base ≤ W.heap.size) : ((W.alloc o).alloc (.cells #[] 3)).ownsRow base 3 1 (.slice (some ⟨W.heap.size + 1, 0, none⟩) 0 0) 0 (intVals []) := by
  have h2 := own_empty (W.alloc o) base (by rw [World.size_alloc]; omega)
  rw [World.size_alloc] at h2
  exact h2
theorem Ints.dropAt {w : World} {b off n c : Nat} {l : List Int} (h : Ints w (some ⟨b, off, none⟩) n c l) (k : Nat) (hk : k ≤ n) : Ints w (if c = k then some ⟨b, off, none⟩ else some ⟨b, off + k, none⟩) (n - k) (c - k) (l.drop k) := by
  obtain ⟨h1, h2, h3, h4⟩ := h
  refine ⟨by rw [List.length_drop]; omega, by omega, by unfold maxLen at *; omega, ?_⟩
  by_cases hz : n = k
  · exact .inl (by omega)
  rcases h4 with h0 | ⟨b', off', e, hb, hc⟩
  · exact .inl (by omega)
  · cases e
    rw [if_neg (by omega)]
    refine .inr ⟨b, off + k, rfl, hb, fun j hj => ?_⟩
    rw [List.getElem?_drop, Nat.add_assoc]
    exact hc (k + j) (by omega)
/-- The steps of a region that draws its order: an append of ints, of one int. -/
theorem step_append_ints (w : World) {ops : Array Oper} {o : Oper} {a : Act} {K : Act → World → Prop} {Q : Exit → Act → World → Prop} {E : Prop} (hgd : o.guard = none) (s x : Operand)
    (ho : o.op = .call { callee := .builtin .append, args := #[s, x], argTypes := #[23, 23] })
    (base : Nat) (v : Value) (n : Nat) (xs : List Int) (hs : a.eval s = v) (hown : w.ownsRow base 3 1 v n (intVals xs))
    (ad : Option Addr) (m c : Nat) (l : List Int) (hx : a.eval x = .slice ad m c) (h : Ints w ad m c l)
    (hsm : n + m ≤ 1000) (hbase : base ≤ w.heap.size)
    (hK : ∀ v' w', w'.ownsRow base 3 1 v' (n + m) (intVals (xs ++ l)) → w.grownBy w' v.ownBlock → K (a.put o.dst v') w') :
    if Region.wanted o (yielded ops a.tmps) = true then Oper.wp Try.prog o a w K Q else E := by
  have hw : Region.wanted o (yielded ops a.tmps) = true := by simp [Region.wanted, hgd]
  rw [if_pos hw]
  obtain ⟨v', w', hr, h2, h3⟩ := run_append_ints w o.type base v n xs hown ad m c l h hsm hbase
  unfold Oper.wp execOp
  simp only [ho, resolve, invoke, builtin, Sem.run_bind, Sem.run_pure, Result.andThen_ok, List.map_toArray, List.map_cons, List.map_nil, hs, hx, hr]
  exact hK v' w' h2 h3
end Go.Proofs.Ytloandcndnmkhaa
