import Derived.Test.YtajdijjecojdhaaDoorProg
import Derived.WalkKit
import Derived.WalkSpells
import Derived.WalkLawsBesides
import Derived.BigQuiet
import Derived.Deep.QuietTactic
import Derived.Handy
namespace Go.Proofs.YtajdijjecojdhaaDoor
open Go.RowKit
def isLet (c : Int) : Bool := decide (97 ≤ c ∧ c ≤ 122)
def isFig (c : Int) : Bool := decide (48 ≤ c ∧ c ≤ 57)
theorem letter_any (c : Int) (w : World) :
    Calls Tryd.prog 44 #[.int .u8 c] w fun e w' => e = .returned (.bool (isLet c)) ∧ w' = w := by
  by_cases h1 : 97 ≤ c <;> by_cases h2 : c ≤ 122
  all_goals
    go_enter Tryd.func44, Tryd.ntmps44
    go_wp2
    go_ret
    refine ⟨by simp [isLet, h1, h2], rfl⟩
theorem figure_any (c : Int) (w : World) :
    Calls Tryd.prog 45 #[.int .u8 c] w fun e w' => e = .returned (.bool (isFig c)) ∧ w' = w := by
  by_cases h1 : 48 ≤ c <;> by_cases h2 : c ≤ 57
  all_goals
    go_enter Tryd.func45, Tryd.ntmps45
    go_wp2
    go_ret
    refine ⟨by simp [isFig, h1, h2], rfl⟩
theorem isDigit_any (c : Int) (w : World) :
    Calls Tryd.prog 60 #[.int .u8 c] w fun e w' => e = .returned (.bool (isFig c)) ∧ w' = w := by
  by_cases h1 : 48 ≤ c <;> by_cases h2 : c ≤ 57
  all_goals
    go_enter Tryd.func60, Tryd.ntmps60
    go_wp2
    go_ret
    refine ⟨by simp [isFig, h1, h2], rfl⟩
def okAt (i : Nat) (c : Int) : Bool := isLet c || (decide (i ≠ 0) && (isFig c || decide (c = 95)))
def nameFuel (s : ByteArray) : Nat → Nat → Bool
  | 0, _ => true
  | f + 1, k => (if h : k < s.size then okAt k s[k].toNat else true) && nameFuel s f (k + 1)
def nameFrom (s : ByteArray) (k : Nat) : Bool := nameFuel s (s.size - k) k
def nameB (s : ByteArray) : Bool := !s.toList.isEmpty && decide (s.size ≤ 12) && !(s.toList == [108, 101, 102, 116]) && !(s.toList == [114, 105, 103, 104, 116]) && nameFrom s 0
theorem nameFrom_step {s : ByteArray} {k : Nat} (h : k < s.size) : nameFrom s k = (okAt k s[k].toNat && nameFrom s (k+1)) := by
  unfold nameFrom
  rw [show s.size - k = (s.size - (k + 1)) + 1 by omega, nameFuel, dif_pos h]
theorem nameFrom_yes {s : ByteArray} {k : Nat} (h : k < s.size) (ho : okAt k s[k].toNat = true) : nameFrom s k = nameFrom s (k+1) := by
  rw [nameFrom_step h, ho, Bool.true_and]
theorem nameFrom_no {s : ByteArray} {k : Nat} (h : k < s.size) (ho : okAt k s[k].toNat = false) : nameFrom s k = false := by
  rw [nameFrom_step h, ho, Bool.false_and]
theorem nameFrom_end {s : ByteArray} {k : Nat} (h : ¬ k < s.size) : nameFrom s k = true := by
  unfold nameFrom
  rw [show s.size - k = 0 by omega, nameFuel]
theorem ret_bool {a b : Bool} (h : a = b) : Ending.returned (.bool a) = .returned (.bool b) := by rw [h]
theorem ret_int {k : IntKind} {a b : Int} (h : a = b) : Ending.returned (.int k a) = .returned (.int k b) := by rw [h]
set_option maxHeartbeats 1000000 in
theorem named_loop (s : ByteArray) (w : World) (hs : s.size ≤ maxLen) (h0 : s.toList.isEmpty = false) (h1 : (s.size : Int) ≤ 12) (h2 : (s.toList == [108, 101, 102, 116]) = false) (h3 : (s.toList == [114, 105, 103, 104, 116]) = false) :
    Calls Tryd.prog 21 #[.string s] w fun e w' => e = .returned (.bool (nameFrom s 0)) ∧ w' = w := by
  unfold maxLen at hs
  go_enter Tryd.func21, Tryd.ntmps21
  go_wp2
  go_loop [3, 4, 5] (fun i _ _ => ∃ k : Nat, k ≤ s.size ∧ i = .int .i64 k ∧ nameFrom s 0 = nameFrom s k) (fun i _ _ => s.size - (intOf i).toNat)
  case atStart => exact ⟨0, Nat.zero_le _, rfl, rfl⟩
  case round =>
    obtain ⟨k, hk, rfl, hn⟩ := hrel
    have HN : Hid (nameFrom s 0 = nameFrom s k) := hn
    clear hn
    by_cases hlt : k < s.size
    · go_wp2_with (first | (go_at_call 44; refine (letter_any _ _).mono ?_; rintro e w' ⟨rfl, rfl⟩) | (go_at_call 45; refine (figure_any _ _).mono ?_; rintro e w' ⟨rfl, rfl⟩))
      all_goals first
        | (refine ⟨⟨k+1, by omega, by go_num, ?_⟩, by simp [intOf]; omega⟩
           rw [HN.out]; exact nameFrom_yes hlt (by simp_all [okAt]))
        | (go_ret
           refine ⟨ret_bool ?_, rfl⟩
           rw [HN.out]; exact (nameFrom_no hlt (by simp_all [okAt])).symm)
    · go_wp2
      go_ret
      exact ⟨ret_bool (by rw [HN.out, nameFrom_end hlt]), rfl⟩

theorem size_toList (s : ByteArray) : s.toList.length = s.size := by simp [ByteArray.toList_eq]
theorem named_any (s : ByteArray) (w : World) (hs : s.size ≤ maxLen) :
    Calls Tryd.prog 21 #[.string s] w fun e w' => e = .returned (.bool (nameB s)) ∧ w' = w := by
  cases h0 : s.toList.isEmpty with
  | true =>
    go_enter Tryd.func21, Tryd.ntmps21
    go_wp2
    all_goals (go_ret; exact ⟨ret_bool (by simp [nameB, h0]), rfl⟩)
  | false =>
  by_cases h1' : 12 < (s.size : Int)
  · go_enter Tryd.func21, Tryd.ntmps21
    go_wp2
    all_goals (go_ret; exact ⟨ret_bool (by simp [nameB, h0]; omega), rfl⟩)
  have h1 : (s.size : Int) ≤ 12 := by omega
  clear h1'
  cases h2 : (s.toList == [108, 101, 102, 116]) with
  | true =>
    go_enter Tryd.func21, Tryd.ntmps21
    go_wp2
    all_goals (go_ret; exact ⟨ret_bool (by simp [nameB, h0, h2]), rfl⟩)
  | false =>
  cases h3 : (s.toList == [114, 105, 103, 104, 116]) with
  | true =>
    go_enter Tryd.func21, Tryd.ntmps21
    go_wp2
    all_goals (go_ret; exact ⟨ret_bool (by simp [nameB, h0, h2, h3]), rfl⟩)
  | false =>
    refine (named_loop s w hs h0 h1 h2 h3).mono ?_
    rintro e w' ⟨rfl, rfl⟩
    refine ⟨ret_bool ?_, rfl⟩
    have : s.size ≤ 12 := by omega
    simp [nameB, h0, h2, h3, this]
set_option maxHeartbeats 1000000 in
theorem isName_loop (s : ByteArray) (w : World) (hs : s.size ≤ maxLen) (h0 : s.toList.isEmpty = false) (h1 : (s.size : Int) ≤ 12) (h2 : (s.toList == [108, 101, 102, 116]) = false) (h3 : (s.toList == [114, 105, 103, 104, 116]) = false) :
    Calls Tryd.prog 41 #[.string s] w fun e w' => e = .returned (.bool (nameFrom s 0)) ∧ w' = w := by
  unfold maxLen at hs
  go_enter Tryd.func41, Tryd.ntmps41
  go_wp2
  go_loop [22, 3, 4] (fun i _ _ => ∃ k : Nat, k ≤ s.size ∧ i = .int .i64 k ∧ nameFrom s 0 = nameFrom s k) (fun i _ _ => s.size - (intOf i).toNat)
  case atStart => exact ⟨0, Nat.zero_le _, rfl, rfl⟩
  case round =>
    obtain ⟨k, hk, rfl, hn⟩ := hrel
    have HN : Hid (nameFrom s 0 = nameFrom s k) := hn
    clear hn
    by_cases hlt : k < s.size
    · by_cases c1 : 97 ≤ (s[k].toNat : Int) <;> by_cases c2 : (s[k].toNat : Int) ≤ 122
      all_goals
        go_wp2_with (first | (go_at_call 60; refine (isDigit_any _ _).mono ?_; rintro e w' ⟨rfl, rfl⟩))
      all_goals first
        | (refine ⟨⟨k+1, by omega, by go_num, ?_⟩, by simp [intOf]; omega⟩
           rw [HN.out]; exact nameFrom_yes hlt (by simp_all [okAt, isLet]))
        | (go_ret
           refine ⟨ret_bool ?_, rfl⟩
           rw [HN.out]; exact (nameFrom_no hlt (by simp_all [okAt, isLet])).symm)
        | (go_ret
           refine ⟨ret_bool ?_, rfl⟩
           rw [HN.out]; exact (nameFrom_no hlt (by simp_all [okAt, isLet]; omega)).symm)
    · go_wp2
      go_ret
      exact ⟨ret_bool (by rw [HN.out, nameFrom_end hlt]), rfl⟩
theorem isName_any (s : ByteArray) (w : World) (hs : s.size ≤ maxLen) :
    Calls Tryd.prog 41 #[.string s] w fun e w' => e = .returned (.bool (nameB s)) ∧ w' = w := by
  cases h0 : s.toList.isEmpty with
  | true =>
    go_enter Tryd.func41, Tryd.ntmps41
    go_wp2
    all_goals (go_ret; exact ⟨ret_bool (by simp [nameB, h0]), rfl⟩)
  | false =>
  by_cases h1' : 12 < (s.size : Int)
  · go_enter Tryd.func41, Tryd.ntmps41
    go_wp2
    all_goals (go_ret; exact ⟨ret_bool (by simp [nameB, h0]; omega), rfl⟩)
  have h1 : (s.size : Int) ≤ 12 := by omega
  clear h1'
  cases h2 : (s.toList == [108, 101, 102, 116]) with
  | true =>
    go_enter Tryd.func41, Tryd.ntmps41
    go_wp2
    all_goals (go_ret; exact ⟨ret_bool (by simp [nameB, h0, h2]), rfl⟩)
  | false =>
  cases h3 : (s.toList == [114, 105, 103, 104, 116]) with
  | true =>
    go_enter Tryd.func41, Tryd.ntmps41
    go_wp2
    all_goals (go_ret; exact ⟨ret_bool (by simp [nameB, h0, h2, h3]), rfl⟩)
  | false =>
    refine (isName_loop s w hs h0 h1 h2 h3).mono ?_
    rintro e w' ⟨rfl, rfl⟩
    refine ⟨ret_bool ?_, rfl⟩
    have : s.size ≤ 12 := by omega
    simp [nameB, h0, h2, h3, this]
end Go.Proofs.YtajdijjecojdhaaDoor
namespace Go.Proofs.YtajdijjecojdhaaDoor
open Go.RowKit
/-- A slice of ints as it lies: nil or empty, or a row of cells. -/
def Ints (w : World) (a : Option Addr) (n c : Nat) (l : List Int) : Prop :=
  n = l.length ∧ n ≤ c ∧ c ≤ maxLen ∧ (n = 0 ∨ ∃ b off, a = some ⟨b, off, none⟩ ∧ b < w.heap.size ∧ ∀ j, j < n → w.cell? ⟨b, off + j, none⟩ = some (.int .i64 (l[j]?.getD 0)))
def idxFuel (l : List Int) (x : Int) : Nat → Nat → Int
  | 0, _ => -1
  | f + 1, k => if l[k]?.getD 0 = x then (k : Int) else idxFuel l x f (k + 1)
def idxFrom (l : List Int) (x : Int) (k : Nat) : Int := idxFuel l x (l.length - k) k
theorem idxFrom_step {l : List Int} {x : Int} {k : Nat} (h : k < l.length) : idxFrom l x k = if l[k]?.getD 0 = x then (k : Int) else idxFrom l x (k+1) := by
  unfold idxFrom
  rw [show l.length - k = (l.length - (k + 1)) + 1 by omega, idxFuel]
theorem idxFrom_yes {l : List Int} {x : Int} {k : Nat} (h : k < l.length) (e : l[k]?.getD 0 = x) : idxFrom l x k = k := by
  rw [idxFrom_step h, if_pos e]
theorem idxFrom_no {l : List Int} {x : Int} {k : Nat} (h : k < l.length) (e : ¬ l[k]?.getD 0 = x) : idxFrom l x k = idxFrom l x (k+1) := by
  rw [idxFrom_step h, if_neg e]
theorem idxFrom_end {l : List Int} {x : Int} {k : Nat} (h : ¬ k < l.length) : idxFrom l x k = -1 := by
  unfold idxFrom
  rw [show l.length - k = 0 by omega, idxFuel]
set_option maxHeartbeats 400000 in
theorem place_any (a : Option Addr) (n c : Nat) (l : List Int) (x : Int) (w : World) (h : Ints w a n c l) :
    Calls Tryd.prog 12 #[.slice a n c, .int .i64 x] w fun e w' => e = .returned (.int .i64 (idxFrom l x 0)) ∧ w' = w := by
  obtain ⟨hn, hc, hm, h⟩ := h
  unfold maxLen at hm
  rcases h with h0 | ⟨b, off, rfl, hb, hcell⟩
  · subst h0
    go_enter Tryd.func12, Tryd.ntmps12
    go_wp2
    refine wp_loop_rounds 1 ?_
    rw [rounds_succ]
    go_wp2
    go_ret
    exact ⟨ret_int (by rw [idxFrom_end (by omega)]), rfl⟩
  · have HN : Hid (n = l.length) := hn
    clear hn
    go_enter Tryd.func12, Tryd.ntmps12
    go_wp2
    go_loop [5] (fun i => ∃ k : Nat, k ≤ n ∧ i = .int .i64 k ∧ idxFrom l x 0 = idxFrom l x k) (fun i => n - (intOf i).toNat)
    case atStart => exact ⟨0, Nat.zero_le _, rfl, rfl⟩
    case round =>
      obtain ⟨k, hk, rfl, hn⟩ := hrel
      have HI : Hid (idxFrom l x 0 = idxFrom l x k) := hn
      clear hn
      by_cases hlt : k < n
      · have hck := hcell k hlt
        go_wp2
        · go_ret
          refine ⟨ret_int ?_, rfl⟩
          rw [HI.out]; exact (idxFrom_yes (by have := HN.out; omega) (by simp_all)).symm
        · refine ⟨⟨k+1, by omega, by go_num, ?_⟩, by simp [intOf]; omega⟩
          rw [HI.out]; exact idxFrom_no (by have := HN.out; omega) (by simp_all)
      · go_wp2
        go_ret
        exact ⟨ret_int (by rw [HI.out, idxFrom_end (by have := HN.out; omega)]), rfl⟩
set_option maxHeartbeats 400000 in
theorem index_any (a : Option Addr) (n c : Nat) (l : List Int) (x : Int) (w : World) (h : Ints w a n c l) :
    Calls Tryd.prog 23 #[.slice a n c, .int .i64 x] w fun e w' => e = .returned (.int .i64 (idxFrom l x 0)) ∧ w' = w := by
  obtain ⟨hn, hc, hm, h⟩ := h
  unfold maxLen at hm
  rcases h with h0 | ⟨b, off, rfl, hb, hcell⟩
  · subst h0
    go_enter Tryd.func23, Tryd.ntmps23
    go_wp2
    refine wp_loop_rounds 1 ?_
    rw [rounds_succ]
    go_wp2
    go_ret
    exact ⟨ret_int (by rw [idxFrom_end (by omega)]), rfl⟩
  · have HN : Hid (n = l.length) := hn
    clear hn
    go_enter Tryd.func23, Tryd.ntmps23
    go_wp2
    go_loop [8, 5] (fun i _ => ∃ k : Nat, k ≤ n ∧ i = .int .i64 k ∧ idxFrom l x 0 = idxFrom l x k) (fun i _ => n - (intOf i).toNat)
    case atStart => exact ⟨0, Nat.zero_le _, rfl, rfl⟩
    case round =>
      obtain ⟨k, hk, rfl, hn⟩ := hrel
      have HI : Hid (idxFrom l x 0 = idxFrom l x k) := hn
      clear hn
      by_cases hlt : k < n
      · have hck := hcell k hlt
        go_wp2
        · go_ret
          refine ⟨ret_int ?_, rfl⟩
          rw [HI.out]; exact (idxFrom_yes (by have := HN.out; omega) (by simp_all)).symm
        · refine ⟨⟨k+1, by omega, by go_num, ?_⟩, by simp [intOf]; omega⟩
          rw [HI.out]; exact idxFrom_no (by have := HN.out; omega) (fun e => by simp_all)
      · go_wp2
        go_ret
        exact ⟨ret_int (by rw [HI.out, idxFrom_end (by have := HN.out; omega)]), rfl⟩
theorem contains_any (a : Option Addr) (n c : Nat) (l : List Int) (x : Int) (w : World) (h : Ints w a n c l) :
    Calls Tryd.prog 63 #[.slice a n c, .int .i64 x] w fun e w' => e = .returned (.bool (decide (0 ≤ idxFrom l x 0))) ∧ w' = w := by
  go_enter Tryd.func63, Tryd.ntmps63
  go_wp2_with (go_at_call 23; refine (index_any _ _ _ l _ _ h).mono ?_; rintro e w' ⟨rfl, rfl⟩)
  go_ret
  exact ⟨rfl, rfl⟩
/-- A slice of strings as it lies. -/
def Strs (w : World) (a : Option Addr) (n : Nat) (l : List ByteArray) : Prop :=
  n = l.length ∧ n ≤ 1000000 ∧ (n = 0 ∨ ∃ b off, a = some ⟨b, off, none⟩ ∧ ∀ j, j < n → w.cell? ⟨b, off + j, none⟩ = some (.string (l[j]?.getD ByteArray.empty)))
def sidxFuel (l : List ByteArray) (x : ByteArray) : Nat → Nat → Int
  | 0, _ => -1
  | f + 1, k => if (l[k]?.getD ByteArray.empty).toList = x.toList then (k : Int) else sidxFuel l x f (k + 1)
def sidxFrom (l : List ByteArray) (x : ByteArray) (k : Nat) : Int := sidxFuel l x (l.length - k) k
theorem sidxFrom_step {l : List ByteArray} {x : ByteArray} {k : Nat} (h : k < l.length) : sidxFrom l x k = if (l[k]?.getD ByteArray.empty).toList = x.toList then (k : Int) else sidxFrom l x (k+1) := by
  unfold sidxFrom
  rw [show l.length - k = (l.length - (k + 1)) + 1 by omega, sidxFuel]
theorem sidxFrom_yes {l : List ByteArray} {x : ByteArray} {k : Nat} (h : k < l.length) (e : (l[k]?.getD ByteArray.empty).toList = x.toList) : sidxFrom l x k = k := by
  rw [sidxFrom_step h, if_pos e]
theorem sidxFrom_no {l : List ByteArray} {x : ByteArray} {k : Nat} (h : k < l.length) (e : ¬ (l[k]?.getD ByteArray.empty).toList = x.toList) : sidxFrom l x k = sidxFrom l x (k+1) := by
  rw [sidxFrom_step h, if_neg e]
theorem sidxFrom_end {l : List ByteArray} {x : ByteArray} {k : Nat} (h : ¬ k < l.length) : sidxFrom l x k = -1 := by
  unfold sidxFrom
  rw [show l.length - k = 0 by omega, sidxFuel]
set_option maxHeartbeats 400000 in
theorem hasText_any (a : Option Addr) (n c : Nat) (l : List ByteArray) (x : ByteArray) (w : World) (h : Strs w a n l) :
    Calls Tryd.prog 22 #[.slice a n c, .string x] w fun e w' => e = .returned (.int .i64 (sidxFrom l x 0)) ∧ w' = w := by
  obtain ⟨hn, hm, h⟩ := h
  rcases h with h0 | ⟨b, off, rfl, hcell⟩
  · subst h0
    go_enter Tryd.func22, Tryd.ntmps22
    go_wp2
    refine wp_loop_rounds 1 ?_
    rw [rounds_succ]
    go_wp2
    go_ret
    exact ⟨ret_int (by rw [sidxFrom_end (by omega)]), rfl⟩
  · have HN : Hid (n = l.length) := hn
    clear hn
    go_enter Tryd.func22, Tryd.ntmps22
    go_wp2
    go_loop [5] (fun i => ∃ k : Nat, k ≤ n ∧ i = .int .i64 k ∧ sidxFrom l x 0 = sidxFrom l x k) (fun i => n - (intOf i).toNat)
    case atStart => exact ⟨0, Nat.zero_le _, rfl, rfl⟩
    case round =>
      obtain ⟨k, hk, rfl, hn⟩ := hrel
      have HI : Hid (sidxFrom l x 0 = sidxFrom l x k) := hn
      clear hn
      by_cases hlt : k < n
      · have hck := hcell k hlt
        go_wp2
        · go_ret
          refine ⟨ret_int ?_, rfl⟩
          rw [HI.out]; exact (sidxFrom_yes (by have := HN.out; omega) (by simp_all)).symm
        · refine ⟨⟨k+1, by omega, by go_num, ?_⟩, by simp [intOf]; omega⟩
          rw [HI.out]; exact sidxFrom_no (by have := HN.out; omega) (by simp_all)
      · go_wp2
        go_ret
        exact ⟨ret_int (by rw [HI.out, sidxFrom_end (by have := HN.out; omega)]), rfl⟩
theorem Ints.later {w w' : World} {a : Option Addr} {n c : Nat} {l : List Int} (h : Ints w a n c l) (hb : Below w.heap.size w w') : Ints w' a n c l := by
  obtain ⟨hn, hc, hm, h⟩ := h
  refine ⟨hn, hc, hm, ?_⟩
  rcases h with h0 | ⟨b, off, rfl, hlt, hcell⟩
  · exact Or.inl h0
  · exact Or.inr ⟨b, off, rfl, Nat.lt_of_lt_of_le hlt hb.size, fun j hj => (hb.cell (p := ⟨b, off + j, none⟩) hlt).trans (hcell j hj)⟩
set_option maxHeartbeats 400000 in
theorem rank_any (nm : ByteArray) (room : Int) (a : Option Addr) (n c : Nat) (l : List Int) (x : Int) (w : World) (h : Ints w a n c l) :
    Calls Tryd.prog 11 #[.agg #[.string nm, .int .i64 room, .slice a n c], .int .i64 x] w fun e w' => e = .returned (.int .i64 (idxFrom l x 0)) ∧ Below w.heap.size w w' := by
  go_enter Tryd.func11, Tryd.ntmps11
  go_wp2_with fail
  refine (index_any a n c l x _ (h.later ?_)).mono ?_
  · go_grown
  rintro e w' ⟨rfl, rfl⟩
  go_wp2
  go_ret
  exact ⟨rfl, by go_grown⟩
/-- One of a side, as it lies: its name, its room, the slice of whom it likes, and what that slice holds. -/
structure Ag where
  name : ByteArray
  room : Int
  la : Option Addr
  ln : Nat
  lc : Nat
  likes : List Int
def agNone : Ag := ⟨ByteArray.empty, 0, none, 0, 0, []⟩
def Ag.val (g : Ag) : Value := .agg #[.string g.name, .int .i64 g.room, .slice g.la g.ln g.lc]
def agAt (l : List Ag) (j : Nat) : Ag := l[j]?.getD agNone
/-- A slice of agents as it lies. -/
def Ags (w : World) (a : Option Addr) (n c : Nat) (l : List Ag) : Prop :=
  n = l.length ∧ n ≤ c ∧ c ≤ maxLen ∧ (∀ g ∈ l, Ints w g.la g.ln g.lc g.likes ∧ g.name.size ≤ maxLen) ∧
  (n = 0 ∨ ∃ b off, a = some ⟨b, off, none⟩ ∧ b < w.heap.size ∧ ∀ j, j < n →
    w.cell? ⟨b, off + j * 3, none⟩ = some (.string (agAt l j).name) ∧ w.cell? ⟨b, off + j * 3 + 1, none⟩ = some (.int .i64 (agAt l j).room) ∧
    w.cell? ⟨b, off + j * 3 + 2, none⟩ = some (.slice (agAt l j).la (agAt l j).ln (agAt l j).lc))
theorem Ags.later {w w' : World} {a : Option Addr} {n c : Nat} {l : List Ag} (h : Ags w a n c l) (hb : Below w.heap.size w w') : Ags w' a n c l := by
  obtain ⟨hn, hc, hm, hg, h⟩ := h
  refine ⟨hn, hc, hm, fun g m => ⟨(hg g m).1.later hb, (hg g m).2⟩, ?_⟩
  rcases h with h0 | ⟨b, off, rfl, hlt, hcell⟩
  · exact Or.inl h0
  · refine Or.inr ⟨b, off, rfl, Nat.lt_of_lt_of_le hlt hb.size, fun j hj => ?_⟩
    obtain ⟨h1, h2, h3⟩ := hcell j hj
    exact ⟨(hb.cell (p := ⟨b, off + j * 3, none⟩) hlt).trans h1, (hb.cell (p := ⟨b, off + j * 3 + 1, none⟩) hlt).trans h2, (hb.cell (p := ⟨b, off + j * 3 + 2, none⟩) hlt).trans h3⟩
def aidxFuel (l : List Ag) (x : ByteArray) : Nat → Nat → Int
  | 0, _ => -1
  | f + 1, k => if (agAt l k).name.toList = x.toList then (k : Int) else aidxFuel l x f (k + 1)
def aidxFrom (l : List Ag) (x : ByteArray) (k : Nat) : Int := aidxFuel l x (l.length - k) k
theorem aidxFrom_step {l : List Ag} {x : ByteArray} {k : Nat} (h : k < l.length) : aidxFrom l x k = if (agAt l k).name.toList = x.toList then (k : Int) else aidxFrom l x (k+1) := by
  unfold aidxFrom
  rw [show l.length - k = (l.length - (k + 1)) + 1 by omega, aidxFuel]
theorem aidxFrom_yes {l : List Ag} {x : ByteArray} {k : Nat} (h : k < l.length) (e : (agAt l k).name.toList = x.toList) : aidxFrom l x k = k := by
  rw [aidxFrom_step h, if_pos e]
theorem aidxFrom_no {l : List Ag} {x : ByteArray} {k : Nat} (h : k < l.length) (e : ¬ (agAt l k).name.toList = x.toList) : aidxFrom l x k = aidxFrom l x (k+1) := by
  rw [aidxFrom_step h, if_neg e]
theorem aidxFrom_end {l : List Ag} {x : ByteArray} {k : Nat} (h : ¬ k < l.length) : aidxFrom l x k = -1 := by
  unfold aidxFrom
  rw [show l.length - k = 0 by omega, aidxFuel]
/-- The closure: is it that name? -/
theorem place1_any (nm : ByteArray) (room : Int) (lv : Value) (b : Nat) (x : ByteArray) (w : World) (hb : b < w.heap.size) (hx : w.cell? ⟨b, 0, none⟩ = some (.string x)) :
    Calls Tryd.prog 62 #[.agg #[.string nm, .int .i64 room, lv], .pointer (some ⟨b, 0, none⟩)] w fun e w' => e = .returned (.bool (nm.toList == x.toList)) ∧ Below w.heap.size w w' := by
  go_enter Tryd.func62, Tryd.ntmps62
  go_wp2
  go_ret
  exact ⟨rfl, by go_grown⟩
set_option maxHeartbeats 800000 in
theorem indexFunc_any (a : Option Addr) (n c : Nat) (l : List Ag) (x : ByteArray) (p : Nat) (w : World) (h : Ags w a n c l) (hp : p < w.heap.size) (hx : w.cell? ⟨p, 0, none⟩ = some (.string x)) :
    Calls Tryd.prog 61 #[.slice a n c, .func (.func 62) #[] #[.pointer (some ⟨p, 0, none⟩)]] w fun e w' => e = .returned (.int .i64 (aidxFrom l x 0)) ∧ Below w.heap.size w w' := by
  obtain ⟨hn, hc, hm, hg, h⟩ := h
  unfold maxLen at hm
  rcases h with h0 | ⟨b, off, rfl, hb, hcell⟩
  · subst h0
    go_enter Tryd.func61, Tryd.ntmps61
    go_wp2
    refine wp_loop_rounds 1 ?_
    rw [rounds_succ]
    go_wp2
    go_ret
    exact ⟨ret_int (by rw [aidxFrom_end (by omega)]), by go_grown⟩
  · have HN : Hid (n = l.length) := hn
    clear hn
    go_enter Tryd.func61, Tryd.ntmps61
    go_wp2
    go_loopw [8, 5] (fun i _ wr => Below w.heap.size w wr ∧ ∃ k : Nat, k ≤ n ∧ i = .int .i64 k ∧ aidxFrom l x 0 = aidxFrom l x k) (fun i _ _ => n - (intOf i).toNat)
    case atStart => exact ⟨Below.refl _ _, 0, Nat.zero_le _, rfl, rfl⟩
    case round =>
      obtain ⟨hbw, k, hk, rfl, hn⟩ := hrel
      have HI : Hid (aidxFrom l x 0 = aidxFrom l x k) := hn
      clear hn
      by_cases hlt : k < n
      · obtain ⟨h1, h2, h3⟩ := hcell k hlt
        have g1 := (hbw.cell (p := ⟨b, off + k * 3, none⟩) hb).trans h1
        have g2 := (hbw.cell (p := ⟨b, off + k * 3 + 1, none⟩) hb).trans h2
        have g3 := (hbw.cell (p := ⟨b, off + k * 3 + 2, none⟩) hb).trans h3
        clear h1 h2 h3
        have hxr := (hbw.cell (p := ⟨p, 0, none⟩) hp).trans hx
        have hpr : p < wr.heap.size := Nat.lt_of_lt_of_le hp hbw.size
        cases hq : ((agAt l k).name.toList == x.toList) with
        | true =>
          have HQ : Hid (((agAt l k).name.toList == x.toList) = true) := hq
          clear hcell
          go_wp2_with fail
          refine (place1_any _ _ _ p x _ hpr hxr).mono ?_
          rintro e w1 ⟨rfl, hb1⟩
          go_wp2
          go_ret
          exact ⟨ret_int (by rw [HI.out]; exact (aidxFrom_yes (by have := HN.out; omega) (by simpa using HQ.out)).symm), hbw.trans (hb1.mono hbw.size)⟩
        | false =>
          have HQ : Hid (((agAt l k).name.toList == x.toList) = false) := hq
          clear hcell
          go_wp2_with fail
          refine (place1_any _ _ _ p x _ hpr hxr).mono ?_
          rintro e w1 ⟨rfl, hb1⟩
          go_wp2
          go_roundw
          case rel => exact ⟨hbw.trans (hb1.mono hbw.size), k+1, by omega, by go_num, by rw [HI.out]; exact aidxFrom_no (by have := HN.out; omega) (by simpa using HQ.out)⟩
          case measure => simp [intOf]; omega
      · go_wp2
        go_ret
        exact ⟨ret_int (by rw [HI.out, aidxFrom_end (by have := HN.out; omega)]), hbw⟩

set_option maxHeartbeats 400000 in
theorem placeN_any (a : Option Addr) (n c : Nat) (l : List Ag) (x : ByteArray) (w : World) (h : Ags w a n c l) :
    Calls Tryd.prog 42 #[.slice a n c, .string x] w fun e w' => e = .returned (.int .i64 (aidxFrom l x 0)) ∧ Below w.heap.size w w' := by
  have hmf : ∀ (fn : Fn) (first cap : Array Value) (w : World), (Instr.makeFunc fn first cap).run Tryd.prog w = .ok (.func fn first cap) w := fun _ _ _ _ => rfl
  go_enter Tryd.func42, Tryd.ntmps42
  go_wp2_with fail
  have hbw : Below w.heap.size w (w.alloc (.cells #[.string x] 9)) := by go_grown
  refine (indexFunc_any a n c l x w.heap.size _ (h.later hbw) (by simp) (by simp)).mono ?_
  rintro e w1 ⟨rfl, hb1⟩
  go_wp2
  go_ret
  exact ⟨rfl, hbw.trans (hb1.mono hbw.size)⟩
end Go.Proofs.YtajdijjecojdhaaDoor
namespace Go.Proofs.YtajdijjecojdhaaDoor
open Go.RowKit
theorem hide {p : Prop} (h : p) : Hid p := h
theorem unhide {p : Prop} (h : Hid p) : p := h
def likesFuel (l : List Int) (others : Int) : Nat → Nat → Int
  | 0, _ => 0
  | f + 1, k => if l[k]?.getD 0 < 0 ∨ others ≤ l[k]?.getD 0 then 8 else if 0 ≤ idxFrom (l.take k) (l[k]?.getD 0) 0 then 6 else likesFuel l others f (k + 1)
def likesFrom (l : List Int) (others : Int) (k : Nat) : Int := likesFuel l others (l.length - k) k
theorem likesFrom_step {l : List Int} {o : Int} {k : Nat} (h : k < l.length) : likesFrom l o k = if l[k]?.getD 0 < 0 ∨ o ≤ l[k]?.getD 0 then 8 else if 0 ≤ idxFrom (l.take k) (l[k]?.getD 0) 0 then 6 else likesFrom l o (k+1) := by
  unfold likesFrom
  rw [show l.length - k = (l.length - (k + 1)) + 1 by omega, likesFuel]
theorem likesFrom_who {l : List Int} {o : Int} {k : Nat} (h : k < l.length) (e : l[k]?.getD 0 < 0 ∨ o ≤ l[k]?.getD 0) : likesFrom l o k = 8 := by
  rw [likesFrom_step h, if_pos e]
theorem likesFrom_dbl {l : List Int} {o : Int} {k : Nat} (h : k < l.length) (e : ¬ (l[k]?.getD 0 < 0 ∨ o ≤ l[k]?.getD 0)) (d : 0 ≤ idxFrom (l.take k) (l[k]?.getD 0) 0) : likesFrom l o k = 6 := by
  rw [likesFrom_step h, if_neg e, if_pos d]
theorem likesFrom_on {l : List Int} {o : Int} {k : Nat} (h : k < l.length) (e : ¬ (l[k]?.getD 0 < 0 ∨ o ≤ l[k]?.getD 0)) (d : ¬ 0 ≤ idxFrom (l.take k) (l[k]?.getD 0) 0) : likesFrom l o k = likesFrom l o (k+1) := by
  rw [likesFrom_step h, if_neg e, if_neg d]
theorem likesFrom_end {l : List Int} {o : Int} {k : Nat} (h : ¬ k < l.length) : likesFrom l o k = 0 := by
  unfold likesFrom
  rw [show l.length - k = 0 by omega, likesFuel]
def agE (g : Ag) (ahead : List Ag) (others : Int) : Int :=
  if nameB g.name = false then 1 else if 0 ≤ aidxFrom ahead g.name 0 then 6 else if g.room < 1 ∨ 4 < g.room then 9 else likesFrom g.likes others 0
theorem Ints.take {w : World} {a : Option Addr} {n c : Nat} {l : List Int} (h : Ints w a n c l) (k : Nat) (hk : k ≤ n) : Ints w a k c (l.take k) := by
  obtain ⟨hn, hc, hm, h⟩ := h
  refine ⟨by simp; omega, by omega, hm, ?_⟩
  rcases h with h0 | ⟨b, off, rfl, hlt, hcell⟩
  · exact Or.inl (by omega)
  · refine Or.inr ⟨b, off, rfl, hlt, fun j hj => ?_⟩
    rw [hcell j (by omega), List.getElem?_take, if_pos hj]
set_option maxHeartbeats 1000000 in
theorem maySome_any (la : Option Addr) (ln lc : Nat) (likes : List Int) (o : Int) (w : World) (hl : Ints w la ln lc likes) :
    Calls Tryd.prog 43 #[.slice la ln lc, .int .i64 o] w fun e w' => e = .returned (.int .i64 (likesFrom likes o 0)) ∧ w' = w := by
  have hl0 := hl
  obtain ⟨hn', hc', hm', hrow⟩ := hl
  unfold maxLen at hm'
  have HN := hide hn'
  clear hn'
  rcases hrow with hz | ⟨b, off, rfl, hb, hcell⟩
  · subst hz
    go_enter Tryd.func43, Tryd.ntmps43
    go_wp2
    refine wp_loop_rounds 1 ?_
    rw [rounds_succ]
    go_wp2
    go_ret
    exact ⟨ret_int (by rw [likesFrom_end (by have := unhide HN; omega)]), rfl⟩
  go_enter Tryd.func43, Tryd.ntmps43
  go_wp2
  go_loop [9, 5, 6] (fun i _ _ => ∃ k : Nat, k ≤ ln ∧ i = .int .i64 k ∧ likesFrom likes o 0 = likesFrom likes o k) (fun i _ _ => ln - (intOf i).toNat)
  case atStart => exact ⟨0, Nat.zero_le _, rfl, rfl⟩
  case round =>
    obtain ⟨k, hk, rfl, hn⟩ := hrel
    have HI := hide hn
    clear hn
    by_cases hlt : k < ln
    · have hck : w.cell? ⟨b, off + k, none⟩ = some (.int .i64 (likes[k]?.getD 0)) := hcell k hlt
      have hlen : k < likes.length := by have := unhide HN; omega
      have HL := hide hlen
      clear hlen
      by_cases he : likes[k]?.getD 0 < 0 ∨ o ≤ likes[k]?.getD 0
      · have HE := hide (likesFrom_who (unhide HL) he)
        rcases he with he | he
        · go_wp2
          go_ret
          exact ⟨ret_int (by rw [unhide HI, unhide HE]), rfl⟩
        · by_cases he2 : likes[k]?.getD 0 < 0
          · go_wp2
            go_ret
            exact ⟨ret_int (by rw [unhide HI, unhide HE]), rfl⟩
          · go_wp2
            go_ret
            exact ⟨ret_int (by rw [unhide HI, unhide HE]), rfl⟩
      · have he1 : ¬ likes[k]?.getD 0 < 0 := by omega
        have he2 : ¬ o ≤ likes[k]?.getD 0 := by omega
        by_cases hd : 0 ≤ idxFrom (likes.take k) (likes[k]?.getD 0) 0
        · have HE := hide (likesFrom_dbl (unhide HL) he hd)
          clear he
          go_wp2_with (go_at_call 63; refine (contains_any _ k lc (likes.take k) _ _ (hl0.take k hk)).mono ?_; rintro e w' ⟨rfl, rfl⟩)
          go_ret
          exact ⟨ret_int (by rw [unhide HI, unhide HE]), rfl⟩
        · have HE := hide (likesFrom_on (unhide HL) he hd)
          have hd' : idxFrom (likes.take k) (likes[k]?.getD 0) 0 < 0 := by omega
          clear he
          go_wp2_with (go_at_call 63; refine (contains_any _ k lc (likes.take k) _ _ (hl0.take k hk)).mono ?_; rintro e w' ⟨rfl, rfl⟩)
          refine ⟨⟨k+1, by omega, by go_num, by rw [unhide HI, unhide HE]⟩, by simp [intOf]; omega⟩
    · go_wp2
      go_ret
      exact ⟨ret_int (by rw [unhide HI, likesFrom_end (by have := unhide HN; omega)]), rfl⟩
set_option maxHeartbeats 1000000 in
theorem mayAgent_any (nm : ByteArray) (room : Int) (la : Option Addr) (ln lc : Nat) (likes : List Int) (a : Option Addr) (n c : Nat) (l : List Ag) (o : Int) (w : World) (h : Ags w a n c l) (hl : Ints w la ln lc likes) (hs : nm.size ≤ maxLen) :
    Calls Tryd.prog 20 #[.agg #[.string nm, .int .i64 room, .slice la ln lc], .slice a n c, .int .i64 o] w fun e w' => e = .returned (.int .i64 (agE ⟨nm, room, la, ln, lc, likes⟩ l o)) ∧ Below w.heap.size w w' := by
  have hbw : Below w.heap.size w (w.alloc (.cells #[.string nm, .int .i64 room, .slice la ln lc] 27)) := by go_grown
  have hl1 := hl.later hbw
  have h1 := h.later hbw
  cases hn : nameB nm with
  | false =>
    go_enter Tryd.func20, Tryd.ntmps20
    go_wp2_with (go_at_call 41; refine (isName_any nm _ hs).mono ?_; rintro e w' ⟨rfl, rfl⟩)
    go_ret
    exact ⟨ret_int (by simp [agE, hn]), hbw⟩
  | true =>
  by_cases hp : 0 ≤ aidxFrom l nm 0
  · have HP : Hid (0 ≤ aidxFrom l nm 0) := hp
    go_enter Tryd.func20, Tryd.ntmps20
    go_wp2_with (first | (go_at_call 41; refine (isName_any nm _ hs).mono ?_; rintro e w' ⟨rfl, rfl⟩) | (go_at_call 42; refine (placeN_any a n c l nm _ h1).mono ?_; rintro e w1 ⟨rfl, hb1⟩))
    go_ret
    exact ⟨ret_int (by simp [agE, hn, hp]), hbw.trans (hb1.mono hbw.size)⟩
  have HP : Hid (¬ 0 ≤ aidxFrom l nm 0) := hp
  have hp' : aidxFrom l nm 0 < 0 := by omega
  by_cases hr : room < 1 ∨ 4 < room
  · have HR : Hid (room < 1 ∨ 4 < room) := hr
    have hfin : agE ⟨nm, room, la, ln, lc, likes⟩ l o = 9 := by simp [agE, hn, hp, hr]
    have HF := hide hfin
    clear hfin hr hp
    rcases HR.out with hr | hr
    · go_enter Tryd.func20, Tryd.ntmps20
      go_wp2_with (first | (go_at_call 41; refine (isName_any nm _ hs).mono ?_; rintro e w' ⟨rfl, rfl⟩) | (go_at_call 42; refine (placeN_any a n c l nm _ h1).mono ?_; rintro e w1 ⟨rfl, hb1⟩; have q1 := hb1.cell (p := ⟨w.heap.size, 1, none⟩) (by simp)))
      go_ret
      exact ⟨ret_int (by rw [unhide HF]), hbw.trans (hb1.mono hbw.size)⟩
    · have hr2 : ¬ room < 1 := by omega
      go_enter Tryd.func20, Tryd.ntmps20
      go_wp2_with (first | (go_at_call 41; refine (isName_any nm _ hs).mono ?_; rintro e w' ⟨rfl, rfl⟩) | (go_at_call 42; refine (placeN_any a n c l nm _ h1).mono ?_; rintro e w1 ⟨rfl, hb1⟩; have q1 := hb1.cell (p := ⟨w.heap.size, 1, none⟩) (by simp)))
      go_ret
      exact ⟨ret_int (by rw [unhide HF]), hbw.trans (hb1.mono hbw.size)⟩
  have hr1 : ¬ room < 1 := by omega
  have hr2 : ¬ 4 < room := by omega
  have hfin : agE ⟨nm, room, la, ln, lc, likes⟩ l o = likesFrom likes o 0 := by simp [agE, hn, hp, hr1, hr2]
  have HF := hide hfin
  clear hfin hr hp
  have hd0 : decide (0 ≤ aidxFrom l nm 0) = false := by simpa using hp'
  have hd1 : decide (room < 1) = false := by simpa using hr1
  have hd2 : decide (4 < room) = false := by simpa using hr2
  go_enter Tryd.func20, Tryd.ntmps20
  go_wp2_with (first | (go_at_call 41; refine (isName_any nm _ hs).mono ?_; rintro e w' ⟨rfl, rfl⟩) | (go_at_call 42; refine (placeN_any a n c l nm _ h1).mono ?_; rintro e w1 ⟨rfl, hb1⟩; have q1 := hb1.cell (p := ⟨w.heap.size, 1, none⟩) (by simp); have q2 := hb1.cell (p := ⟨w.heap.size, 2, none⟩) (by simp)))
  have hbb : Below w.heap.size w w1 := hbw.trans (hb1.mono hbw.size)
  refine (maySome_any la ln lc likes o w1 (hl.later hbb)).mono ?_
  rintro e w2 ⟨rfl, hw2⟩
  subst w2
  go_wp2
  go_ret
  exact ⟨ret_int (by rw [unhide HF]), hbb⟩
end Go.Proofs.YtajdijjecojdhaaDoor
