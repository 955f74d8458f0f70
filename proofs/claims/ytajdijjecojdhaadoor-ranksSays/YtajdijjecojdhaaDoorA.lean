import Derived.Test.YtajdijjecojdhaaDoorProg
import Derived.WalkKit
import Derived.WalkSpells
import Derived.WalkLawsBesides
import Derived.BigQuiet
import Derived.Deep.QuietTactic
import Derived.Handy
namespace Go.Proofs.YtajdijjecojdhaaDoor
open Go.RowKit
def isLet (c : Int) : Bool := decide (97 ≤ c ∧ c ≤ 122)
def isFig (c : Int) : Bool := decide (48 ≤ c ∧ c ≤ 57)
theorem letter_any (c : Int) (w : World) :
    Calls Tryd.prog 44 #[.int .u8 c] w fun e w' => e = .returned (.bool (isLet c)) ∧ w' = w := by
  by_cases h1 : 97 ≤ c <;> by_cases h2 : c ≤ 122
  all_goals
    go_enter Tryd.func44, Tryd.ntmps44
    go_wp2
    go_ret
    refine ⟨by simp [isLet, h1, h2], rfl⟩
theorem figure_any (c : Int) (w : World) :
    Calls Tryd.prog 45 #[.int .u8 c] w fun e w' => e = .returned (.bool (isFig c)) ∧ w' = w := by
  by_cases h1 : 48 ≤ c <;> by_cases h2 : c ≤ 57
  all_goals
    go_enter Tryd.func45, Tryd.ntmps45
    go_wp2
    go_ret
    refine ⟨by simp [isFig, h1, h2], rfl⟩
theorem isDigit_any (c : Int) (w : World) :
    Calls Tryd.prog 60 #[.int .u8 c] w fun e w' => e = .returned (.bool (isFig c)) ∧ w' = w := by
  by_cases h1 : 48 ≤ c <;> by_cases h2 : c ≤ 57
  all_goals
    go_enter Tryd.func60, Tryd.ntmps60
    go_wp2
    go_ret
    refine ⟨by simp [isFig, h1, h2], rfl⟩
def okAt (i : Nat) (c : Int) : Bool := isLet c || (decide (i ≠ 0) && (isFig c || decide (c = 95)))
def nameFuel (s : ByteArray) : Nat → Nat → Bool
  | 0, _ => true
  | f + 1, k => (if h : k < s.size then okAt k s[k].toNat else true) && nameFuel s f (k + 1)
def nameFrom (s : ByteArray) (k : Nat) : Bool := nameFuel s (s.size - k) k
def nameB (s : ByteArray) : Bool := !s.toList.isEmpty && decide (s.size ≤ 12) && !(s.toList == [108, 101, 102, 116]) && !(s.toList == [114, 105, 103, 104, 116]) && nameFrom s 0
theorem nameFrom_step {s : ByteArray} {k : Nat} (h : k < s.size) : nameFrom s k = (okAt k s[k].toNat && nameFrom s (k+1)) := by
  unfold nameFrom
  rw [show s.size - k = (s.size - (k + 1)) + 1 by omega, nameFuel, dif_pos h]
theorem nameFrom_yes {s : ByteArray} {k : Nat} (h : k < s.size) (ho : okAt k s[k].toNat = true) : nameFrom s k = nameFrom s (k+1) := by
  rw [nameFrom_step h, ho, Bool.true_and]
theorem nameFrom_no {s : ByteArray} {k : Nat} (h : k < s.size) (ho : okAt k s[k].toNat = false) : nameFrom s k = false := by
  rw [nameFrom_step h, ho, Bool.false_and]
theorem nameFrom_end {s : ByteArray} {k : Nat} (h : ¬ k < s.size) : nameFrom s k = true := by
  unfold nameFrom
  rw [show s.size - k = 0 by omega, nameFuel]
theorem ret_bool {a b : Bool} (h : a = b) : Ending.returned (.bool a) = .returned (.bool b) := by rw [h]
theorem ret_int {k : IntKind} {a b : Int} (h : a = b) : Ending.returned (.int k a) = .returned (.int k b) := by rw [h]
set_option maxHeartbeats 1000000 in
theorem named_loop (s : ByteArray) (w : World) (hs : s.size ≤ maxLen) (h0 : s.toList.isEmpty = false) (h1 : (s.size : Int) ≤ 12) (h2 : (s.toList == [108, 101, 102, 116]) = false) (h3 : (s.toList == [114, 105, 103, 104, 116]) = false) :
    Calls Tryd.prog 21 #[.string s] w fun e w' => e = .returned (.bool (nameFrom s 0)) ∧ w' = w := by
  unfold maxLen at hs
  go_enter Tryd.func21, Tryd.ntmps21
  go_wp2
  go_loop [3, 4, 5] (fun i _ _ => ∃ k : Nat, k ≤ s.size ∧ i = .int .i64 k ∧ nameFrom s 0 = nameFrom s k) (fun i _ _ => s.size - (intOf i).toNat)
  case atStart => exact ⟨0, Nat.zero_le _, rfl, rfl⟩
  case round =>
    obtain ⟨k, hk, rfl, hn⟩ := hrel
    have HN : Hid (nameFrom s 0 = nameFrom s k) := hn
    clear hn
    by_cases hlt : k < s.size
    · go_wp2_with (first | (go_at_call 44; refine (letter_any _ _).mono ?_; rintro e w' ⟨rfl, rfl⟩) | (go_at_call 45; refine (figure_any _ _).mono ?_; rintro e w' ⟨rfl, rfl⟩))
      all_goals first
        | (refine ⟨⟨k+1, by omega, by go_num, ?_⟩, by simp [intOf]; omega⟩
           rw [HN.out]; exact nameFrom_yes hlt (by simp_all [okAt]))
        | (go_ret
           refine ⟨ret_bool ?_, rfl⟩
           rw [HN.out]; exact (nameFrom_no hlt (by simp_all [okAt])).symm)
    · go_wp2
      go_ret
      exact ⟨ret_bool (by rw [HN.out, nameFrom_end hlt]), rfl⟩

theorem size_toList (s : ByteArray) : s.toList.length = s.size := by simp [ByteArray.toList_eq]
theorem named_any (s : ByteArray) (w : World) (hs : s.size ≤ maxLen) :
    Calls Tryd.prog 21 #[.string s] w fun e w' => e = .returned (.bool (nameB s)) ∧ w' = w := by
  cases h0 : s.toList.isEmpty with
  | true =>
    go_enter Tryd.func21, Tryd.ntmps21
    go_wp2
    all_goals (go_ret; exact ⟨ret_bool (by simp [nameB, h0]), rfl⟩)
  | false =>
  by_cases h1' : 12 < (s.size : Int)
  · go_enter Tryd.func21, Tryd.ntmps21
    go_wp2
    all_goals (go_ret; exact ⟨ret_bool (by simp [nameB, h0]; omega), rfl⟩)
  have h1 : (s.size : Int) ≤ 12 := by omega
  clear h1'
  cases h2 : (s.toList == [108, 101, 102, 116]) with
  | true =>
    go_enter Tryd.func21, Tryd.ntmps21
    go_wp2
    all_goals (go_ret; exact ⟨ret_bool (by simp [nameB, h0, h2]), rfl⟩)
  | false =>
  cases h3 : (s.toList == [114, 105, 103, 104, 116]) with
  | true =>
    go_enter Tryd.func21, Tryd.ntmps21
    go_wp2
    all_goals (go_ret; exact ⟨ret_bool (by simp [nameB, h0, h2, h3]), rfl⟩)
  | false =>
    refine (named_loop s w hs h0 h1 h2 h3).mono ?_
    rintro e w' ⟨rfl, rfl⟩
    refine ⟨ret_bool ?_, rfl⟩
    have : s.size ≤ 12 := by omega
    simp [nameB, h0, h2, h3, this]
set_option maxHeartbeats 1000000 in
theorem isName_loop (s : ByteArray) (w : World) (hs : s.size ≤ maxLen) (h0 : s.toList.isEmpty = false) (h1 : (s.size : Int) ≤ 12) (h2 : (s.toList == [108, 101, 102, 116]) = false) (h3 : (s.toList == [114, 105, 103, 104, 116]) = false) :
    Calls Tryd.prog 41 #[.string s] w fun e w' => e = .returned (.bool (nameFrom s 0)) ∧ w' = w := by
  unfold maxLen at hs
  go_enter Tryd.func41, Tryd.ntmps41
  go_wp2
  go_loop [22, 3, 4] (fun i _ _ => ∃ k : Nat, k ≤ s.size ∧ i = .int .i64 k ∧ nameFrom s 0 = nameFrom s k) (fun i _ _ => s.size - (intOf i).toNat)
  case atStart => exact ⟨0, Nat.zero_le _, rfl, rfl⟩
  case round =>
    obtain ⟨k, hk, rfl, hn⟩ := hrel
    have HN : Hid (nameFrom s 0 = nameFrom s k) := hn
    clear hn
    by_cases hlt : k < s.size
    · by_cases c1 : 97 ≤ (s[k].toNat : Int) <;> by_cases c2 : (s[k].toNat : Int) ≤ 122
      all_goals
        go_wp2_with (first | (go_at_call 60; refine (isDigit_any _ _).mono ?_; rintro e w' ⟨rfl, rfl⟩))
      all_goals first
        | (refine ⟨⟨k+1, by omega, by go_num, ?_⟩, by simp [intOf]; omega⟩
           rw [HN.out]; exact nameFrom_yes hlt (by simp_all [okAt, isLet]))
        | (go_ret
           refine ⟨ret_bool ?_, rfl⟩
           rw [HN.out]; exact (nameFrom_no hlt (by simp_all [okAt, isLet])).symm)
        | (go_ret
           refine ⟨ret_bool ?_, rfl⟩
           rw [HN.out]; exact (nameFrom_no hlt (by simp_all [okAt, isLet]; omega)).symm)
    · go_wp2
      go_ret
      exact ⟨ret_bool (by rw [HN.out, nameFrom_end hlt]), rfl⟩
theorem isName_any (s : ByteArray) (w : World) (hs : s.size ≤ maxLen) :
    Calls Tryd.prog 41 #[.string s] w fun e w' => e = .returned (.bool (nameB s)) ∧ w' = w := by
  cases h0 : s.toList.isEmpty with
  | true =>
    go_enter Tryd.func41, Tryd.ntmps41
    go_wp2
    all_goals (go_ret; exact ⟨ret_bool (by simp [nameB, h0]), rfl⟩)
  | false =>
  by_cases h1' : 12 < (s.size : Int)
  · go_enter Tryd.func41, Tryd.ntmps41
    go_wp2
    all_goals (go_ret; exact ⟨ret_bool (by simp [nameB, h0]; omega), rfl⟩)
  have h1 : (s.size : Int) ≤ 12 := by omega
  clear h1'
  cases h2 : (s.toList == [108, 101, 102, 116]) with
  | true =>
    go_enter Tryd.func41, Tryd.ntmps41
    go_wp2
    all_goals (go_ret; exact ⟨ret_bool (by simp [nameB, h0, h2]), rfl⟩)
  | false =>
  cases h3 : (s.toList == [114, 105, 103, 104, 116]) with
  | true =>
    go_enter Tryd.func41, Tryd.ntmps41
    go_wp2
    all_goals (go_ret; exact ⟨ret_bool (by simp [nameB, h0, h2, h3]), rfl⟩)
  | false =>
    refine (isName_loop s w hs h0 h1 h2 h3).mono ?_
    rintro e w' ⟨rfl, rfl⟩
    refine ⟨ret_bool ?_, rfl⟩
    have : s.size ≤ 12 := by omega
    simp [nameB, h0, h2, h3, this]
end Go.Proofs.YtajdijjecojdhaaDoor
