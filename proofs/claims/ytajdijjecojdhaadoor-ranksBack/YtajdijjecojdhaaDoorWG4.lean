import Derived.Test.YtajdijjecojdhaaDoorWX
import Derived.Test.YtajdijjecojdhaaDoorWZ
import Derived.Lib.AtoiAll
import Derived.WalkSpells
namespace Go.Proofs.YtajdijjecojdhaaDoor
open Go.RowKit
/-- A slice of strings as it lies, with its capacity and its block. -/
def Strz (w : World) (a : Option Addr) (n c : Nat) (l : List ByteArray) : Prop :=
  n = l.length ∧ n ≤ c ∧ c ≤ maxLen ∧ (∀ s ∈ l, s.size ≤ maxLen) ∧ (n = 0 ∨ ∃ b off, a = some ⟨b, off, none⟩ ∧ b < w.heap.size ∧ ∀ j, j < n → w.cell? ⟨b, off + j, none⟩ = some (.string (l[j]?.getD ByteArray.empty)))
theorem Strz.later {w w' : World} {a : Option Addr} {n c : Nat} {l : List ByteArray} (h : Strz w a n c l) (hb : Below w.heap.size w w') : Strz w' a n c l := by
  obtain ⟨hn, hc, hm, hs, h⟩ := h
  refine ⟨hn, hc, hm, hs, ?_⟩
  rcases h with h0 | ⟨b, off, rfl, hlt, hcell⟩
  · exact Or.inl h0
  · exact Or.inr ⟨b, off, rfl, Nat.lt_of_lt_of_le hlt hb.size, fun j hj => (hb.cell (p := ⟨b, off + j, none⟩) hlt).trans (hcell j hj)⟩
def namesFuel (l : List ByteArray) : Nat → Nat → Bool
  | 0, _ => true
  | f + 1, k => nameB (l[k]?.getD ByteArray.empty) && namesFuel l f (k + 1)
def namesFrom (l : List ByteArray) (k : Nat) : Bool := namesFuel l (l.length - k) k
theorem namesFrom_step {l : List ByteArray} {k : Nat} (h : k < l.length) : namesFrom l k = (nameB (l[k]?.getD ByteArray.empty) && namesFrom l (k+1)) := by
  unfold namesFrom
  rw [show l.length - k = (l.length - (k + 1)) + 1 by omega, namesFuel]
theorem namesFrom_end {l : List ByteArray} {k : Nat} (h : ¬ k < l.length) : namesFrom l k = true := by
  unfold namesFrom
  rw [show l.length - k = 0 by omega, namesFuel]
theorem getD_size {l : List ByteArray} (hs : ∀ s ∈ l, s.size ≤ maxLen) (k : Nat) : (l[k]?.getD ByteArray.empty).size ≤ maxLen := by
  by_cases h : k < l.length
  · rw [List.getElem?_eq_getElem h]; exact hs _ (List.getElem_mem h)
  · rw [List.getElem?_eq_none (by omega)]; simp [maxLen]
/-- A list's rest is a slice's rest. -/
theorem Strz.rest {w : World} {b off n c : Nat} {x : ByteArray} {t : List ByteArray} (h : Strz w (some ⟨b, off, none⟩) (n + 1) (c + 1) (x :: t)) (a' : Option Addr) (ha : n = 0 ∨ a' = some ⟨b, off + 1, none⟩) : Strz w a' n c t := by
  obtain ⟨hn, hc, hm, hs, h⟩ := h
  simp only [List.length_cons] at hn
  refine ⟨by omega, by omega, by omega, fun s m => hs s (List.mem_cons_of_mem _ m), ?_⟩
  rcases ha with h0 | rfl
  · exact Or.inl h0
  · rcases h with h0 | ⟨b', off', e, hlt, hcell⟩
    · omega
    · cases e
      refine Or.inr ⟨b, off + 1, rfl, hlt, fun j hj => ?_⟩
      have := hcell (j + 1) (by omega)
      rw [show off + 1 + j = off + (j + 1) by omega, this]
      rfl
theorem takeLikes_nil (a : Option Addr) (c : Nat) (w : World) :
    Calls Tryd.prog 51 #[.slice a 0 c] w fun e w' => e = .panicked [{ v := thrown 4, recovered := false }] ∧ w' = w := by
  go_enter Tryd.func51, Tryd.ntmps51
  go_wp2_with fail
  refine (need_no 4 _).mono ?_
  rintro e w' ⟨rfl, rfl⟩
  go_wp2
  exact ⟨rfl, rfl, rfl⟩
set_option maxHeartbeats 1000000 in
theorem takeLikes_word (b off n c : Nat) (x : ByteArray) (t : List ByteArray) (w : World) (h : Strz w (some ⟨b, off, none⟩) (n + 1) (c + 1) (x :: t)) (hx : (x.toList == [58]) = false) :
    Calls Tryd.prog 51 #[.slice (some ⟨b, off, none⟩) (n + 1) (c + 1)] w fun e w' => e = .panicked [{ v := thrown 3, recovered := false }] ∧ w' = w := by
  obtain ⟨hn, hc, hm, hs, h⟩ := h
  unfold maxLen at hm
  rcases h with h0 | ⟨b', off', e, hlt, hcell⟩
  · omega
  cases e
  have h0 : w.cell? ⟨b, off, none⟩ = some (.string x) := hcell 0 (by omega)
  clear hcell hn hs
  go_enter Tryd.func51, Tryd.ntmps51
  go_wp2_with fail
  refine (need_yes 4 _).mono ?_
  rintro e w' ⟨rfl, rfl⟩
  go_wp2_with fail
  refine (need_no 3 _).mono ?_
  rintro e w' ⟨rfl, rfl⟩
  go_wp2
  exact ⟨rfl, rfl, rfl⟩
set_option maxHeartbeats 2000000 in
theorem takeLikes_main (b off n c : Nat) (x : ByteArray) (t : List ByteArray) (w : World) (h : Strz w (some ⟨b, off, none⟩) (n + 1) (c + 1) (x :: t)) (hx : (x.toList == [58]) = true) :
    Calls Tryd.prog 51 #[.slice (some ⟨b, off, none⟩) (n + 1) (c + 1)] w fun e w' => w' = w ∧
      ((namesFrom t 0 = false ∧ e = .panicked [{ v := thrown 3, recovered := false }]) ∨ (namesFrom t 0 = true ∧ ∃ a', e = .returned (.slice a' n c) ∧ Strz w a' n c t ∧ (n = 0 ∨ a' = some ⟨b, off + 1, none⟩))) := by
  have HR := hide (fun a' => h.rest a')
  obtain ⟨hn, hc, hm, hs, h⟩ := h
  have HT : Hid (n = t.length) := by
    show n = t.length
    simp only [List.length_cons] at hn; omega
  have HZ : Hid (∀ k, (t[k]?.getD ByteArray.empty).size ≤ maxLen) := fun k => getD_size (fun s m => hs s (List.mem_cons_of_mem _ m)) k
  unfold maxLen at hm
  rcases h with h0 | ⟨b', off', e, hlt, hcell⟩
  · omega
  cases e
  have h0 : w.cell? ⟨b, off, none⟩ = some (.string x) := hcell 0 (by omega)
  have HC : Hid (∀ k, k < n → w.cell? ⟨b, off + 1 + k, none⟩ = some (.string (t[k]?.getD ByteArray.empty))) := fun k hk => by
    have := hcell (k + 1) (by omega)
    rw [show off + 1 + k = off + (k + 1) by omega, this]; rfl
  clear hcell hn hs
  by_cases hc0 : c = 0
  · obtain rfl : n = 0 := by omega
    subst hc0
    go_enter Tryd.func51, Tryd.ntmps51
    go_wp2_with fail
    refine (need_yes 4 _).mono ?_
    rintro e w1 ⟨rfl, hw1⟩
    subst hw1
    go_wp2_with fail
    refine (need_yes 3 _).mono ?_
    rintro e w2 ⟨rfl, hw2⟩
    subst hw2
    go_wp2_with fail
    refine wp_loop_rounds 1 ?_
    rw [rounds_succ]
    go_wp2
    go_ret
    exact ⟨rfl, Or.inr ⟨namesFrom_end (by have := unhide HT; omega), _, rfl, unhide HR _ (Or.inl (by simp)), Or.inl (by simp)⟩⟩
  · have HW := hide (rfl : w = w)
    go_enter Tryd.func51, Tryd.ntmps51
    go_wp2_with fail
    refine (need_yes 4 _).mono ?_
    rintro e w1 ⟨rfl, hw1⟩
    subst hw1
    go_wp2_with fail
    refine (need_yes 3 _).mono ?_
    rintro e w2 ⟨rfl, hw2⟩
    subst hw2
    go_wp2_with fail
    go_loop [17, 4] (fun i _ => ∃ k : Nat, k ≤ n ∧ i = .int .i64 k ∧ namesFrom t 0 = namesFrom t k) (fun i _ => n - (intOf i).toNat)
    case atStart => exact ⟨0, Nat.zero_le _, rfl, rfl⟩
    case round =>
      obtain ⟨k, hk, rfl, hn⟩ := hrel
      have HI := hide hn
      clear hn
      by_cases hlt2 : k < n
      · have hck := unhide HC k hlt2
        have HS := hide (namesFrom_step (l := t) (k := k) (by have := unhide HT; omega))
        have HY := hide (unhide HZ k)
        generalize (t[k]?.getD ByteArray.empty) = y at *
        go_wp2_with fail
        refine (isName_any y _ (unhide HY)).mono ?_
        rintro e w3 ⟨rfl, hw3⟩
        subst hw3
        cases hy : nameB y with
        | false =>
          go_wp2_with fail
          refine (need_no 3 _).mono ?_
          rintro e w4 ⟨rfl, hw4⟩
          subst hw4
          go_wp2
          exact ⟨rfl, rfl, Or.inl ⟨by rw [unhide HI, unhide HS, hy, Bool.false_and], rfl⟩⟩
        | true =>
          go_wp2_with fail
          refine (need_yes 3 _).mono ?_
          rintro e w4 ⟨rfl, hw4⟩
          subst hw4
          go_wp2
          refine ⟨⟨k+1, by omega, by go_num, ?_⟩, by simp [intOf]; omega⟩
          rw [unhide HI, unhide HS, hy, Bool.true_and]
      · go_wp2
        go_ret
        exact ⟨rfl, Or.inr ⟨by rw [unhide HI, namesFrom_end (by have := unhide HT; omega)], _, rfl, unhide HR _ (Or.inr rfl), Or.inr rfl⟩⟩
theorem cons_of_len {l : List ByteArray} {n : Nat} (h : n + 1 = l.length) : ∃ x t, l = x :: t := by
  cases l with
  | nil => simp at h
  | cons x t => exact ⟨x, t, rfl⟩
/-- What 'takeLikes' takes: the rest, or why not. -/
def likesP : List ByteArray → Except Int (List ByteArray)
  | [] => .error 4
  | x :: t => if (x.toList == [58]) = true then (if namesFrom t 0 = true then .ok t else .error 3) else .error 3
/-- A slice of the same block. -/
def SameB (a a' : Option Addr) (n' : Nat) : Prop := n' = 0 ∨ ∃ b o o', a = some ⟨b, o, none⟩ ∧ a' = some ⟨b, o', none⟩
theorem takeLikes_anyB (a : Option Addr) (n c : Nat) (l : List ByteArray) (w : World) (h : Strz w a n c l) :
    Calls Tryd.prog 51 #[.slice a n c] w fun e w' => w' = w ∧
      ((∃ k, likesP l = .error k ∧ e = .panicked [{ v := thrown k, recovered := false }]) ∨ (∃ t a' n' c', likesP l = .ok t ∧ e = .returned (.slice a' n' c') ∧ Strz w a' n' c' t ∧ SameB a a' n')) := by
  have h' := h
  obtain ⟨hn, hc, hm, hs, hh⟩ := h
  cases n with
  | zero =>
    obtain rfl : l = [] := List.eq_nil_of_length_eq_zero hn.symm
    refine (takeLikes_nil a c w).mono ?_
    rintro e w' ⟨rfl, rfl⟩
    exact ⟨rfl, Or.inl ⟨4, rfl, rfl⟩⟩
  | succ n =>
    obtain ⟨x, t, rfl⟩ := cons_of_len hn
    rcases hh with h0 | ⟨b, off, rfl, hlt, hcell⟩
    · omega
    obtain ⟨c, rfl⟩ : ∃ d, c = d + 1 := ⟨c - 1, by omega⟩
    cases hx : (x.toList == [58]) with
    | false =>
      refine (takeLikes_word b off n c x t w h' hx).mono ?_
      rintro e w' ⟨rfl, rfl⟩
      exact ⟨rfl, Or.inl ⟨3, by simp [likesP, hx], rfl⟩⟩
    | true =>
      refine (takeLikes_main b off n c x t w h' hx).mono ?_
      rintro e w' ⟨rfl, h1 | h1⟩
      · exact ⟨rfl, Or.inl ⟨3, by simp [likesP, hx, h1.1], h1.2⟩⟩
      · obtain ⟨h2, a', h3, h4, h5⟩ := h1
        exact ⟨rfl, Or.inr ⟨t, a', n, c, by simp [likesP, hx, h2], h3, h4, h5.imp id (fun e => ⟨b, off, off + 1, rfl, e⟩)⟩⟩
theorem takeLikes_any (a : Option Addr) (n c : Nat) (l : List ByteArray) (w : World) (h : Strz w a n c l) :
    Calls Tryd.prog 51 #[.slice a n c] w fun e w' => w' = w ∧
      ((∃ k, likesP l = .error k ∧ e = .panicked [{ v := thrown k, recovered := false }]) ∨ (∃ t a' n' c', likesP l = .ok t ∧ e = .returned (.slice a' n' c') ∧ Strz w a' n' c' t)) := by
  refine (takeLikes_anyB a n c l w h).mono ?_
  rintro e w' ⟨hw, hk | ⟨t, a', n', c', h1, h2, h3, -⟩⟩
  · exact ⟨hw, .inl hk⟩
  · exact ⟨hw, .inr ⟨t, a', n', c', h1, h2, h3⟩⟩
theorem clone_any (s : ByteArray) (w : World) (hs : s.size ≤ 281474976710656) :
    Calls Tryd.prog 52 #[.string s] w fun e w' => e = .returned (.string s) ∧ Below w.heap.size w w' := by
  go_enter Tryd.func52, Tryd.ntmps52
  go_wp2_with fail
  refine (Tryd.stringslite_Clone s _ hs).mono ?_
  rintro e w' ⟨rfl, hb⟩
  go_wp2
  go_ret
  exact ⟨rfl, hb⟩
def blankR (x : Nat) : Bool := decide (x = 32) || decide (x = 9)
end Go.Proofs.YtajdijjecojdhaaDoor
namespace Go.Proofs.YtajdijjecojdhaaDoor
open Go.RowKit
theorem blank_any (x : Nat) (hx : x ≤ 1114111) (w : World) :
    Calls Tryd.prog 48 #[.int .i32 x] w fun e w' => e = .returned (.bool (blankR x)) ∧ ∃ q, w' = w.drewN q := by
  by_cases h1 : x = 32
  · subst h1
    go_enter Tryd.func48, Tryd.ntmps48
    go_wp2
    go_ret
    exact ⟨rfl, 0, rfl⟩
  · by_cases h2 : x = 9
    · subst h2
      go_enter Tryd.func48, Tryd.ntmps48
      go_wp2
      go_ret
      exact ⟨rfl, 0, rfl⟩
    · have g1 : ¬ (x : Int) = 32 := by omega
      have g2 : ¬ (x : Int) = 9 := by omega
      go_enter Tryd.func48, Tryd.ntmps48
      go_wp2
      go_ret
      refine ⟨ret_bool ?_, 0, rfl⟩
      simp [blankR, h1, h2]
      exact ⟨g1, g2⟩
def wordsB (s : ByteArray) : List ByteArray := Lib.goFieldsP blankR s
set_option maxHeartbeats 1000000 in
theorem words_any (s : ByteArray) (w : World) (hs : s.size ≤ 4294967296) :
    Calls Tryd.prog 27 #[.string s] w fun e w' => ∃ A, e = .returned (.slice (some ⟨A, 0, none⟩) (wordsB s).length (wordsB s).length) ∧ w.heap.size ≤ A ∧
      w'.ownsRow w.heap.size 9 1 (.slice (some ⟨A, 0, none⟩) (wordsB s).length (wordsB s).length) (wordsB s).length ((wordsB s).map Value.string) ∧ Below w.heap.size w w' := by
  go_enter Tryd.func27, Tryd.ntmps27
  go_wp2_with fail
  refine (Tryd.strings_FieldsFunc_runes 48 #[] (enters_of Tryd.func48 (by kernel_rfl) rfl) blankR s w hs ?_).mono ?_
  · intro W x hx hb
    exact blank_any x hx W
  rintro e w' ⟨A, rfl, hA, ho, hb⟩
  go_wp2
  go_ret
  exact ⟨A, rfl, hA, ho, hb⟩
theorem size_extract (s : ByteArray) (a b : Nat) : (s.extract a b).size ≤ s.size := by simp; omega
theorem wordsB_size {s x : ByteArray} (h : x ∈ wordsB s) : x.size ≤ s.size := by
  unfold wordsB Lib.goFieldsP at h
  obtain ⟨y, _, rfl⟩ := List.mem_map.1 h
  exact size_extract s _ _
theorem strz_of_row {w : World} {B A n c : Nat} {l : List ByteArray} (h : w.ownsRow B 9 1 (.slice (some ⟨A, 0, none⟩) n c) n (l.map Value.string)) (hs : ∀ s ∈ l, s.size ≤ maxLen) : Strz w (some ⟨A, 0, none⟩) n c l := by
  obtain ⟨hl, h | ⟨g, cap, cur, hv, hb, hg, hn, hc, hz, ht⟩⟩ := h
  · cases h.1
  · cases hv
    have hll : n = l.length := by simpa using hl.symm
    refine ⟨hll, hn, hc, hs, Or.inr ⟨A, 0, rfl, ?_, fun j hj => ?_⟩⟩
    · exact (Array.getElem?_eq_some_iff.1 hg).1
    · have hj' : j < cur.size := by omega
      have e : cur[j]? = some (Value.string (l[j]?.getD ByteArray.empty)) := by
        have e1 : (cur.toList.take (n * 1))[j]? = (l.map Value.string)[j]? := by rw [ht]
        rw [List.getElem?_take, if_pos (by omega), Array.getElem?_toList, List.getElem?_map] at e1
        rw [e1, List.getElem?_eq_getElem (by omega)]
        rfl
      unfold World.cell?
      simp [hg, e]
theorem words_strz (s : ByteArray) (w : World) (hs : s.size ≤ 4294967296) :
    Calls Tryd.prog 27 #[.string s] w fun e w' => ∃ A n c, e = .returned (.slice (some ⟨A, 0, none⟩) n c) ∧ Strz w' (some ⟨A, 0, none⟩) n c (wordsB s) ∧ Below w.heap.size w w' := by
  refine (words_any s w hs).mono ?_
  rintro e w' ⟨A, rfl, hA, ho, hb⟩
  exact ⟨A, _, _, rfl, strz_of_row ho (fun x hx => by have := wordsB_size hx; unfold maxLen; omega), hb⟩
theorem pu_ge : ∀ (l : List UInt8) (acc u : Nat), Lib.parseUint10 acc l = .ok u → acc ≤ u
  | [], acc, u, h => by simp only [Lib.parseUint10] at h; injection h with h; omega
  | c :: r, acc, u, h => by
    simp only [Lib.parseUint10] at h
    split at h
    · split at h
      · cases h
      · split at h
        · cases h
        · have := pu_ge r _ u h; omega
    · cases h
theorem pu_nosyn : ∀ (l : List UInt8) (acc : Nat), (∀ c ∈ l, 48 ≤ c.toNat ∧ c.toNat ≤ 57) → Lib.parseUint10 acc l ≠ .syntax
  | [], acc, _, h => by cases h
  | c :: r, acc, hd, h => by
    simp only [Lib.parseUint10] at h
    rw [if_pos (hd c (List.mem_cons_self ..))] at h
    split at h
    · cases h
    · split at h
      · cases h
      · exact pu_nosyn r _ (fun x hx => hd x (List.mem_cons_of_mem _ hx)) h
theorem dig_all {s : ByteArray} : ∀ (d k : Nat), s.size - k = d → digFrom s k = true → ∀ j (h : j < s.size), k ≤ j → 48 ≤ s[j].toNat ∧ s[j].toNat ≤ 57
  | 0, k, hd, _, j, hl, hj => by omega
  | d + 1, k, hd, h, j, hl, hj => by
    have hk : k < s.size := by omega
    rw [digFrom_step hk, Bool.and_eq_true] at h
    by_cases e : j = k
    · subst e
      have := h.1
      simp only [isFig, decide_eq_true_eq] at this
      omega
    · exact dig_all d (k + 1) (by omega) h.2 j hl (by omega)
theorem dig_mem {s : ByteArray} (h : digFrom s 0 = true) : ∀ c ∈ s.data.toList, 48 ≤ c.toNat ∧ c.toNat ≤ 57 := by
  intro c hc
  obtain ⟨j, hj, e⟩ := List.getElem_of_mem hc
  have hj' : j < s.size := by simpa using hj
  have := dig_all _ 0 rfl h j hj' (Nat.zero_le _)
  have e' : s[j] = c := by rw [← e]; rfl
  rw [e'] at this
  exact this
theorem atoi_num {s : ByteArray} (h : digFrom s 0 = true) (h1 : 0 < s.size) : Lib.atoiAll s.data.toList = .range ∨ ∃ u : Nat, Lib.atoiAll s.data.toList = .ok (u : Int) ∧ Lib.parseUint10 0 s.data.toList = .ok u := by
  have hm := dig_mem h
  have hl : s.data.toList.length = s.size := by simp
  generalize s.data.toList = l at *
  cases l with
  | nil => simp at hl; omega
  | cons c r =>
    have hc := hm c (List.mem_cons_self ..)
    have hns := pu_nosyn (c :: r) 0 hm
    unfold Lib.atoiAll
    simp only []
    rw [if_neg (by omega), Lib.parseMag, if_neg (by simp)]
    cases hp : Lib.parseUint10 0 (c :: r) with
    | «syntax» => exact absurd hp hns
    | range => exact Or.inl rfl
    | ok u =>
      simp only []
      rw [if_neg (show ¬ (c.toNat = 45 ∧ _) by omega), if_neg (show ¬ c.toNat = 45 by omega)]
      by_cases hu : 9223372036854775808 ≤ u
      · exact Or.inl (by rw [if_pos ⟨by omega, hu⟩])
      · exact Or.inr ⟨u, by rw [if_neg (by omega)], rfl⟩
theorem pu_one {c : UInt8} (hc : 48 ≤ c.toNat ∧ c.toNat ≤ 57) : Lib.parseUint10 0 [c] = .ok (c.toNat - 48) := by
  simp only [Lib.parseUint10]
  rw [if_pos hc, if_neg (by omega), if_neg (by omega)]
  simp
theorem pu_two {c d : UInt8} {r : List UInt8} {u : Nat} (hc : 48 ≤ c.toNat ∧ c.toNat ≤ 57) (h0 : c.toNat ≠ 48) (h : Lib.parseUint10 0 (c :: d :: r) = .ok u) : 10 ≤ u := by
  simp only [Lib.parseUint10] at h
  rw [if_pos hc, if_neg (by omega), if_neg (by omega)] at h
  split at h
  · split at h
    · cases h
    · split at h
      · cases h
      · have := pu_ge _ _ _ h; omega
  · cases h
end Go.Proofs.YtajdijjecojdhaaDoor
