import Derived.Test.YtajdijjecojdhaaDoorA
namespace Go.Proofs.YtajdijjecojdhaaDoor
open Go.RowKit
/-- A slice of ints as it lies: nil or empty, or a row of cells. -/
def Ints (w : World) (a : Option Addr) (n c : Nat) (l : List Int) : Prop :=
  n = l.length ∧ n ≤ c ∧ c ≤ maxLen ∧ (n = 0 ∨ ∃ b off, a = some ⟨b, off, none⟩ ∧ b < w.heap.size ∧ ∀ j, j < n → w.cell? ⟨b, off + j, none⟩ = some (.int .i64 (l[j]?.getD 0)))
def idxFuel (l : List Int) (x : Int) : Nat → Nat → Int
  | 0, _ => -1
  | f + 1, k => if l[k]?.getD 0 = x then (k : Int) else idxFuel l x f (k + 1)
def idxFrom (l : List Int) (x : Int) (k : Nat) : Int := idxFuel l x (l.length - k) k
theorem idxFrom_step {l : List Int} {x : Int} {k : Nat} (h : k < l.length) : idxFrom l x k = if l[k]?.getD 0 = x then (k : Int) else idxFrom l x (k+1) := by
  unfold idxFrom
  rw [show l.length - k = (l.length - (k + 1)) + 1 by omega, idxFuel]
theorem idxFrom_yes {l : List Int} {x : Int} {k : Nat} (h : k < l.length) (e : l[k]?.getD 0 = x) : idxFrom l x k = k := by
  rw [idxFrom_step h, if_pos e]
theorem idxFrom_no {l : List Int} {x : Int} {k : Nat} (h : k < l.length) (e : ¬ l[k]?.getD 0 = x) : idxFrom l x k = idxFrom l x (k+1) := by
  rw [idxFrom_step h, if_neg e]
theorem idxFrom_end {l : List Int} {x : Int} {k : Nat} (h : ¬ k < l.length) : idxFrom l x k = -1 := by
  unfold idxFrom
  rw [show l.length - k = 0 by omega, idxFuel]
set_option maxHeartbeats 400000 in
theorem place_any (a : Option Addr) (n c : Nat) (l : List Int) (x : Int) (w : World) (h : Ints w a n c l) :
    Calls Tryd.prog 12 #[.slice a n c, .int .i64 x] w fun e w' => e = .returned (.int .i64 (idxFrom l x 0)) ∧ w' = w := by
  obtain ⟨hn, hc, hm, h⟩ := h
  unfold maxLen at hm
  rcases h with h0 | ⟨b, off, rfl, hb, hcell⟩
  · subst h0
    go_enter Tryd.func12, Tryd.ntmps12
    go_wp2
    refine wp_loop_rounds 1 ?_
    rw [rounds_succ]
    go_wp2
    go_ret
    exact ⟨ret_int (by rw [idxFrom_end (by omega)]), rfl⟩
  · have HN : Hid (n = l.length) := hn
    clear hn
    go_enter Tryd.func12, Tryd.ntmps12
    go_wp2
    go_loop [5] (fun i => ∃ k : Nat, k ≤ n ∧ i = .int .i64 k ∧ idxFrom l x 0 = idxFrom l x k) (fun i => n - (intOf i).toNat)
    case atStart => exact ⟨0, Nat.zero_le _, rfl, rfl⟩
    case round =>
      obtain ⟨k, hk, rfl, hn⟩ := hrel
      have HI : Hid (idxFrom l x 0 = idxFrom l x k) := hn
      clear hn
      by_cases hlt : k < n
      · have hck := hcell k hlt
        go_wp2
        · go_ret
          refine ⟨ret_int ?_, rfl⟩
          rw [HI.out]; exact (idxFrom_yes (by have := HN.out; omega) (by simp_all)).symm
        · refine ⟨⟨k+1, by omega, by go_num, ?_⟩, by simp [intOf]; omega⟩
          rw [HI.out]; exact idxFrom_no (by have := HN.out; omega) (by simp_all)
      · go_wp2
        go_ret
        exact ⟨ret_int (by rw [HI.out, idxFrom_end (by have := HN.out; omega)]), rfl⟩
set_option maxHeartbeats 400000 in
theorem index_any (a : Option Addr) (n c : Nat) (l : List Int) (x : Int) (w : World) (h : Ints w a n c l) :
    Calls Tryd.prog 23 #[.slice a n c, .int .i64 x] w fun e w' => e = .returned (.int .i64 (idxFrom l x 0)) ∧ w' = w := by
  obtain ⟨hn, hc, hm, h⟩ := h
  unfold maxLen at hm
  rcases h with h0 | ⟨b, off, rfl, hb, hcell⟩
  · subst h0
    go_enter Tryd.func23, Tryd.ntmps23
    go_wp2
    refine wp_loop_rounds 1 ?_
    rw [rounds_succ]
    go_wp2
    go_ret
    exact ⟨ret_int (by rw [idxFrom_end (by omega)]), rfl⟩
  · have HN : Hid (n = l.length) := hn
    clear hn
    go_enter Tryd.func23, Tryd.ntmps23
    go_wp2
    go_loop [8, 5] (fun i _ => ∃ k : Nat, k ≤ n ∧ i = .int .i64 k ∧ idxFrom l x 0 = idxFrom l x k) (fun i _ => n - (intOf i).toNat)
    case atStart => exact ⟨0, Nat.zero_le _, rfl, rfl⟩
    case round =>
      obtain ⟨k, hk, rfl, hn⟩ := hrel
      have HI : Hid (idxFrom l x 0 = idxFrom l x k) := hn
      clear hn
      by_cases hlt : k < n
      · have hck := hcell k hlt
        go_wp2
        · go_ret
          refine ⟨ret_int ?_, rfl⟩
          rw [HI.out]; exact (idxFrom_yes (by have := HN.out; omega) (by simp_all)).symm
        · refine ⟨⟨k+1, by omega, by go_num, ?_⟩, by simp [intOf]; omega⟩
          rw [HI.out]; exact idxFrom_no (by have := HN.out; omega) (fun e => by simp_all)
      · go_wp2
        go_ret
        exact ⟨ret_int (by rw [HI.out, idxFrom_end (by have := HN.out; omega)]), rfl⟩
theorem contains_any (a : Option Addr) (n c : Nat) (l : List Int) (x : Int) (w : World) (h : Ints w a n c l) :
    Calls Tryd.prog 63 #[.slice a n c, .int .i64 x] w fun e w' => e = .returned (.bool (decide (0 ≤ idxFrom l x 0))) ∧ w' = w := by
  go_enter Tryd.func63, Tryd.ntmps63
  go_wp2_with (go_at_call 23; refine (index_any _ _ _ l _ _ h).mono ?_; rintro e w' ⟨rfl, rfl⟩)
  go_ret
  exact ⟨rfl, rfl⟩
/-- A slice of strings as it lies. -/
def Strs (w : World) (a : Option Addr) (n : Nat) (l : List ByteArray) : Prop :=
  n = l.length ∧ n ≤ 1000000 ∧ (n = 0 ∨ ∃ b off, a = some ⟨b, off, none⟩ ∧ ∀ j, j < n → w.cell? ⟨b, off + j, none⟩ = some (.string (l[j]?.getD ByteArray.empty)))
def sidxFuel (l : List ByteArray) (x : ByteArray) : Nat → Nat → Int
  | 0, _ => -1
  | f + 1, k => if (l[k]?.getD ByteArray.empty).toList = x.toList then (k : Int) else sidxFuel l x f (k + 1)
def sidxFrom (l : List ByteArray) (x : ByteArray) (k : Nat) : Int := sidxFuel l x (l.length - k) k
theorem sidxFrom_step {l : List ByteArray} {x : ByteArray} {k : Nat} (h : k < l.length) : sidxFrom l x k = if (l[k]?.getD ByteArray.empty).toList = x.toList then (k : Int) else sidxFrom l x (k+1) := by
  unfold sidxFrom
  rw [show l.length - k = (l.length - (k + 1)) + 1 by omega, sidxFuel]
theorem sidxFrom_yes {l : List ByteArray} {x : ByteArray} {k : Nat} (h : k < l.length) (e : (l[k]?.getD ByteArray.empty).toList = x.toList) : sidxFrom l x k = k := by
  rw [sidxFrom_step h, if_pos e]
theorem sidxFrom_no {l : List ByteArray} {x : ByteArray} {k : Nat} (h : k < l.length) (e : ¬ (l[k]?.getD ByteArray.empty).toList = x.toList) : sidxFrom l x k = sidxFrom l x (k+1) := by
  rw [sidxFrom_step h, if_neg e]
theorem sidxFrom_end {l : List ByteArray} {x : ByteArray} {k : Nat} (h : ¬ k < l.length) : sidxFrom l x k = -1 := by
  unfold sidxFrom
  rw [show l.length - k = 0 by omega, sidxFuel]
set_option maxHeartbeats 400000 in
theorem hasText_any (a : Option Addr) (n c : Nat) (l : List ByteArray) (x : ByteArray) (w : World) (h : Strs w a n l) :
    Calls Tryd.prog 22 #[.slice a n c, .string x] w fun e w' => e = .returned (.int .i64 (sidxFrom l x 0)) ∧ w' = w := by
  obtain ⟨hn, hm, h⟩ := h
  rcases h with h0 | ⟨b, off, rfl, hcell⟩
  · subst h0
    go_enter Tryd.func22, Tryd.ntmps22
    go_wp2
    refine wp_loop_rounds 1 ?_
    rw [rounds_succ]
    go_wp2
    go_ret
    exact ⟨ret_int (by rw [sidxFrom_end (by omega)]), rfl⟩
  · have HN : Hid (n = l.length) := hn
    clear hn
    go_enter Tryd.func22, Tryd.ntmps22
    go_wp2
    go_loop [5] (fun i => ∃ k : Nat, k ≤ n ∧ i = .int .i64 k ∧ sidxFrom l x 0 = sidxFrom l x k) (fun i => n - (intOf i).toNat)
    case atStart => exact ⟨0, Nat.zero_le _, rfl, rfl⟩
    case round =>
      obtain ⟨k, hk, rfl, hn⟩ := hrel
      have HI : Hid (sidxFrom l x 0 = sidxFrom l x k) := hn
      clear hn
      by_cases hlt : k < n
      · have hck := hcell k hlt
        go_wp2
        · go_ret
          refine ⟨ret_int ?_, rfl⟩
          rw [HI.out]; exact (sidxFrom_yes (by have := HN.out; omega) (by simp_all)).symm
        · refine ⟨⟨k+1, by omega, by go_num, ?_⟩, by simp [intOf]; omega⟩
          rw [HI.out]; exact sidxFrom_no (by have := HN.out; omega) (by simp_all)
      · go_wp2
        go_ret
        exact ⟨ret_int (by rw [HI.out, sidxFrom_end (by have := HN.out; omega)]), rfl⟩
theorem Ints.later {w w' : World} {a : Option Addr} {n c : Nat} {l : List Int} (h : Ints w a n c l) (hb : Below w.heap.size w w') : Ints w' a n c l := by
  obtain ⟨hn, hc, hm, h⟩ := h
  refine ⟨hn, hc, hm, ?_⟩
  rcases h with h0 | ⟨b, off, rfl, hlt, hcell⟩
  · exact Or.inl h0
  · exact Or.inr ⟨b, off, rfl, Nat.lt_of_lt_of_le hlt hb.size, fun j hj => (hb.cell (p := ⟨b, off + j, none⟩) hlt).trans (hcell j hj)⟩
set_option maxHeartbeats 400000 in
theorem rank_any (nm : ByteArray) (room : Int) (a : Option Addr) (n c : Nat) (l : List Int) (x : Int) (w : World) (h : Ints w a n c l) :
    Calls Tryd.prog 11 #[.agg #[.string nm, .int .i64 room, .slice a n c], .int .i64 x] w fun e w' => e = .returned (.int .i64 (idxFrom l x 0)) ∧ Below w.heap.size w w' := by
  go_enter Tryd.func11, Tryd.ntmps11
  go_wp2_with fail
  refine (index_any a n c l x _ (h.later ?_)).mono ?_
  · go_grown
  rintro e w' ⟨rfl, rfl⟩
  go_wp2
  go_ret
  exact ⟨rfl, by go_grown⟩
/-- One of a side, as it lies: its name, its room, the slice of whom it likes, and what that slice holds. -/
structure Ag where
  name : ByteArray
  room : Int
  la : Option Addr
  ln : Nat
  lc : Nat
  likes : List Int
def agNone : Ag := ⟨ByteArray.empty, 0, none, 0, 0, []⟩
def Ag.val (g : Ag) : Value := .agg #[.string g.name, .int .i64 g.room, .slice g.la g.ln g.lc]
def agAt (l : List Ag) (j : Nat) : Ag := l[j]?.getD agNone
/-- A slice of agents as it lies. -/
def Ags (w : World) (a : Option Addr) (n c : Nat) (l : List Ag) : Prop :=
  n = l.length ∧ n ≤ c ∧ c ≤ maxLen ∧ (∀ g ∈ l, Ints w g.la g.ln g.lc g.likes ∧ g.name.size ≤ maxLen) ∧
  (n = 0 ∨ ∃ b off, a = some ⟨b, off, none⟩ ∧ b < w.heap.size ∧ ∀ j, j < n →
    w.cell? ⟨b, off + j * 3, none⟩ = some (.string (agAt l j).name) ∧ w.cell? ⟨b, off + j * 3 + 1, none⟩ = some (.int .i64 (agAt l j).room) ∧
    w.cell? ⟨b, off + j * 3 + 2, none⟩ = some (.slice (agAt l j).la (agAt l j).ln (agAt l j).lc))
theorem Ags.later {w w' : World} {a : Option Addr} {n c : Nat} {l : List Ag} (h : Ags w a n c l) (hb : Below w.heap.size w w') : Ags w' a n c l := by
  obtain ⟨hn, hc, hm, hg, h⟩ := h
  refine ⟨hn, hc, hm, fun g m => ⟨(hg g m).1.later hb, (hg g m).2⟩, ?_⟩
  rcases h with h0 | ⟨b, off, rfl, hlt, hcell⟩
  · exact Or.inl h0
  · refine Or.inr ⟨b, off, rfl, Nat.lt_of_lt_of_le hlt hb.size, fun j hj => ?_⟩
    obtain ⟨h1, h2, h3⟩ := hcell j hj
    exact ⟨(hb.cell (p := ⟨b, off + j * 3, none⟩) hlt).trans h1, (hb.cell (p := ⟨b, off + j * 3 + 1, none⟩) hlt).trans h2, (hb.cell (p := ⟨b, off + j * 3 + 2, none⟩) hlt).trans h3⟩
def aidxFuel (l : List Ag) (x : ByteArray) : Nat → Nat → Int
  | 0, _ => -1
  | f + 1, k => if (agAt l k).name.toList = x.toList then (k : Int) else aidxFuel l x f (k + 1)
def aidxFrom (l : List Ag) (x : ByteArray) (k : Nat) : Int := aidxFuel l x (l.length - k) k
theorem aidxFrom_step {l : List Ag} {x : ByteArray} {k : Nat} (h : k < l.length) : aidxFrom l x k = if (agAt l k).name.toList = x.toList then (k : Int) else aidxFrom l x (k+1) := by
  unfold aidxFrom
  rw [show l.length - k = (l.length - (k + 1)) + 1 by omega, aidxFuel]
theorem aidxFrom_yes {l : List Ag} {x : ByteArray} {k : Nat} (h : k < l.length) (e : (agAt l k).name.toList = x.toList) : aidxFrom l x k = k := by
  rw [aidxFrom_step h, if_pos e]
theorem aidxFrom_no {l : List Ag} {x : ByteArray} {k : Nat} (h : k < l.length) (e : ¬ (agAt l k).name.toList = x.toList) : aidxFrom l x k = aidxFrom l x (k+1) := by
  rw [aidxFrom_step h, if_neg e]
theorem aidxFrom_end {l : List Ag} {x : ByteArray} {k : Nat} (h : ¬ k < l.length) : aidxFrom l x k = -1 := by
  unfold aidxFrom
  rw [show l.length - k = 0 by omega, aidxFuel]
/-- The closure: is it that name? -/
theorem place1_any (nm : ByteArray) (room : Int) (lv : Value) (b : Nat) (x : ByteArray) (w : World) (hb : b < w.heap.size) (hx : w.cell? ⟨b, 0, none⟩ = some (.string x)) :
    Calls Tryd.prog 62 #[.agg #[.string nm, .int .i64 room, lv], .pointer (some ⟨b, 0, none⟩)] w fun e w' => e = .returned (.bool (nm.toList == x.toList)) ∧ Below w.heap.size w w' := by
  go_enter Tryd.func62, Tryd.ntmps62
  go_wp2
  go_ret
  exact ⟨rfl, by go_grown⟩
set_option maxHeartbeats 800000 in
theorem indexFunc_any (a : Option Addr) (n c : Nat) (l : List Ag) (x : ByteArray) (p : Nat) (w : World) (h : Ags w a n c l) (hp : p < w.heap.size) (hx : w.cell? ⟨p, 0, none⟩ = some (.string x)) :
    Calls Tryd.prog 61 #[.slice a n c, .func (.func 62) #[] #[.pointer (some ⟨p, 0, none⟩)]] w fun e w' => e = .returned (.int .i64 (aidxFrom l x 0)) ∧ Below w.heap.size w w' := by
  obtain ⟨hn, hc, hm, hg, h⟩ := h
  unfold maxLen at hm
  rcases h with h0 | ⟨b, off, rfl, hb, hcell⟩
  · subst h0
    go_enter Tryd.func61, Tryd.ntmps61
    go_wp2
    refine wp_loop_rounds 1 ?_
    rw [rounds_succ]
    go_wp2
    go_ret
    exact ⟨ret_int (by rw [aidxFrom_end (by omega)]), by go_grown⟩
  · have HN : Hid (n = l.length) := hn
    clear hn
    go_enter Tryd.func61, Tryd.ntmps61
    go_wp2
    go_loopw [8, 5] (fun i _ wr => Below w.heap.size w wr ∧ ∃ k : Nat, k ≤ n ∧ i = .int .i64 k ∧ aidxFrom l x 0 = aidxFrom l x k) (fun i _ _ => n - (intOf i).toNat)
    case atStart => exact ⟨Below.refl _ _, 0, Nat.zero_le _, rfl, rfl⟩
    case round =>
      obtain ⟨hbw, k, hk, rfl, hn⟩ := hrel
      have HI : Hid (aidxFrom l x 0 = aidxFrom l x k) := hn
      clear hn
      by_cases hlt : k < n
      · obtain ⟨h1, h2, h3⟩ := hcell k hlt
        have g1 := (hbw.cell (p := ⟨b, off + k * 3, none⟩) hb).trans h1
        have g2 := (hbw.cell (p := ⟨b, off + k * 3 + 1, none⟩) hb).trans h2
        have g3 := (hbw.cell (p := ⟨b, off + k * 3 + 2, none⟩) hb).trans h3
        clear h1 h2 h3
        have hxr := (hbw.cell (p := ⟨p, 0, none⟩) hp).trans hx
        have hpr : p < wr.heap.size := Nat.lt_of_lt_of_le hp hbw.size
        cases hq : ((agAt l k).name.toList == x.toList) with
        | true =>
          have HQ : Hid (((agAt l k).name.toList == x.toList) = true) := hq
          clear hcell
          go_wp2_with fail
          refine (place1_any _ _ _ p x _ hpr hxr).mono ?_
          rintro e w1 ⟨rfl, hb1⟩
          go_wp2
          go_ret
          exact ⟨ret_int (by rw [HI.out]; exact (aidxFrom_yes (by have := HN.out; omega) (by simpa using HQ.out)).symm), hbw.trans (hb1.mono hbw.size)⟩
        | false =>
          have HQ : Hid (((agAt l k).name.toList == x.toList) = false) := hq
          clear hcell
          go_wp2_with fail
          refine (place1_any _ _ _ p x _ hpr hxr).mono ?_
          rintro e w1 ⟨rfl, hb1⟩
          go_wp2
          go_roundw
          case rel => exact ⟨hbw.trans (hb1.mono hbw.size), k+1, by omega, by go_num, by rw [HI.out]; exact aidxFrom_no (by have := HN.out; omega) (by simpa using HQ.out)⟩
          case measure => simp [intOf]; omega
      · go_wp2
        go_ret
        exact ⟨ret_int (by rw [HI.out, aidxFrom_end (by have := HN.out; omega)]), hbw⟩

set_option maxHeartbeats 400000 in
theorem placeN_any (a : Option Addr) (n c : Nat) (l : List Ag) (x : ByteArray) (w : World) (h : Ags w a n c l) :
    Calls Tryd.prog 42 #[.slice a n c, .string x] w fun e w' => e = .returned (.int .i64 (aidxFrom l x 0)) ∧ Below w.heap.size w w' := by
  have hmf : ∀ (fn : Fn) (first cap : Array Value) (w : World), (Instr.makeFunc fn first cap).run Tryd.prog w = .ok (.func fn first cap) w := fun _ _ _ _ => rfl
  go_enter Tryd.func42, Tryd.ntmps42
  go_wp2_with fail
  have hbw : Below w.heap.size w (w.alloc (.cells #[.string x] 9)) := by go_grown
  refine (indexFunc_any a n c l x w.heap.size _ (h.later hbw) (by simp) (by simp)).mono ?_
  rintro e w1 ⟨rfl, hb1⟩
  go_wp2
  go_ret
  exact ⟨rfl, hbw.trans (hb1.mono hbw.size)⟩
end Go.Proofs.YtajdijjecojdhaaDoor
