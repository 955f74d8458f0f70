import Derived.Test.YtfknnededkdodaaProg
import Derived.WalkKit
import Derived.WalkSpells
import Derived.WalkLawsBesides
import Derived.BigQuiet
import Derived.Deep.QuietTactic
import Derived.Handy
import Derived.Deep.CutRange
import Derived.Lib.QuietBelow
import Derived.StillTailTactics
import Derived.Laws.CopyOwn
import Derived.Deep.RegionLaw
import Derived.Lib.AppendZerosOnto
import Derived.Deep.AppendLies
import Derived.Deep.Upon
import Derived.Lib.SliceRun
import Derived.Lib.Walk
import Derived.Deep.RegionWith
import Derived.Deep.RegionHeld3
import Derived.Laws.Rows
namespace Go.Proofs.Ytfknnededkdodaa
open Go.RowKit
theorem ret_bool {a b : Bool} (h : a = b) : Ending.returned (.bool a) = .returned (.bool b) := by rw [h]
theorem ret_int {k : IntKind} {a b : Int} (h : a = b) : Ending.returned (.int k a) = .returned (.int k b) := by rw [h]
theorem hide {p : Prop} (h : p) : Hid p := h
theorem unhide {p : Prop} (h : Hid p) : p := h
/-- A slice of ints as it lies: nil or empty, or a row of cells. -/
def Ints (w : World) (a : Option Addr) (n c : Nat) (l : List Int) : Prop :=
  n = l.length ∧ n ≤ c ∧ c ≤ maxLen ∧ (n = 0 ∨ ∃ b off, a = some ⟨b, off, none⟩ ∧ b < w.heap.size ∧ ∀ j, j < n → w.cell? ⟨b, off + j, none⟩ = some (.int .i64 (l[j]?.getD 0)))
theorem Ints.later {w w' : World} {a : Option Addr} {n c : Nat} {l : List Int} (h : Ints w a n c l) (hb : Below w.heap.size w w') : Ints w' a n c l := by
  obtain ⟨hn, hc, hm, h⟩ := h
  refine ⟨hn, hc, hm, ?_⟩
  rcases h with h0 | ⟨b, off, rfl, hlt, hcell⟩
  · exact Or.inl h0
  · exact Or.inr ⟨b, off, rfl, Nat.lt_of_lt_of_le hlt hb.size, fun j hj => (hb.cell (p := ⟨b, off + j, none⟩) hlt).trans (hcell j hj)⟩
theorem owns_later {w w' : World} {B : Nat} {e : TypeId} {size : Nat} {v : Value} {n : Nat} {xs : List Value} (h : w.ownsRow B e size v n xs) (hb : Below w.heap.size w w') : w'.ownsRow B e size v n xs :=
  h.kept (row := none) ⟨hb.os, hb.tape, hb.output, hb.size, fun k hk _ => hb.block k hk⟩ (by cases hv : v.ownBlock <;> simp)
theorem below_drewN (B : Nat) (w : World) (n : Nat) : Below B w (w.drewN n) := ⟨rfl, rfl, rfl, Nat.le_refl _, fun _ _ => rfl⟩
theorem info3 : (Try.prog.info? 3).map (fun i => (i.zero, i.size, i.bytes)) = some (some (.int .i64 0), 1, 8) := by kernel_rfl
def intVals (l : List Int) : List Value := l.map (Value.int .i64)
theorem wpList_append_int (w : World) {ops : Array Oper} {rest : List Oper} {o : Oper} {a : Act} {Q : Exit → Act → World → Prop} (hgd : o.guard = none) (s x : Operand)
    (ho : o.op = .call { callee := .builtin .append, args := #[s, x], argTypes := #[22, 22] })
    (base : Nat) (v : Value) (n : Nat) (xs : List Value) (hs : a.eval s = v) (hown : w.ownsRow base 3 1 v n xs)
    (g : Nat) (y : Int) (hx : a.eval x = .slice (some ⟨g, 0, none⟩) 1 1) (hc : w.cell? ⟨g, 0, none⟩ = some (.int .i64 y))
    (hsm : n ≤ 3000) (hbase : base ≤ w.heap.size)
    (hK : ∀ v' w', w'.ownsRow base 3 1 v' (n + 1) (xs ++ [.int .i64 y]) → w.grownBy w' v.ownBlock → wpList Try.prog ops Q rest (a.put o.dst v') w') : wpList Try.prog ops Q (o :: rest) a w := by
  obtain ⟨i9, hi9, hz90, hz91, hz92⟩ := info_parts info3
  exact wpList_append_own w hgd s x 22 ho base 3 i9 _ 1 8 Try.underlying22 hi9 hz90 hz91 hz92 rfl (by decide) v n xs hs hown ⟨g, 0, none⟩ 1 1 [.int .i64 y] hx rfl
    (fun j u hu => by
      cases j with
      | zero => simp at hu; subst hu; simpa [Addr.add] using hc
      | succ j => simp at hu)
    (fun u hu => by simp at hu; subst hu; rfl) (by unfold maxLen; omega) (by omega) hbase (fun v' w' h1 h2 _ => hK v' w' h1 h2)
theorem Ints.of_owns {w : World} {B : Nat} {v : Value} {n : Nat} {l : List Int} (h : w.ownsRow B 3 1 v n (intVals l)) (hn : n ≤ 3000) : ∃ a c, v = .slice a n c ∧ Ints w a n c l ∧ (n = 0 ∨ ∃ g, B ≤ g ∧ g < w.heap.size ∧ a = some ⟨g, 0, none⟩) := by
  have hl : l.length = n := by have := h.1; simp [intVals] at this; omega
  have h0 := h
  rcases h.2 with ⟨rfl, rfl⟩ | ⟨g, cap, cur, rfl, hbg, hgg, hnc, hcm, hcs, htake⟩
  · exact ⟨none, 0, rfl, ⟨hl.symm, Nat.le_refl _, by unfold maxLen; omega, .inl rfl⟩, .inl rfl⟩
  · by_cases hz : n = 0
    · exact ⟨_, cap, rfl, ⟨hl.symm, hnc, hcm, .inl hz⟩, .inl hz⟩
    · have hc0 : ∀ j, j < n → w.cell? ⟨g, 0 + j, none⟩ = some (.int .i64 (l[j]?.getD 0)) := fun j hj => by
        rw [Nat.zero_add, h0.cellAt j (by omega), intVals, List.getElem?_map, List.getElem?_eq_getElem (show j < l.length by omega)]
        simp
      have hlt : g < w.heap.size := World.block_lt_of_cell? w _ (hc0 0 (by omega))
      exact ⟨_, cap, rfl, ⟨hl.symm, hnc, hcm, .inr ⟨g, 0, rfl, hlt, hc0⟩⟩, .inr ⟨g, hbg, hlt, rfl⟩⟩
theorem Ints.cellAt {w : World} {a : Option Addr} {n c : Nat} {l : List Int} (h : Ints w a n c l) (hn : 0 < n) : ∃ b off, a = some ⟨b, off, none⟩ ∧ b < w.heap.size ∧ ∀ j, j < n → w.cell? ⟨b, off + j, none⟩ = some (.int .i64 (l[j]?.getD 0)) := by
  obtain ⟨_, _, _, h0 | ⟨b, off, rfl, hb, hcell⟩⟩ := h
  · omega
  · exact ⟨b, off, rfl, hb, hcell⟩
def two (v : Value) (e : Int) : Value := .tuple #[v, .int .i64 e]
theorem intVals_len (l : List Int) : (intVals l).length = l.length := by simp [intVals]
theorem intVals_append (a b : List Int) : intVals (a ++ b) = intVals a ++ intVals b := by simp [intVals]
/-- What the row that is being written reads as. -/
def Row (base : Nat) (W : World) (va : Option Addr) (n : Nat) (f : Nat → Int) : Prop :=
  n = 0 ∨ ∃ g, va = some ⟨g, 0, none⟩ ∧ base ≤ g ∧ g < W.heap.size ∧ (∀ j, j < n → W.cell? ⟨g, j, none⟩ = some (.int .i64 (f j))) ∧ (∀ j, j < n → W.frozen? ⟨g, j, none⟩ = false)
theorem Row.later {base : Nat} {W W' : World} {va : Option Addr} {n : Nat} {f : Nat → Int} (h : Row base W va n f) (hb : Below W.heap.size W W') : Row base W' va n f := by
  rcases h with h | ⟨g, h1, h2, h3, h4, h5⟩
  · exact .inl h
  · exact .inr ⟨g, h1, h2, Nat.lt_of_lt_of_le h3 hb.size, fun j hj => (hb.cell (p := ⟨g, j, none⟩) h3).trans (h4 j hj), fun j hj => (hb.frozen (p := ⟨g, j, none⟩) h3).trans (h5 j hj)⟩
theorem Row.same {base : Nat} {W : World} {va : Option Addr} {n : Nat} {f f' : Nat → Int} (h : Row base W va n f) (e : ∀ j, j < n → f j = f' j) : Row base W va n f' := by
  rcases h with h | ⟨g, h1, h2, h3, h4, h5⟩
  · exact .inl h
  · exact .inr ⟨g, h1, h2, h3, fun j hj => by rw [h4 j hj, e j hj], h5⟩
theorem Row.ints {base : Nat} {W : World} {va : Option Addr} {n cap : Nat} {f : Nat → Int} {l : List Int} (h : Row base W va n f) (hl : n = l.length) (h1 : n ≤ cap) (h2 : cap ≤ maxLen) (e : ∀ j, j < n → f j = l[j]?.getD 0) : Ints W va n cap l := by
  refine ⟨hl, h1, h2, ?_⟩
  rcases h with h | ⟨g, h1, h2, h3, h4, h5⟩
  · exact .inl h
  · exact .inr ⟨g, 0, h1, h3, fun j hj => by rw [Nat.zero_add, h4 j hj, e j hj]⟩
theorem Row.set {base : Nat} {W : World} {g n k : Nat} {f f' : Nat → Int} {x : Int} (h : Row base W (some ⟨g, 0, none⟩) n f) (hk : k < n) (e : ∀ j, j < n → j ≠ k → f j = f' j) (ek : x = f' k) : Row base (W.setCell ⟨g, k, none⟩ (.int .i64 x)) (some ⟨g, 0, none⟩) n f' := by
  rcases h with h | ⟨g', h1, h2, h3, h4, h5⟩
  · omega
  · cases h1
    refine .inr ⟨g, rfl, h2, by simpa using h3, fun j hj => ?_, fun j hj => by rw [World.frozen?_setCell]; exact h5 j hj⟩
    by_cases hjk : j = k
    · subst hjk
      rw [World.cell?_setCell_same' W ⟨g, j, none⟩ _ (by rw [h4 j hj]; rfl), ek]
    · rw [World.cell?_setCell_other _ _ _ _ (by intro hh; cases hh; exact hjk rfl), h4 j hj, e j hj hjk]
theorem Row.at {base : Nat} {W : World} {g n : Nat} {f : Nat → Int} (h : Row base W (some ⟨g, 0, none⟩) n f) {j : Nat} (hj : j < n) : W.cell? ⟨g, j, none⟩ = some (.int .i64 (f j)) ∧ W.frozen? ⟨g, j, none⟩ = false ∧ g < W.heap.size ∧ base ≤ g := by
  rcases h with h | ⟨b, h1, h2, h3, h4, h5⟩
  · omega
  · cases h1; exact ⟨h4 j hj, h5 j hj, h3, h2⟩
theorem made_at (v : Value) (hv : v.cells = #[v]) (n j : Nat) (hj : j < n) : (madeCells v.cells (n * 1)).toList[j]? = some v := by
  rw [hv]
  unfold madeCells
  rw [Nat.mul_one]
  simp [hj, Nat.mod_one]
theorem row_made {W : World} {base G n : Nat} (h : W.ownsRow base 3 1 (.slice (some ⟨G, 0, none⟩) n n) n (madeCells (Value.int .i64 0).cells (n * 1)).toList) : Row base W (some ⟨G, 0, none⟩) n (fun _ => 0) := by
  have h0 := h
  rcases h.2 with ⟨h1, _⟩ | ⟨g, cap, cur, h1, hbg, hgg, hnc, hcm, hcs, htake⟩
  · cases h1
  · cases h1
    refine .inr ⟨G, rfl, hbg, (Array.getElem?_eq_some_iff.1 hgg).1, fun j hj => ?_, fun j _ => by simp [World.frozen?, hgg]⟩
    rw [h0.cellAt j (by omega), made_at _ rfl n j hj]
/-- An int of 64 bits. -/
def InR (c : Int) : Prop := -9223372036854775808 ≤ c ∧ c ≤ 9223372036854775807
set_option maxHeartbeats 400000 in
theorem pick_any (c : Int) (n : Nat) (hc : InR c) (hn : 0 < n) (hm : n ≤ 3000) (w : World) :
    Calls Try.prog 15 #[.int .i64 c, .int .i64 n] w fun e w' => ∃ k : Nat, k < n ∧ e = .returned (.int .i64 k) ∧ w' = w := by
  obtain ⟨h1, h2⟩ := hc
  have hnz : ((n : Int) == 0) = false := by simp; omega
  by_cases hneg : c < 0
  · go_enter Try.func15, Try.ntmps15
    go_wp2
    go_ret
    refine ⟨((-(c + 1)) % (n : Int)).toNat, ?_, ret_int ?_, rfl⟩
    · have := Int.emod_lt_of_pos (-(c + 1)) (show (0 : Int) < n by omega)
      have := Int.emod_nonneg (-(c + 1)) (show (n : Int) ≠ 0 by omega)
      omega
    · have h0 := Int.emod_nonneg (-(c + 1)) (show (n : Int) ≠ 0 by omega)
      rw [← Int.neg_tmod, Int.tmod_eq_emod_of_nonneg (by omega)]
      omega
  · go_enter Try.func15, Try.ntmps15
    go_wp2
    go_ret
    refine ⟨(c % (n : Int)).toNat, ?_, ret_int ?_, rfl⟩
    · have := Int.emod_lt_of_pos c (show (0 : Int) < n by omega)
      have := Int.emod_nonneg c (show (n : Int) ≠ 0 by omega)
      omega
    · have h0 := Int.emod_nonneg c (show (n : Int) ≠ 0 by omega)
      omega
theorem at_any (a : Option Addr) (n c : Nat) (l : List Int) (ki : Int) (w : World) (h : Ints w a n c l) (hr : ∀ x ∈ l, InR x) (hk0 : 0 ≤ ki) (hk : ki ≤ 1000) (hn : n ≤ 256) :
    Calls Try.prog 16 #[.slice a n c, .int .i64 ki] w fun e w' => ∃ x, InR x ∧ e = .returned (.int .i64 x) ∧ w' = w := by
  obtain ⟨k, rfl⟩ : ∃ k : Nat, ki = k := ⟨ki.toNat, by omega⟩
  obtain ⟨hl, hc, hm, h⟩ := h
  unfold maxLen at hm
  rcases h with h0 | ⟨b, off, rfl, hb, hcell⟩
  · subst h0
    go_enter Try.func16, Try.ntmps16
    go_wp2
    go_ret
    exact ⟨0, ⟨by omega, by omega⟩, rfl, rfl⟩
  · by_cases hz : n = 0
    · subst hz
      go_enter Try.func16, Try.ntmps16
      go_wp2
      go_ret
      exact ⟨0, ⟨by omega, by omega⟩, rfl, rfl⟩
    · have hnz : ((n : Int) == 0) = false := by simp; omega
      have hlt : k % n < n := Nat.mod_lt _ (by omega)
      have hck := hcell (k % n) hlt
      have hin : InR (l[k % n]?.getD 0) := by
        rw [List.getElem?_eq_getElem (by omega)]
        exact hr _ (by simp)
      have HL : Hid (n = l.length) := hl
      clear hl hcell
      go_enter Try.func16, Try.ntmps16
      go_wp2
      go_ret
      exact ⟨_, hin, rfl, rfl⟩
theorem wrap_in (x : Int) (h1 : -9223372036854775808 ≤ x) (h2 : x ≤ 9223372036854775807) : IntKind.i64.wrap x = x := by
  rw [IntKind.wrap_i64]
  omega
theorem intVals_at (l : List Int) (j : Nat) (h : j < l.length) : (intVals l)[j]? = some (.int .i64 (l[j]?.getD 0)) := by
  unfold intVals
  rw [List.getElem?_map, List.getElem?_eq_getElem h]
  rfl
theorem Row.of_owns {W : World} {base : Nat} {v : Value} {n : Nat} {l : List Int} (h : W.ownsRow base 3 1 v n (intVals l)) :
    ∃ va cap, v = .slice va n cap ∧ n ≤ cap ∧ cap ≤ maxLen ∧ Row base W va n (fun j => l[j]?.getD 0) := by
  have hl : l.length = n := by have := h.1; rw [intVals_len] at this; omega
  have h0 := h
  rcases h.2 with ⟨rfl, rfl⟩ | ⟨g, cap, cur, rfl, hbg, hgg, hnc, hcm, hcs, htake⟩
  · exact ⟨none, 0, rfl, Nat.le_refl _, by unfold maxLen; omega, .inl rfl⟩
  · refine ⟨_, cap, rfl, hnc, hcm, .inr ⟨g, rfl, hbg, ?_, fun j hj => ?_, fun j hj => ?_⟩⟩
    · rcases Nat.lt_or_ge g W.heap.size with h' | h'
      · exact h'
      · rw [Array.getElem?_eq_none h'] at hgg; cases hgg
    · rw [h0.cellAt j (by omega), intVals_at l j (by omega)]
    · simp [World.frozen?, hgg]
theorem pick_len (c n : Nat) (hc : c ≤ 1000) (hn : 0 < n) (hm : n ≤ 1000) (w : World) :
    Calls Try.prog 15 #[.int .i64 c, .int .i64 n] w fun e w' => e = .returned (.int .i64 ((c % n : Nat) : Int)) ∧ w' = w := by
  have hnz : ((n : Int) == 0) = false := by simp; omega
  go_enter Try.func15, Try.ntmps15
  go_wp2
  go_ret
  refine ⟨ret_int ?_, rfl⟩
  simp
def idxFuel (l : List Int) (x : Int) : Nat → Nat → Int
  | 0, _ => -1
  | f + 1, k => if l[k]?.getD 0 = x then (k : Int) else idxFuel l x f (k + 1)
def idxFrom (l : List Int) (x : Int) (k : Nat) : Int := idxFuel l x (l.length - k) k
theorem idxFrom_step {l : List Int} {x : Int} {k : Nat} (h : k < l.length) : idxFrom l x k = if l[k]?.getD 0 = x then (k : Int) else idxFrom l x (k+1) := by
  unfold idxFrom
  rw [show l.length - k = (l.length - (k + 1)) + 1 by omega, idxFuel]
theorem idxFrom_yes {l : List Int} {x : Int} {k : Nat} (h : k < l.length) (e : l[k]?.getD 0 = x) : idxFrom l x k = k := by
  rw [idxFrom_step h, if_pos e]
theorem idxFrom_no {l : List Int} {x : Int} {k : Nat} (h : k < l.length) (e : ¬ l[k]?.getD 0 = x) : idxFrom l x k = idxFrom l x (k+1) := by
  rw [idxFrom_step h, if_neg e]
theorem idxFrom_end {l : List Int} {x : Int} {k : Nat} (h : ¬ k < l.length) : idxFrom l x k = -1 := by
  unfold idxFrom
  rw [show l.length - k = 0 by omega, idxFuel]
set_option maxHeartbeats 400000 in
theorem index_any (a : Option Addr) (n c : Nat) (l : List Int) (x : Int) (w : World) (h : Ints w a n c l) :
    Calls Try.prog 20 #[.slice a n c, .int .i64 x] w fun e w' => e = .returned (.int .i64 (idxFrom l x 0)) ∧ w' = w := by
  obtain ⟨hn, hc, hm, h⟩ := h
  unfold maxLen at hm
  rcases h with h0 | ⟨b, off, rfl, hb, hcell⟩
  · subst h0
    go_enter Try.func20, Try.ntmps20
    go_wp2
    refine wp_loop_rounds 1 ?_
    rw [rounds_succ]
    go_wp2
    go_ret
    exact ⟨ret_int (by rw [idxFrom_end (by omega)]), rfl⟩
  · have HN : Hid (n = l.length) := hn
    clear hn
    go_enter Try.func20, Try.ntmps20
    go_wp2
    go_loop [8, 5] (fun i _ => ∃ k : Nat, k ≤ n ∧ i = .int .i64 k ∧ idxFrom l x 0 = idxFrom l x k) (fun i _ => n - (intOf i).toNat)
    case atStart => exact ⟨0, Nat.zero_le _, rfl, rfl⟩
    case round =>
      obtain ⟨k, hk, rfl, hn⟩ := hrel
      have HI : Hid (idxFrom l x 0 = idxFrom l x k) := hn
      clear hn
      by_cases hlt : k < n
      · have hck := hcell k hlt
        go_wp2
        · go_ret
          refine ⟨ret_int ?_, rfl⟩
          rw [HI.out]; exact (idxFrom_yes (by have := HN.out; omega) (by simp_all)).symm
        · refine ⟨⟨k+1, by omega, by go_num, ?_⟩, by simp [intOf]; omega⟩
          rw [HI.out]; exact idxFrom_no (by have := HN.out; omega) (fun e => by simp_all)
      · go_wp2
        go_ret
        exact ⟨ret_int (by rw [HI.out, idxFrom_end (by have := HN.out; omega)]), rfl⟩
theorem run_append_ints (w : World) (ty : TypeId) (base : Nat) (v : Value) (n : Nat) (xs : List Int) (hown : w.ownsRow base 3 1 v n (intVals xs)) (a : Option Addr) (m c : Nat) (l : List Int) (h : Ints w a m c l)
    (hsm : n + m ≤ 1000) (hbase : base ≤ w.heap.size) :
    ∃ v' w', (Builtin.append_ #[22, 22] ty #[v, .slice a m c]).run Try.prog w = .ok v' w' ∧ w'.ownsRow base 3 1 v' (n + m) (intVals (xs ++ l)) ∧ w.grownBy w' v.ownBlock := by
  obtain ⟨i0, hi, hz0, hz1, hz2⟩ := info_parts info3
  have hl : l.length = m := h.1.symm
  by_cases hm : 0 < m
  · obtain ⟨b, off, rfl, hb, hcell⟩ := h.cellAt hm
    have hc2 : ∀ j u, (intVals l)[j]? = some u → w.cell? ((⟨b, off, none⟩ : Addr).add j) = some u := by
      intro j u hu
      have hj : j < l.length := by
        rcases Nat.lt_or_ge j l.length with h' | h'
        · exact h'
        · rw [List.getElem?_eq_none (by rw [intVals_len]; exact h')] at hu; cases hu
      rw [intVals_at l j hj] at hu
      cases hu
      have e : (⟨b, off, none⟩ : Addr).add j = ⟨b, off + j, none⟩ := by unfold Addr.add; split <;> simp_all
      rw [e]
      exact hcell j (by omega)
    obtain ⟨v', w', hr, ho, hg, _⟩ := run_append_own (P := Try.prog) w base 22 ty 3 i0 _ 1 8 Try.underlying22 hi hz0 hz1 hz2 rfl (by decide) v n (intVals xs) hown ⟨b, off, none⟩ m c (intVals l) (by rw [intVals_len, hl, Nat.mul_one]) hc2 (fun u hu => by unfold intVals at hu; obtain ⟨y, _, rfl⟩ := List.mem_map.1 hu; rfl) (by unfold maxLen; omega) (by omega) hbase
    exact ⟨v', w', hr, by rw [intVals_append]; exact ho, hg⟩
  · obtain rfl : m = 0 := by omega
    obtain rfl : l = [] := List.length_eq_zero_iff.1 hl
    have hs : Src Try.prog i0.size 22 (.slice a 0 c) 0 [] w := by
      cases a with
      | none => exact Src.ofNil w Try.underlying22 c
      | some ad => exact Src.ofSlice w Try.underlying22 ad 0 c [] (by simp) (by simp) (by simp)
    refine ⟨v, w, ?_, by simpa using hown, ⟨rfl, rfl, rfl, Nat.le_refl _, fun _ _ _ => rfl⟩⟩
    rcases hown.2 with ⟨rfl, rfl⟩ | ⟨g, cap, cur, rfl, _, _, hnc, _⟩
    · exact run_append_nothing w 22 22 ty 3 i0 Try.underlying22 hi none 0 0 (Nat.le_refl _) _ hs
    · exact run_append_nothing w 22 22 ty 3 i0 Try.underlying22 hi _ n cap hnc _ hs
theorem wpList_append_ints (w : World) {ops : Array Oper} {rest : List Oper} {o : Oper} {a : Act} {Q : Exit → Act → World → Prop} (hgd : o.guard = none) (s x : Operand)
    (ho : o.op = .call { callee := .builtin .append, args := #[s, x], argTypes := #[22, 22] })
    (base : Nat) (v : Value) (n : Nat) (xs : List Int) (hs : a.eval s = v) (hown : w.ownsRow base 3 1 v n (intVals xs))
    (ad : Option Addr) (m c : Nat) (l : List Int) (hx : a.eval x = .slice ad m c) (h : Ints w ad m c l)
    (hsm : n + m ≤ 1000) (hbase : base ≤ w.heap.size)
    (hK : ∀ v' w', w'.ownsRow base 3 1 v' (n + m) (intVals (xs ++ l)) → w.grownBy w' v.ownBlock → wpList Try.prog ops Q rest (a.put o.dst v') w') : wpList Try.prog ops Q (o :: rest) a w :=
  wpList_plain hgd fun _ hk => by
    obtain ⟨v', w', hr, h2, h3⟩ := run_append_ints w o.type base v n xs hown ad m c l h hsm hbase
    unfold Oper.wp execOp
    simp only [ho, resolve, invoke, builtin, Sem.run_bind, Sem.run_pure, Result.andThen_ok, List.map_toArray, List.map_cons, List.map_nil, hs, hx, hr]
    exact hk _ _ (hK v' w' h2 h3)
set_option maxRecDepth 100000 in
set_option maxHeartbeats 1000000 in
theorem clone_any (a : Option Addr) (n c : Nat) (l : List Int) (w : World) (h : Ints w a n c l) (hs : n ≤ 1000) :
    Calls Try.prog 28 #[.slice a n c] w fun e w' => ∃ v, e = .returned v ∧ w'.ownsRow w.heap.size 3 1 v n (intVals l) ∧ Below w.heap.size w w' := by
  cases a with
  | none =>
    have hz : n = 0 := by
      rcases h.2.2.2 with h0 | ⟨b, off, hh, _⟩
      · exact h0
      · cases hh
    have hl : l = [] := List.length_eq_zero_iff.1 (by have := h.1; omega)
    subst hz hl
    have hq : ∀ w, (binOp .eql 22 (.slice none 0 c) (.slice none 0 0)).run Try.prog w = .ok (.bool true) w := fun w => Lib.run_eql_slice_nil w 22 3 none 0 c 0 0 Try.underlying22
    go_enter Try.func28, Try.ntmps28
    go_wp2
    go_ret
    exact ⟨_, rfl, World.ownsRow_nil _ _ _ _, Below.refl _ _⟩
  | some ad =>
    have hb0 : Below w.heap.size w (w.alloc (.cells #[] 3)) := by go_grown
    have h1 := h.later hb0
    have hown0 : (w.alloc (.cells #[] 3)).ownsRow w.heap.size 3 1 (.slice (some ⟨w.heap.size, 0, none⟩) 0 0) 0 (intVals []) :=
      World.ownsRow_made (base := w.heap.size) (e := 3) (size := 1) w #[] 0 (Nat.le_refl _) (by unfold maxLen; omega) rfl
    have HO := hide hown0
    clear hown0
    have hq : ∀ w, (binOp .eql 22 (.slice (some ad) n c) (.slice none 0 0)).run Try.prog w = .ok (.bool false) w := fun w => Lib.run_eql_slice_nil w 22 3 (some ad) n c 0 0 Try.underlying22
    go_enter Try.func28, Try.ntmps28
    go_wp2_with (at_builtin; refine wpList_append_ints _ rfl _ _ rfl w.heap.size _ 0 [] rfl (unhide HO) (some ad) n c l rfl h1 (by omega) (by simp) ?_; intro v2 w2 ho2 hg2)
    go_ret
    have hb2 := ((Below.refl w.heap.size _).grown hg2 (by simp) (fun k hk => ((unhide HO).lt k hk).1))
    refine ⟨_, rfl, ?_, hb0.trans hb2⟩
    simpa using ho2
/-- 0, 1, .., n - 1. -/
def upL (n : Nat) : List Int := (List.range n).map (fun i : Nat => (i : Int))
theorem upL_succ (n : Nat) : upL (n + 1) = upL n ++ [(n : Int)] := by simp [upL, List.range_succ]
set_option maxHeartbeats 1000000 in
theorem upTo_any (n : Nat) (w : World) (hn : n ≤ 6) :
    Calls Try.prog 22 #[.int .i64 n] w fun e w' => ∃ v, e = .returned v ∧ w'.ownsRow w.heap.size 3 1 v n (intVals (upL n)) ∧ Below w.heap.size w w' := by
  go_enter Try.func22, Try.ntmps22
  go_wp2
  go_loopw [4, 3] (fun i v wr => Below w.heap.size w wr ∧ ∃ k : Nat, k ≤ n ∧ i = .int .i64 k ∧ wr.ownsRow w.heap.size 3 1 v k (intVals (upL k))) (fun i _ _ => n - (intOf i).toNat)
  case atStart => exact ⟨Below.refl _ _, 0, Nat.zero_le _, rfl, World.ownsRow_nil _ _ _ _⟩
  case round =>
    obtain ⟨hbr, k, hk, rfl, hown⟩ := hrel
    by_cases hlt : k < n
    · have HO := hide hown
      clear hown
      go_wp2_with (at_builtin; refine wpList_append_int _ rfl _ _ rfl w.heap.size _ k _ rfl ((unhide HO).alloc _) wr.heap.size (k : Int) rfl (by simp) (by omega) (by have := hbr.size; simp; omega) ?_; intro v2 w2 ho2 hg2)
      go_roundw
      case rel =>
        have hb5 := (((Below.refl w.heap.size wr).alloc hbr.size (.cells #[.int .i64 (k : Int)] 3)).grown hg2 (by have := hbr.size; simp; omega) (fun q hq => ((unhide HO).lt q hq).1))
        refine ⟨hbr.trans hb5, k+1, by omega, by go_num, ?_⟩
        rw [upL_succ, intVals_append]
        exact ho2
      case measure => simp [intOf]; omega
    · obtain rfl : k = n := by omega
      go_wp2
      go_ret
      exact ⟨_, rfl, hown, hbr⟩
theorem idxFrom_spec (l : List Int) (x : Int) : ∀ d k, l.length - k = d → (idxFrom l x k = -1 ∧ ∀ i, k ≤ i → i < l.length → ¬ l[i]?.getD 0 = x) ∨ (∃ m : Nat, k ≤ m ∧ m < l.length ∧ l[m]?.getD 0 = x ∧ idxFrom l x k = m ∧ ∀ i, k ≤ i → i < m → ¬ l[i]?.getD 0 = x) := by
  intro d
  induction d with
  | zero =>
    intro k hk
    exact Or.inl ⟨idxFrom_end (by omega), fun i h1 h2 => by omega⟩
  | succ d ih =>
    intro k hk
    by_cases he : l[k]?.getD 0 = x
    · exact Or.inr ⟨k, Nat.le_refl _, by omega, he, idxFrom_yes (by omega) he, fun i h1 h2 => by omega⟩
    · rw [idxFrom_no (by omega) he]
      rcases ih (k+1) (by omega) with ⟨h1, h2⟩ | ⟨m, h1, h2, h3, h4, h5⟩
      · refine Or.inl ⟨h1, fun i hi hl => ?_⟩
        by_cases e : i = k
        · rw [e]; exact he
        · exact h2 i (by omega) hl
      · refine Or.inr ⟨m, by omega, h2, h3, h4, fun i hi hl => ?_⟩
        by_cases e : i = k
        · rw [e]; exact he
        · exact h5 i (by omega) hl
theorem getD_mem {l : List Int} {k : Nat} (h : k < l.length) : l[k]?.getD 0 ∈ l := by
  rw [List.getElem?_eq_getElem h]
  exact List.getElem_mem h
end Go.Proofs.Ytfknnededkdodaa
