import Derived.Test.YtcannknicfnkdaaProg
import Derived.WalkKit
import Derived.WalkSpells
import Derived.WalkLawsBesides
import Derived.BigQuiet
import Derived.Deep.QuietTactic
import Derived.Handy
import Derived.Deep.CutRange
import Derived.Lib.QuietBelow
import Derived.StillTailTactics
import Derived.Laws.CopyOwn
import Derived.Deep.RegionLaw
import Derived.Lib.AppendZerosOnto
import Derived.Deep.AppendLies
import Derived.Deep.Upon
import Derived.Lib.SliceRun
import Derived.Lib.Walk
import Derived.Deep.RegionWith
import Derived.Deep.RegionHeld3
import Derived.Laws.Rows
namespace Go.Proofs.Ytcannknicfnkdaa
open Go.RowKit
theorem ret_bool {a b : Bool} (h : a = b) : Ending.returned (.bool a) = .returned (.bool b) := by rw [h]
theorem ret_int {k : IntKind} {a b : Int} (h : a = b) : Ending.returned (.int k a) = .returned (.int k b) := by rw [h]
theorem hide {p : Prop} (h : p) : Hid p := h
theorem unhide {p : Prop} (h : Hid p) : p := h
/-- A slice of ints as it lies: nil or empty, or a row of cells. -/
def Ints (w : World) (a : Option Addr) (n c : Nat) (l : List Int) : Prop :=
  n = l.length ∧ n ≤ c ∧ c ≤ maxLen ∧ (n = 0 ∨ ∃ b off, a = some ⟨b, off, none⟩ ∧ b < w.heap.size ∧ ∀ j, j < n → w.cell? ⟨b, off + j, none⟩ = some (.int .i64 (l[j]?.getD 0)))
theorem Ints.later {w w' : World} {a : Option Addr} {n c : Nat} {l : List Int} (h : Ints w a n c l) (hb : Below w.heap.size w w') : Ints w' a n c l := by
  obtain ⟨hn, hc, hm, h⟩ := h
  refine ⟨hn, hc, hm, ?_⟩
  rcases h with h0 | ⟨b, off, rfl, hlt, hcell⟩
  · exact Or.inl h0
  · exact Or.inr ⟨b, off, rfl, Nat.lt_of_lt_of_le hlt hb.size, fun j hj => (hb.cell (p := ⟨b, off + j, none⟩) hlt).trans (hcell j hj)⟩
theorem owns_drew {w : World} {B : Nat} {e : TypeId} {size : Nat} {v : Value} {n : Nat} {xs : List Value} (h : w.ownsRow B e size v n xs) : w.drew.ownsRow B e size v n xs := h
theorem owns_later {w w' : World} {B : Nat} {e : TypeId} {size : Nat} {v : Value} {n : Nat} {xs : List Value} (h : w.ownsRow B e size v n xs) (hb : Below w.heap.size w w') : w'.ownsRow B e size v n xs :=
  h.kept (row := none) ⟨hb.os, hb.tape, hb.output, hb.size, fun k hk _ => hb.block k hk⟩ (by cases hv : v.ownBlock <;> simp)
theorem below_drewN (B : Nat) (w : World) (n : Nat) : Below B w (w.drewN n) := ⟨rfl, rfl, rfl, Nat.le_refl _, fun _ _ => rfl⟩
theorem info3 : (Try.prog.info? 3).map (fun i => (i.zero, i.size, i.bytes)) = some (some (.int .i64 0), 1, 8) := by kernel_rfl
def intVals (l : List Int) : List Value := l.map (Value.int .i64)
theorem wpList_append_int (w : World) {ops : Array Oper} {rest : List Oper} {o : Oper} {a : Act} {Q : Exit → Act → World → Prop} (hgd : o.guard = none) (s x : Operand)
    (ho : o.op = .call { callee := .builtin .append, args := #[s, x], argTypes := #[25, 25] })
    (base : Nat) (v : Value) (n : Nat) (xs : List Value) (hs : a.eval s = v) (hown : w.ownsRow base 3 1 v n xs)
    (g : Nat) (y : Int) (hx : a.eval x = .slice (some ⟨g, 0, none⟩) 1 1) (hc : w.cell? ⟨g, 0, none⟩ = some (.int .i64 y))
    (hsm : n ≤ 1000) (hbase : base ≤ w.heap.size)
    (hK : ∀ v' w', w'.ownsRow base 3 1 v' (n + 1) (xs ++ [.int .i64 y]) → w.grownBy w' v.ownBlock → wpList Try.prog ops Q rest (a.put o.dst v') w') : wpList Try.prog ops Q (o :: rest) a w := by
  obtain ⟨i9, hi9, hz90, hz91, hz92⟩ := info_parts info3
  exact wpList_append_own w hgd s x 25 ho base 3 i9 _ 1 8 Try.underlying25 hi9 hz90 hz91 hz92 rfl (by decide) v n xs hs hown ⟨g, 0, none⟩ 1 1 [.int .i64 y] hx rfl
    (fun j u hu => by
      cases j with
      | zero => simp at hu; subst hu; simpa [Addr.add] using hc
      | succ j => simp at hu)
    (fun u hu => by simp at hu; subst hu; rfl) (by unfold maxLen; omega) (by omega) hbase (fun v' w' h1 h2 _ => hK v' w' h1 h2)
theorem Ints.of_owns {w : World} {B : Nat} {v : Value} {n : Nat} {l : List Int} (h : w.ownsRow B 3 1 v n (intVals l)) (hn : n ≤ 1000) : ∃ a c, v = .slice a n c ∧ Ints w a n c l ∧ (n = 0 ∨ ∃ g, B ≤ g ∧ g < w.heap.size ∧ a = some ⟨g, 0, none⟩) := by
  have hl : l.length = n := by have := h.1; simp [intVals] at this; omega
  have h0 := h
  rcases h.2 with ⟨rfl, rfl⟩ | ⟨g, cap, cur, rfl, hbg, hgg, hnc, hcm, hcs, htake⟩
  · exact ⟨none, 0, rfl, ⟨hl.symm, Nat.le_refl _, by unfold maxLen; omega, .inl rfl⟩, .inl rfl⟩
  · by_cases hz : n = 0
    · exact ⟨_, cap, rfl, ⟨hl.symm, hnc, hcm, .inl hz⟩, .inl hz⟩
    · have hc0 : ∀ j, j < n → w.cell? ⟨g, 0 + j, none⟩ = some (.int .i64 (l[j]?.getD 0)) := fun j hj => by
        rw [Nat.zero_add, h0.cellAt j (by omega), intVals, List.getElem?_map, List.getElem?_eq_getElem (show j < l.length by omega)]
        simp
      have hlt : g < w.heap.size := World.block_lt_of_cell? w _ (hc0 0 (by omega))
      exact ⟨_, cap, rfl, ⟨hl.symm, hnc, hcm, .inr ⟨g, 0, rfl, hlt, hc0⟩⟩, .inr ⟨g, hbg, hlt, rfl⟩⟩
theorem Ints.cellAt {w : World} {a : Option Addr} {n c : Nat} {l : List Int} (h : Ints w a n c l) (hn : 0 < n) : ∃ b off, a = some ⟨b, off, none⟩ ∧ b < w.heap.size ∧ ∀ j, j < n → w.cell? ⟨b, off + j, none⟩ = some (.int .i64 (l[j]?.getD 0)) := by
  obtain ⟨_, _, _, h0 | ⟨b, off, rfl, hb, hcell⟩⟩ := h
  · omega
  · exact ⟨b, off, rfl, hb, hcell⟩
/-- A slice of ints, as a cell holds it, and what it holds. -/
structure Sl where
  la : Option Addr
  ln : Nat
  lc : Nat
  ints : List Int
def slNone : Sl := ⟨none, 0, 0, []⟩
def Sl.val (s : Sl) : Value := .slice s.la s.ln s.lc
def slVals (l : List Sl) : List Value := l.map Sl.val
def slAt (l : List Sl) (j : Nat) : Sl := l[j]?.getD slNone
def lists (l : List Sl) : List (List Int) := l.map (·.ints)
/-- A slice of slices of ints as it lies. -/
def Lsts (w : World) (a : Option Addr) (n c : Nat) (l : List Sl) : Prop :=
  n = l.length ∧ n ≤ c ∧ c ≤ maxLen ∧ (∀ s ∈ l, Ints w s.la s.ln s.lc s.ints) ∧
  (n = 0 ∨ ∃ b off, a = some ⟨b, off, none⟩ ∧ b < w.heap.size ∧ ∀ j, j < n → w.cell? ⟨b, off + j, none⟩ = some (.slice (slAt l j).la (slAt l j).ln (slAt l j).lc))
theorem Lsts.later {w w' : World} {a : Option Addr} {n c : Nat} {l : List Sl} (h : Lsts w a n c l) (hb : Below w.heap.size w w') : Lsts w' a n c l := by
  obtain ⟨hn, hc, hm, hg, h⟩ := h
  refine ⟨hn, hc, hm, fun s m => (hg s m).later hb, ?_⟩
  rcases h with h0 | ⟨b, off, rfl, hlt, hcell⟩
  · exact Or.inl h0
  · exact Or.inr ⟨b, off, rfl, Nat.lt_of_lt_of_le hlt hb.size, fun j hj => (hb.cell (p := ⟨b, off + j, none⟩) hlt).trans (hcell j hj)⟩
theorem Lsts.cellAt {w : World} {a : Option Addr} {n c : Nat} {l : List Sl} (h : Lsts w a n c l) (hn : 0 < n) : ∃ b off, a = some ⟨b, off, none⟩ ∧ b < w.heap.size ∧ ∀ j, j < n → w.cell? ⟨b, off + j, none⟩ = some (.slice (slAt l j).la (slAt l j).ln (slAt l j).lc) := by
  obtain ⟨_, _, _, _, h0 | ⟨b, off, rfl, hb, hcell⟩⟩ := h
  · omega
  · exact ⟨b, off, rfl, hb, hcell⟩
theorem Lsts.mem {w : World} {a : Option Addr} {n c : Nat} {l : List Sl} (h : Lsts w a n c l) {k : Nat} (hk : k < n) : Ints w (slAt l k).la (slAt l k).ln (slAt l k).lc (slAt l k).ints := by
  refine h.2.2.2.1 _ ?_
  unfold slAt
  rw [List.getElem?_eq_getElem (show k < l.length by have := h.1; omega)]
  simp
theorem slAt_mem {l : List Sl} {j : Nat} (h : j < l.length) : slAt l j ∈ l := by
  unfold slAt
  rw [List.getElem?_eq_getElem h]
  exact List.getElem_mem h
/-- Heavy says true, or all is small. -/
def HeavyPost (n : Nat) (l : List Sl) (w : World) (e : Ending) (w' : World) : Prop := ∃ hv : Bool, e = .returned (.bool hv) ∧ (hv = false → n ≤ 1024 ∧ ∀ s ∈ l, s.ln ≤ 1024) ∧ w' = w
set_option maxHeartbeats 1000000 in
theorem heavy_any (a : Option Addr) (n c : Nat) (l : List Sl) (w : World) (h : Lsts w a n c l) (hs : ∀ s ∈ l, s.ln ≤ 140737488351232) (hn : n ≤ 140737488351232) :
    Calls Try.prog 21 #[.slice a n c] w fun e w' => HeavyPost n l w e w' := by
  have hl := hide h.1
  have HS := hide hs
  clear hs
  go_enter Try.func21, Try.ntmps21
  go_wp2
  go_loop [4, 3] (fun i v => ∃ k acc : Nat, k ≤ n ∧ i = .int .i64 k ∧ v = .int .i64 acc ∧ n ≤ acc ∧ acc ≤ 281474976702464 ∧ ∀ j, j < k → (slAt l j).ln ≤ acc) (fun i _ => n - (intOf i).toNat)
  case atStart => exact ⟨0, n, Nat.zero_le _, rfl, rfl, Nat.le_refl _, by omega, fun j hj => by omega⟩
  case round =>
    obtain ⟨k, acc, hk, rfl, rfl, hna, hac, hall⟩ := hrel
    have HALL := hide hall
    clear hall
    by_cases hlt : k < n
    · by_cases hle : acc ≤ 1024
      · obtain ⟨b, off, rfl, hb, hcell⟩ := h.cellAt (by omega)
        have hck := hcell k hlt
        have hsk := unhide HS (slAt l k) (slAt_mem (by have := unhide hl; omega))
        have hmk := (h.mem hlt).2.1
        have hmc := (h.mem hlt).2.2.1
        unfold maxLen at hmc
        obtain ⟨sk, hsk'⟩ : ∃ s, s = slAt l k := ⟨_, rfl⟩
        rw [← hsk'] at hck hsk hmk hmc
        have HSK := hide hsk'
        clear hsk' hcell
        obtain ⟨la, ln, lc, ints⟩ := sk
        simp only at hck hsk hmk hmc
        go_wp2
        refine ⟨⟨k + 1, acc + ln, by omega, by go_num, by go_num, by omega, by omega, fun j hj => ?_⟩, by simp [intOf]; omega⟩
        by_cases e : j = k
        · subst e
          rw [← unhide HSK]
          show ln ≤ _
          omega
        · have := unhide HALL j (by omega)
          omega
      · have d1 : decide ((acc : Int) ≤ 1024) = false := by simp; omega
        have d2 : decide (1024 < (acc : Int)) = true := by simp; omega
        go_wp2
        go_ret
        exact ⟨true, rfl, fun e => (by cases e), rfl⟩
    · have d0 : decide ((k : Int) < (n : Int)) = false := by simp; omega
      by_cases hle : acc ≤ 1024
      · have d2 : decide (1024 < (acc : Int)) = false := by simp; omega
        go_wp2
        go_ret
        refine ⟨false, rfl, fun _ => ⟨by omega, fun s hs => ?_⟩, rfl⟩
        obtain ⟨j, hj, e⟩ := List.getElem_of_mem hs
        have := unhide HALL j (by have := unhide hl; omega)
        have e2 : slAt l j = s := by unfold slAt; rw [List.getElem?_eq_getElem hj, e]; rfl
        rw [e2] at this
        omega
      · have d2 : decide (1024 < (acc : Int)) = true := by simp; omega
        go_wp2
        go_ret
        exact ⟨true, rfl, fun e => (by cases e), rfl⟩
def two (v : Value) (e : Int) : Value := .tuple #[v, .int .i64 e]
theorem intVals_len (l : List Int) : (intVals l).length = l.length := by simp [intVals]
theorem intVals_append (a b : List Int) : intVals (a ++ b) = intVals a ++ intVals b := by simp [intVals]
theorem intVals_at (l : List Int) (j : Nat) (h : j < l.length) : (intVals l)[j]? = some (.int .i64 (l[j]?.getD 0)) := by
  unfold intVals
  rw [List.getElem?_map, List.getElem?_eq_getElem h]
  rfl
theorem run_append_ints (w : World) (ty : TypeId) (base : Nat) (v : Value) (n : Nat) (xs : List Int) (hown : w.ownsRow base 3 1 v n (intVals xs)) (a : Option Addr) (m c : Nat) (l : List Int) (h : Ints w a m c l)
    (hsm : n + m ≤ 1000) (hbase : base ≤ w.heap.size) :
    ∃ v' w', (Builtin.append_ #[25, 25] ty #[v, .slice a m c]).run Try.prog w = .ok v' w' ∧ w'.ownsRow base 3 1 v' (n + m) (intVals (xs ++ l)) ∧ w.grownBy w' v.ownBlock := by
  obtain ⟨i0, hi, hz0, hz1, hz2⟩ := info_parts info3
  have hl : l.length = m := h.1.symm
  by_cases hm : 0 < m
  · obtain ⟨b, off, rfl, hb, hcell⟩ := h.cellAt hm
    have hc2 : ∀ j u, (intVals l)[j]? = some u → w.cell? ((⟨b, off, none⟩ : Addr).add j) = some u := by
      intro j u hu
      have hj : j < l.length := by
        rcases Nat.lt_or_ge j l.length with h' | h'
        · exact h'
        · rw [List.getElem?_eq_none (by rw [intVals_len]; exact h')] at hu; cases hu
      rw [intVals_at l j hj] at hu
      cases hu
      have e : (⟨b, off, none⟩ : Addr).add j = ⟨b, off + j, none⟩ := by unfold Addr.add; split <;> simp_all
      rw [e]
      exact hcell j (by omega)
    obtain ⟨v', w', hr, ho, hg, _⟩ := run_append_own (P := Try.prog) w base 25 ty 3 i0 _ 1 8 Try.underlying25 hi hz0 hz1 hz2 rfl (by decide) v n (intVals xs) hown ⟨b, off, none⟩ m c (intVals l) (by rw [intVals_len, hl, Nat.mul_one]) hc2 (fun u hu => by unfold intVals at hu; obtain ⟨y, _, rfl⟩ := List.mem_map.1 hu; rfl) (by unfold maxLen; omega) (by omega) hbase
    exact ⟨v', w', hr, by rw [intVals_append]; exact ho, hg⟩
  · obtain rfl : m = 0 := by omega
    obtain rfl : l = [] := List.length_eq_zero_iff.1 hl
    have hs : Src Try.prog i0.size 25 (.slice a 0 c) 0 [] w := by
      cases a with
      | none => exact Src.ofNil w Try.underlying25 c
      | some ad => exact Src.ofSlice w Try.underlying25 ad 0 c [] (by simp) (by simp) (by simp)
    refine ⟨v, w, ?_, by simpa using hown, ⟨rfl, rfl, rfl, Nat.le_refl _, fun _ _ _ => rfl⟩⟩
    rcases hown.2 with ⟨rfl, rfl⟩ | ⟨g, cap, cur, rfl, _, _, hnc, _⟩
    · exact run_append_nothing w 25 25 ty 3 i0 Try.underlying25 hi none 0 0 (Nat.le_refl _) _ hs
    · exact run_append_nothing w 25 25 ty 3 i0 Try.underlying25 hi _ n cap hnc _ hs
theorem wpList_append_ints (w : World) {ops : Array Oper} {rest : List Oper} {o : Oper} {a : Act} {Q : Exit → Act → World → Prop} (hgd : o.guard = none) (s x : Operand)
    (ho : o.op = .call { callee := .builtin .append, args := #[s, x], argTypes := #[25, 25] })
    (base : Nat) (v : Value) (n : Nat) (xs : List Int) (hs : a.eval s = v) (hown : w.ownsRow base 3 1 v n (intVals xs))
    (ad : Option Addr) (m c : Nat) (l : List Int) (hx : a.eval x = .slice ad m c) (h : Ints w ad m c l)
    (hsm : n + m ≤ 1000) (hbase : base ≤ w.heap.size)
    (hK : ∀ v' w', w'.ownsRow base 3 1 v' (n + m) (intVals (xs ++ l)) → w.grownBy w' v.ownBlock → wpList Try.prog ops Q rest (a.put o.dst v') w') : wpList Try.prog ops Q (o :: rest) a w :=
  wpList_plain hgd fun _ hk => by
    obtain ⟨v', w', hr, h2, h3⟩ := run_append_ints w o.type base v n xs hown ad m c l h hsm hbase
    unfold Oper.wp execOp
    simp only [ho, resolve, invoke, builtin, Sem.run_bind, Sem.run_pure, Result.andThen_ok, List.map_toArray, List.map_cons, List.map_nil, hs, hx, hr]
    exact hk _ _ (hK v' w' h2 h3)
/-- What the row that is being written reads as. -/
def Row (base : Nat) (W : World) (va : Option Addr) (n : Nat) (f : Nat → Int) : Prop :=
  n = 0 ∨ ∃ g, va = some ⟨g, 0, none⟩ ∧ base ≤ g ∧ g < W.heap.size ∧ (∀ j, j < n → W.cell? ⟨g, j, none⟩ = some (.int .i64 (f j))) ∧ (∀ j, j < n → W.frozen? ⟨g, j, none⟩ = false)
theorem Row.of_owns {W : World} {base : Nat} {v : Value} {n : Nat} {l : List Int} (h : W.ownsRow base 3 1 v n (intVals l)) :
    ∃ va cap, v = .slice va n cap ∧ n ≤ cap ∧ cap ≤ maxLen ∧ Row base W va n (fun j => l[j]?.getD 0) := by
  have hl : l.length = n := by have := h.1; rw [intVals_len] at this; omega
  have h0 := h
  rcases h.2 with ⟨rfl, rfl⟩ | ⟨g, cap, cur, rfl, hbg, hgg, hnc, hcm, hcs, htake⟩
  · exact ⟨none, 0, rfl, Nat.le_refl _, by unfold maxLen; omega, .inl rfl⟩
  · refine ⟨_, cap, rfl, hnc, hcm, .inr ⟨g, rfl, hbg, ?_, fun j hj => ?_, fun j hj => ?_⟩⟩
    · rcases Nat.lt_or_ge g W.heap.size with h' | h'
      · exact h'
      · rw [Array.getElem?_eq_none h'] at hgg; cases hgg
    · rw [h0.cellAt j (by omega), intVals_at l j (by omega)]
    · simp [World.frozen?, hgg]
theorem Row.later {base : Nat} {W W' : World} {va : Option Addr} {n : Nat} {f : Nat → Int} (h : Row base W va n f) (hb : Below W.heap.size W W') : Row base W' va n f := by
  rcases h with h | ⟨g, h1, h2, h3, h4, h5⟩
  · exact .inl h
  · exact .inr ⟨g, h1, h2, Nat.lt_of_lt_of_le h3 hb.size, fun j hj => (hb.cell (p := ⟨g, j, none⟩) h3).trans (h4 j hj), fun j hj => (hb.frozen (p := ⟨g, j, none⟩) h3).trans (h5 j hj)⟩
theorem Row.same {base : Nat} {W : World} {va : Option Addr} {n : Nat} {f f' : Nat → Int} (h : Row base W va n f) (e : ∀ j, j < n → f j = f' j) : Row base W va n f' := by
  rcases h with h | ⟨g, h1, h2, h3, h4, h5⟩
  · exact .inl h
  · exact .inr ⟨g, h1, h2, h3, fun j hj => by rw [h4 j hj, e j hj], h5⟩
theorem Row.ints {base : Nat} {W : World} {va : Option Addr} {n cap : Nat} {f : Nat → Int} {l : List Int} (h : Row base W va n f) (hl : n = l.length) (h1 : n ≤ cap) (h2 : cap ≤ maxLen) (e : ∀ j, j < n → f j = l[j]?.getD 0) : Ints W va n cap l := by
  refine ⟨hl, h1, h2, ?_⟩
  rcases h with h | ⟨g, h1, h2, h3, h4, h5⟩
  · exact .inl h
  · exact .inr ⟨g, 0, h1, h3, fun j hj => by rw [Nat.zero_add, h4 j hj, e j hj]⟩
theorem Row.set {base : Nat} {W : World} {g n k : Nat} {f f' : Nat → Int} {x : Int} (h : Row base W (some ⟨g, 0, none⟩) n f) (hk : k < n) (e : ∀ j, j < n → j ≠ k → f j = f' j) (ek : x = f' k) : Row base (W.setCell ⟨g, k, none⟩ (.int .i64 x)) (some ⟨g, 0, none⟩) n f' := by
  rcases h with h | ⟨g', h1, h2, h3, h4, h5⟩
  · omega
  · cases h1
    refine .inr ⟨g, rfl, h2, by simpa using h3, fun j hj => ?_, fun j hj => by rw [World.frozen?_setCell]; exact h5 j hj⟩
    by_cases hjk : j = k
    · subst hjk
      rw [World.cell?_setCell_same' W ⟨g, j, none⟩ _ (by rw [h4 j hj]; rfl), ek]
    · rw [World.cell?_setCell_other _ _ _ _ (by intro hh; cases hh; exact hjk rfl), h4 j hj, e j hj hjk]
def eqFuel (l m : List Int) : Nat → Nat → Bool
  | 0, _ => true
  | f + 1, k => decide (l[k]?.getD 0 = m[k]?.getD 0) && eqFuel l m f (k + 1)
def eqFrom (l m : List Int) (k : Nat) : Bool := eqFuel l m (l.length - k) k
theorem eqFrom_step {l m : List Int} {k : Nat} (h : k < l.length) : eqFrom l m k = (decide (l[k]?.getD 0 = m[k]?.getD 0) && eqFrom l m (k+1)) := by
  unfold eqFrom
  rw [show l.length - k = (l.length - (k + 1)) + 1 by omega, eqFuel]
theorem eqFrom_yes {l m : List Int} {k : Nat} (h : k < l.length) (e : l[k]?.getD 0 = m[k]?.getD 0) : eqFrom l m k = eqFrom l m (k+1) := by
  rw [eqFrom_step h, decide_eq_true e, Bool.true_and]
theorem eqFrom_no {l m : List Int} {k : Nat} (h : k < l.length) (e : ¬ l[k]?.getD 0 = m[k]?.getD 0) : eqFrom l m k = false := by
  rw [eqFrom_step h, decide_eq_false e, Bool.false_and]
theorem eqFrom_end {l m : List Int} {k : Nat} (h : ¬ k < l.length) : eqFrom l m k = true := by
  unfold eqFrom
  rw [show l.length - k = 0 by omega, eqFuel]
theorem eqFrom_all {l m : List Int} : ∀ (d k : Nat), l.length - k = d → eqFrom l m k = true → ∀ j, k ≤ j → j < l.length → l[j]?.getD 0 = m[j]?.getD 0
  | 0, k, hd, _, j, hj, hl => by omega
  | d + 1, k, hd, h, j, hj, hl => by
    have hk : k < l.length := by omega
    rw [eqFrom_step hk, Bool.and_eq_true, decide_eq_true_eq] at h
    by_cases e : j = k
    · rw [e]; exact h.1
    · exact eqFrom_all d (k + 1) (by omega) h.2 j (by omega) hl
theorem eqFrom_refl {l : List Int} : ∀ (d k : Nat), l.length - k = d → eqFrom l l k = true
  | 0, k, hd => eqFrom_end (by omega)
  | d + 1, k, hd => by rw [eqFrom_step (by omega), eqFrom_refl d (k + 1) (by omega)]; simp
theorem eqFrom_eq {l m : List Int} (hl : l.length = m.length) : eqFrom l m 0 = decide (l = m) := by
  by_cases e : l = m
  · subst e; rw [eqFrom_refl _ 0 rfl]; simp
  · rw [decide_eq_false e]
    cases h : eqFrom l m 0 with
    | false => rfl
    | true =>
      refine absurd ?_ e
      refine List.ext_getElem hl fun j h1 h2 => ?_
      have := eqFrom_all _ 0 rfl h j (Nat.zero_le _) h1
      simpa [h1, h2] using this
set_option maxHeartbeats 1000000 in
theorem sameInts_any (a a' : Option Addr) (n c n' c' : Nat) (l m : List Int) (w : World) (h : Ints w a n c l) (h' : Ints w a' n' c' m) :
    Calls Try.prog 13 #[.slice a n c, .slice a' n' c'] w fun e w' => e = .returned (.bool (decide (l = m))) ∧ Below w.heap.size w w' := by
  obtain ⟨hn, hc, hm, h⟩ := h
  obtain ⟨hn', hc', hm', h'⟩ := h'
  unfold maxLen at hm hm'
  have HN : Hid (n = l.length) := hn
  have HN' : Hid (n' = m.length) := hn'
  clear hn hn'
  by_cases hnn : n = n'
  · subst hnn
    have HL : Hid (decide (l = m) = eqFrom l m 0) := (eqFrom_eq (HN.out.symm.trans HN'.out)).symm
    rcases h with h0 | ⟨b, off, rfl, hb, hcell⟩
    · subst h0
      go_enter Try.func13, Try.ntmps13
      go_wp2
      refine wp_loop_rounds 1 ?_
      rw [rounds_succ]
      go_wp2
      go_ret
      exact ⟨ret_bool (by rw [HL.out, eqFrom_end (by have := HN.out; omega)]), Below.refl _ _⟩
    · rcases h' with h0 | ⟨b', off', rfl, hb', hcell'⟩
      · subst h0
        go_enter Try.func13, Try.ntmps13
        go_wp2
        refine wp_loop_rounds 1 ?_
        rw [rounds_succ]
        go_wp2
        go_ret
        exact ⟨ret_bool (by rw [HL.out, eqFrom_end (by have := HN.out; omega)]), Below.refl _ _⟩
      · go_enter Try.func13, Try.ntmps13
        go_wp2
        go_loopw [5] (fun i wr => Below w.heap.size w wr ∧ ∃ k : Nat, k ≤ n ∧ i = .int .i64 k ∧ eqFrom l m 0 = eqFrom l m k) (fun i _ => n - (intOf i).toNat)
        case atStart => exact ⟨Below.refl _ _, 0, Nat.zero_le _, rfl, rfl⟩
        case round =>
          obtain ⟨hbr, k, hk, rfl, hn⟩ := hrel
          have HI : Hid (eqFrom l m 0 = eqFrom l m k) := hn
          clear hn
          by_cases hlt : k < n
          · have hck := (hbr.cell (p := ⟨b, off + k, none⟩) hb).trans (hcell k hlt)
            have hck' := (hbr.cell (p := ⟨b', off' + k, none⟩) hb').trans (hcell' k hlt)
            clear hcell hcell'
            by_cases q : l[k]?.getD 0 = m[k]?.getD 0
            · have HQ : Hid (l[k]?.getD 0 = m[k]?.getD 0) := q
              rw [← q] at hck'
              clear q
              go_wp2
              go_quiet (fail)
              go_wp2
              go_roundw
              case rel => exact ⟨hbr.trans (below_drewN _ _ _), k+1, by omega, by go_num, by rw [HI.out]; exact eqFrom_yes (by have := HN.out; omega) HQ.out⟩
              case measure => simp [intOf]; omega
            · go_wp2
              go_quiet (fail)
              go_wp2
              go_ret
              refine ⟨ret_bool ?_, hbr.trans (below_drewN _ _ _)⟩
              rw [HL.out, HI.out]; exact (eqFrom_no (by have := HN.out; omega) q).symm
          · go_wp2
            go_ret
            exact ⟨ret_bool (by rw [HL.out, HI.out, eqFrom_end (by have := HN.out; omega)]), hbr⟩
  · have HL : Hid (decide (l = m) = false) := decide_eq_false (fun e => hnn (by rw [HN.out, HN'.out, e]))
    have hnn' : ¬ (n : Int) = (n' : Int) := by omega
    go_enter Try.func13, Try.ntmps13
    go_wp2
    go_ret
    exact ⟨ret_bool HL.out.symm, Below.refl _ _⟩
theorem info25 : (Try.prog.info? 25).map (fun i => (i.zero, i.size, i.bytes)) = some (some (.slice none 0 0), 1, 24) := by kernel_rfl
theorem slVals_len (l : List Sl) : (slVals l).length = l.length := by simp [slVals]
theorem slVals_at (l : List Sl) (j : Nat) (h : j < l.length) : (slVals l)[j]? = some (.slice (slAt l j).la (slAt l j).ln (slAt l j).lc) := by
  unfold slVals slAt
  rw [List.getElem?_map, List.getElem?_eq_getElem h]
  rfl
theorem slVals_append (a b : List Sl) : slVals (a ++ b) = slVals a ++ slVals b := by simp [slVals]
theorem run_append_lsts (w : World) (ty : TypeId) (base : Nat) (v : Value) (n : Nat) (xs : List Sl) (hown : w.ownsRow base 25 1 v n (slVals xs)) (a : Option Addr) (m c : Nat) (l : List Sl) (h : Lsts w a m c l)
    (hsm : n + m ≤ 1000000) (hbase : base ≤ w.heap.size) :
    ∃ v' w', (Builtin.append_ #[22, 22] ty #[v, .slice a m c]).run Try.prog w = .ok v' w' ∧ w'.ownsRow base 25 1 v' (n + m) (slVals (xs ++ l)) ∧ w.grownBy w' v.ownBlock := by
  obtain ⟨i0, hi, hz0, hz1, hz2⟩ := info_parts info25
  have hl : l.length = m := h.1.symm
  by_cases hm : 0 < m
  · obtain ⟨b, off, rfl, hb, hcell⟩ := h.cellAt hm
    have hc2 : ∀ j u, (slVals l)[j]? = some u → w.cell? ((⟨b, off, none⟩ : Addr).add j) = some u := by
      intro j u hu
      have hj : j < l.length := by
        rcases Nat.lt_or_ge j l.length with h' | h'
        · exact h'
        · rw [List.getElem?_eq_none (by rw [slVals_len]; exact h')] at hu; cases hu
      rw [slVals_at l j hj] at hu
      cases hu
      have e : (⟨b, off, none⟩ : Addr).add j = ⟨b, off + j, none⟩ := by unfold Addr.add; split <;> simp_all
      rw [e]
      exact hcell j (by omega)
    obtain ⟨v', w', hr, ho, hg, _⟩ := run_append_own (P := Try.prog) w base 22 ty 25 i0 _ 1 24 Try.underlying22 hi hz0 hz1 hz2 rfl (by decide) v n (slVals xs) hown ⟨b, off, none⟩ m c (slVals l) (by rw [slVals_len, hl, Nat.mul_one]) hc2 (fun u hu => by unfold slVals at hu; obtain ⟨y, _, rfl⟩ := List.mem_map.1 hu; rfl) (by unfold maxLen; omega) (by omega) hbase
    exact ⟨v', w', hr, by rw [slVals_append]; exact ho, hg⟩
  · obtain rfl : m = 0 := by omega
    obtain rfl : l = [] := List.length_eq_zero_iff.1 hl
    have hs : Src Try.prog i0.size 22 (.slice a 0 c) 0 [] w := by
      cases a with
      | none => exact Src.ofNil w Try.underlying22 c
      | some ad => exact Src.ofSlice w Try.underlying22 ad 0 c [] (by simp) (by simp) (by simp)
    refine ⟨v, w, ?_, by simpa using hown, ⟨rfl, rfl, rfl, Nat.le_refl _, fun _ _ _ => rfl⟩⟩
    rcases hown.2 with ⟨rfl, rfl⟩ | ⟨g, cap, cur, rfl, _, _, hnc, _⟩
    · exact run_append_nothing w 22 22 ty 25 i0 Try.underlying22 hi none 0 0 (Nat.le_refl _) _ hs
    · exact run_append_nothing w 22 22 ty 25 i0 Try.underlying22 hi _ n cap hnc _ hs
theorem wpList_append_lsts (w : World) {ops : Array Oper} {rest : List Oper} {o : Oper} {a : Act} {Q : Exit → Act → World → Prop} (hgd : o.guard = none) (s x : Operand)
    (ho : o.op = .call { callee := .builtin .append, args := #[s, x], argTypes := #[22, 22] })
    (base : Nat) (v : Value) (n : Nat) (xs : List Sl) (hs : a.eval s = v) (hown : w.ownsRow base 25 1 v n (slVals xs))
    (ad : Option Addr) (m c : Nat) (l : List Sl) (hx : a.eval x = .slice ad m c) (h : Lsts w ad m c l)
    (hsm : n + m ≤ 1000000) (hbase : base ≤ w.heap.size)
    (hK : ∀ v' w', w'.ownsRow base 25 1 v' (n + m) (slVals (xs ++ l)) → w.grownBy w' v.ownBlock → wpList Try.prog ops Q rest (a.put o.dst v') w') : wpList Try.prog ops Q (o :: rest) a w :=
  wpList_plain hgd fun _ hk => by
    obtain ⟨v', w', hr, h2, h3⟩ := run_append_lsts w o.type base v n xs hown ad m c l h hsm hbase
    unfold Oper.wp execOp
    simp only [ho, resolve, invoke, builtin, Sem.run_bind, Sem.run_pure, Result.andThen_ok, List.map_toArray, List.map_cons, List.map_nil, hs, hx, hr]
    exact hk _ _ (hK v' w' h2 h3)
/-- The steps of a region that draws its order: an append of ints, of one int. -/
theorem step_append_ints (w : World) {ops : Array Oper} {o : Oper} {a : Act} {K : Act → World → Prop} {Q : Exit → Act → World → Prop} {E : Prop} (hgd : o.guard = none) (s x : Operand)
    (ho : o.op = .call { callee := .builtin .append, args := #[s, x], argTypes := #[25, 25] })
    (base : Nat) (v : Value) (n : Nat) (xs : List Int) (hs : a.eval s = v) (hown : w.ownsRow base 3 1 v n (intVals xs))
    (ad : Option Addr) (m c : Nat) (l : List Int) (hx : a.eval x = .slice ad m c) (h : Ints w ad m c l)
    (hsm : n + m ≤ 1000) (hbase : base ≤ w.heap.size)
    (hK : ∀ v' w', w'.ownsRow base 3 1 v' (n + m) (intVals (xs ++ l)) → w.grownBy w' v.ownBlock → K (a.put o.dst v') w') :
    if Region.wanted o (yielded ops a.tmps) = true then Oper.wp Try.prog o a w K Q else E := by
  have hw : Region.wanted o (yielded ops a.tmps) = true := by simp [Region.wanted, hgd]
  rw [if_pos hw]
  obtain ⟨v', w', hr, h2, h3⟩ := run_append_ints w o.type base v n xs hown ad m c l h hsm hbase
  unfold Oper.wp execOp
  simp only [ho, resolve, invoke, builtin, Sem.run_bind, Sem.run_pure, Result.andThen_ok, List.map_toArray, List.map_cons, List.map_nil, hs, hx, hr]
  exact hK v' w' h2 h3
/-- One int more, of a block of its own. -/
theorem ints_one {w : World} {g : Nat} {x : Int} (h : w.cell? ⟨g, 0, none⟩ = some (.int .i64 x)) : Ints w (some ⟨g, 0, none⟩) 1 1 [x] := by
  refine ⟨rfl, Nat.le_refl _, by unfold maxLen; omega, .inr ⟨g, 0, rfl, World.block_lt_of_cell? w _ h, fun j hj => ?_⟩⟩
  obtain rfl : j = 0 := by omega
  exact h
def T3 (w : World) (a : Option Addr) (n : Nat) : Prop := n = 0 ∨ ∃ b off arr fz, a = some ⟨b, off, none⟩ ∧ w.heap[b]? = some (.cells arr 3 fz)
theorem T3.later {w w' : World} {a : Option Addr} {n : Nat} (h : T3 w a n) (hb : Below w.heap.size w w') : T3 w' a n := by
  rcases h with h | ⟨b, off, arr, fz, h1, h2⟩
  · exact Or.inl h
  · exact Or.inr ⟨b, off, arr, fz, h1, by rw [hb.block b (Array.getElem?_eq_some_iff.1 h2).1]; exact h2⟩
theorem T3.apart {w : World} {base n : Nat} {v : Value} {xs : List Value} (ho : w.ownsRow base 25 1 v n xs) {b : Nat} {arr : Array Value} {fz : Nat × Nat} (hb : w.heap[b]? = some (.cells arr 3 fz)) : some b ≠ v.ownBlock := by
  rcases ho.2 with ⟨rfl, _⟩ | ⟨g, cap, cur, rfl, _, hg, _⟩
  · intro h; cases h
  · intro h
    cases h
    rw [hg] at hb
    cases hb
theorem T3.grown {w w' : World} {base k : Nat} {v : Value} {xs : List Value} {a : Option Addr} {n c : Nat} {l : List Int} (h : T3 w a n) (hI : Ints w a n c l) (ho : w.ownsRow base 25 1 v k xs) (hg : w.grownBy w' v.ownBlock) : T3 w' a n ∧ Ints w' a n c l := by
  rcases h with h | ⟨b, off, arr, fz, h1, h2⟩
  · exact ⟨Or.inl h, hI.1, hI.2.1, hI.2.2.1, Or.inl h⟩
  · have hlt := (Array.getElem?_eq_some_iff.1 h2).1
    have hb := hg.block b hlt (T3.apart ho h2)
    refine ⟨Or.inr ⟨b, off, arr, fz, h1, by rw [hb]; exact h2⟩, hI.1, hI.2.1, hI.2.2.1, ?_⟩
    rcases hI.2.2.2 with h0 | ⟨b', off', e, hlt', hc⟩
    · exact Or.inl h0
    · rw [h1] at e
      cases e
      exact Or.inr ⟨b, off, h1, Nat.lt_of_lt_of_le hlt hg.size, fun j hj => (World.cell?_of_block (a := ⟨b, off + j, none⟩) hb).trans (hc j hj)⟩
theorem T3.of_owns {w : World} {B n m : Nat} {a : Option Addr} {c : Nat} {xs : List Value} (h : w.ownsRow B 3 1 (.slice a n c) m xs) : T3 w a n := by
  rcases h.2 with ⟨e, _⟩ | ⟨g, cap, cur, e, _, hg, _⟩
  · cases e; exact Or.inl rfl
  · cases e; exact Or.inr ⟨g, 0, cur, (0, 0), rfl, hg⟩
theorem own_empty (W : World) (base : Nat) (h : base ≤ W.heap.size) : (W.alloc (.cells #[] 3)).ownsRow base 3 1 (.slice (some ⟨W.heap.size, 0, none⟩) 0 0) 0 (intVals []) :=
  World.ownsRow_made (base := base) (e := 3) (size := 1) W #[] 0 h (by unfold maxLen; omega) rfl
theorem own_empty2 (W : World) (o : Obj) (base : Nat) (h : base ≤ W.heap.size) : ((W.alloc o).alloc (.cells #[] 3)).ownsRow base 3 1 (.slice (some ⟨W.heap.size + 1, 0, none⟩) 0 0) 0 (intVals []) := by
  have h2 := own_empty (W.alloc o) base (by rw [World.size_alloc]; omega)
  rw [World.size_alloc] at h2
  exact h2
theorem Lsts.of_owns {w : World} {B : Nat} {v : Value} {n : Nat} {l : List Sl} (h : w.ownsRow B 25 1 v n (slVals l)) (hg : ∀ s ∈ l, Ints w s.la s.ln s.lc s.ints) : ∃ a c, v = .slice a n c ∧ Lsts w a n c l := by
  have hl : l.length = n := by have := h.1; rw [slVals_len] at this; omega
  have h0 := h
  rcases h.2 with ⟨rfl, rfl⟩ | ⟨g, cap, cur, rfl, hbg, hgg, hnc, hcm, hcs, htake⟩
  · exact ⟨none, 0, rfl, hl.symm, Nat.le_refl _, by unfold maxLen; omega, hg, .inl rfl⟩
  · refine ⟨_, cap, rfl, hl.symm, hnc, hcm, hg, .inr ⟨g, 0, rfl, ?_, fun j hj => ?_⟩⟩
    · rcases Nat.lt_or_ge g w.heap.size with h' | h'
      · exact h'
      · rw [Array.getElem?_eq_none h'] at hgg; cases hgg
    · rw [Nat.zero_add, h0.cellAt j (by omega), slVals_at l j (by omega)]
/-- One list more, of a block of its own. -/
theorem lsts_one {w : World} {g : Nat} {s : Sl} (h : w.cell? ⟨g, 0, none⟩ = some (.slice s.la s.ln s.lc)) (hI : Ints w s.la s.ln s.lc s.ints) : Lsts w (some ⟨g, 0, none⟩) 1 1 [s] := by
  refine ⟨rfl, Nat.le_refl _, by unfold maxLen; omega, fun t ht => ?_, .inr ⟨g, 0, rfl, World.block_lt_of_cell? w _ h, fun j hj => ?_⟩⟩
  · rw [List.mem_singleton] at ht; subst ht; exact hI
  · obtain rfl : j = 0 := by omega
    exact h
theorem step_append_lsts (w : World) {ops : Array Oper} {o : Oper} {a : Act} {K : Act → World → Prop} {Q : Exit → Act → World → Prop} {E : Prop} (hgd : o.guard = none) (s x : Operand)
    (ho : o.op = .call { callee := .builtin .append, args := #[s, x], argTypes := #[22, 22] })
    (base : Nat) (v : Value) (n : Nat) (xs : List Sl) (hs : a.eval s = v) (hown : w.ownsRow base 25 1 v n (slVals xs))
    (ad : Option Addr) (m c : Nat) (l : List Sl) (hx : a.eval x = .slice ad m c) (h : Lsts w ad m c l)
    (hsm : n + m ≤ 1000000) (hbase : base ≤ w.heap.size)
    (hK : ∀ v' w', w'.ownsRow base 25 1 v' (n + m) (slVals (xs ++ l)) → w.grownBy w' v.ownBlock → K (a.put o.dst v') w') :
    if Region.wanted o (yielded ops a.tmps) = true then Oper.wp Try.prog o a w K Q else E := by
  have hw : Region.wanted o (yielded ops a.tmps) = true := by simp [Region.wanted, hgd]
  rw [if_pos hw]
  obtain ⟨v', w', hr, h2, h3⟩ := run_append_lsts w o.type base v n xs hown ad m c l h hsm hbase
  unfold Oper.wp execOp
  simp only [ho, resolve, invoke, builtin, Sem.run_bind, Sem.run_pure, Result.andThen_ok, List.map_toArray, List.map_cons, List.map_nil, hs, hx, hr]
  exact hK v' w' h2 h3
/-- One list more at a row's end: in its own block, or in a new one. -/
theorem run_append_one (w : World) (ty : TypeId) (base : Nat) (v : Value) (n : Nat) (xs : List Sl) (hown : w.ownsRow base 25 1 v n (slVals xs)) (g c : Nat) (s : Sl) (hc : w.cell? ⟨g, 0, none⟩ = some (.slice s.la s.ln s.lc))
    (hsm : n ≤ 100000) (hbase : base ≤ w.heap.size) :
    ∃ v' w', (Builtin.append_ #[22, 22] ty #[v, .slice (some ⟨g, 0, none⟩) 1 c]).run Try.prog w = .ok v' w' ∧ w'.ownsRow base 25 1 v' (n + 1) (slVals (xs ++ [s])) ∧ w.grownBy w' v.ownBlock ∧ (v'.ownBlock = v.ownBlock ∨ v'.ownBlock = some w.heap.size) := by
  obtain ⟨i0, hi, hz0, hz1, hz2⟩ := info_parts info25
  have hnews : ∀ j u, (slVals [s])[j]? = some u → w.cell? ((⟨g, 0, none⟩ : Addr).add j) = some u := by
    intro j u hu
    cases j with
    | zero => simp [slVals, Sl.val] at hu; subst hu; simpa [Addr.add] using hc
    | succ j => simp [slVals] at hu
  have hone : ∀ u ∈ slVals [s], u.oneCell' = true := fun u hu => by simp [slVals, Sl.val] at hu; subst hu; rfl
  obtain ⟨v', w', hr, ho, hg, _⟩ := run_append_own (P := Try.prog) w base 22 ty 25 i0 _ 1 24 Try.underlying22 hi hz0 hz1 hz2 rfl (by decide) v n (slVals xs) hown ⟨g, 0, none⟩ 1 c (slVals [s]) rfl hnews hone (by unfold maxLen; omega) (by omega) hbase
  refine ⟨v', w', hr, by rw [slVals_append]; exact ho, hg, ?_⟩
  rcases hown.2 with ⟨rfl, rfl⟩ | ⟨g', cap, cur, rfl, hbg, hgg, hnc, hcm, hcs, htake⟩
  · have hr2 := run_append_nil (P := Try.prog) w 22 ty 25 i0 _ Try.underlying22 hi hz0 ⟨g, 0, none⟩ 1 c (slVals [s]) (by rw [hz1]; rfl) hnews (by omega) (by omega) (by rw [hz2]; omega)
    rw [hr] at hr2
    injection hr2 with e1 _
    rw [e1]
    exact .inr rfl
  · by_cases hroom : n + 1 ≤ cap
    · have hr2 := run_append_room (P := Try.prog) w 22 ty 25 i0 Try.underlying22 hi g' n cap cur hgg ⟨g, 0, none⟩ 1 c (slVals [s]) (by rw [hz1]; rfl) hnews hone hroom (by rw [hz1, hcs]; simp [slVals]; omega)
      rw [hr] at hr2
      injection hr2 with e1 _
      rw [e1]
      exact .inl rfl
    · have holds : ∀ j u, (slVals xs)[j]? = some u → w.cell? ((⟨g', 0, none⟩ : Addr).add j) = some u := hown.cells (g := g') rfl
      have hr2 := run_append_grow (P := Try.prog) w 22 ty 25 i0 _ Try.underlying22 hi hz0 ⟨g', 0, none⟩ n cap (slVals xs) (by rw [hz1]; exact hown.1) holds ⟨g, 0, none⟩ 1 c (slVals [s]) (by rw [hz1]; rfl) hnews (by omega) (by omega) (by rw [hz2]; exact growslice_fits (by omega) (by omega))
      rw [hr] at hr2
      injection hr2 with e1 _
      rw [e1]
      exact .inr rfl
theorem step_append_one (w : World) {ops : Array Oper} {o : Oper} {a : Act} {K : Act → World → Prop} {Q : Exit → Act → World → Prop} {E : Prop} (hgd : o.guard = none) (sx x : Operand)
    (ho : o.op = .call { callee := .builtin .append, args := #[sx, x], argTypes := #[22, 22] })
    (base : Nat) (v : Value) (n : Nat) (xs : List Sl) (hs : a.eval sx = v) (hown : w.ownsRow base 25 1 v n (slVals xs))
    (g c : Nat) (s : Sl) (hx : a.eval x = .slice (some ⟨g, 0, none⟩) 1 c) (hc : w.cell? ⟨g, 0, none⟩ = some (.slice s.la s.ln s.lc))
    (hsm : n ≤ 100000) (hbase : base ≤ w.heap.size)
    (hK : ∀ v' w', w'.ownsRow base 25 1 v' (n + 1) (slVals (xs ++ [s])) → w.grownBy w' v.ownBlock → (v'.ownBlock = v.ownBlock ∨ v'.ownBlock = some w.heap.size) → K (a.put o.dst v') w') :
    if Region.wanted o (yielded ops a.tmps) = true then Oper.wp Try.prog o a w K Q else E := by
  have hw : Region.wanted o (yielded ops a.tmps) = true := by simp [Region.wanted, hgd]
  rw [if_pos hw]
  obtain ⟨v', w', hr, h2, h3, h4⟩ := run_append_one w o.type base v n xs hown g c s hc hsm hbase
  unfold Oper.wp execOp
  simp only [ho, resolve, invoke, builtin, Sem.run_bind, Sem.run_pure, Result.andThen_ok, List.map_toArray, List.map_cons, List.map_nil, hs, hx, hr]
  exact hK v' w' h2 h3 h4
theorem own_empty25 (W : World) (base : Nat) (h : base ≤ W.heap.size) : (W.alloc (.cells #[] 25)).ownsRow base 25 1 (.slice (some ⟨W.heap.size, 0, none⟩) 0 0) 0 (slVals []) :=
  World.ownsRow_made (base := base) (e := 25) (size := 1) W #[] 0 h (by unfold maxLen; omega) rfl
theorem slAt_set {L : List Sl} {i j : Nat} {s : Sl} (hi : i < L.length) : slAt (L.set i s) j = if j = i then s else slAt L j := by
  unfold slAt
  rw [List.getElem?_set]
  by_cases e : i = j
  · rw [if_pos e, if_pos hi, if_pos e.symm]; rfl
  · rw [if_neg e, if_neg (Ne.symm e)]
/-- One list of a row of one's own is changed for another. -/
theorem Lsts.set {w0 w : World} {wa : Option Addr} {wc g n c i0 : Nat} {WL : List Sl} {s : Sl} (h : Lsts w0 wa n wc WL) (hb : Below w0.heap.size w0 w) (hg : w0.heap.size ≤ g) (hgs : g < w.heap.size)
    (hc : ∀ j, j < n → w.cell? ⟨g, j, none⟩ = some (.slice (slAt WL j).la (slAt WL j).ln (slAt WL j).lc)) (hnc : n ≤ c) (hcm : c ≤ maxLen) (hi : i0 < n)
    (hs : Ints w s.la s.ln s.lc s.ints) (hsa : s.ln = 0 ∨ ∃ b off, s.la = some ⟨b, off, none⟩ ∧ b ≠ g) : Lsts (w.setCell ⟨g, i0, none⟩ (.slice s.la s.ln s.lc)) (some ⟨g, 0, none⟩) n c (WL.set i0 s) := by
  have hl := h.1
  have hbW := hb.setCell (p := ⟨g, i0, none⟩) hg (.slice s.la s.ln s.lc)
  have hsW : Ints (w.setCell ⟨g, i0, none⟩ (.slice s.la s.ln s.lc)) s.la s.ln s.lc s.ints := by
    obtain ⟨h1, h2, h3, h4⟩ := hs
    refine ⟨h1, h2, h3, ?_⟩
    rcases hsa with h0 | ⟨b, off, e, hne⟩
    · exact .inl h0
    · rcases h4 with h0 | ⟨b', off', e', hlt, hcell⟩
      · exact .inl h0
      · rw [e] at e'
        cases e'
        exact .inr ⟨b, off, e, by simpa using hlt, fun j hj => by rw [World.cell?_setCell_other _ _ _ _ (by intro hh; cases hh; exact hne rfl)]; exact hcell j hj⟩
  refine ⟨by simp [hl], hnc, hcm, fun t ht => ?_, .inr ⟨g, 0, rfl, by simpa using hgs, fun j hj => ?_⟩⟩
  · rcases List.mem_or_eq_of_mem_set ht with h1 | h1
    · exact (h.2.2.2.1 t h1).later hbW
    · subst h1; exact hsW
  · rw [Nat.zero_add, slAt_set (by omega)]
    by_cases e : j = i0
    · subst e
      rw [if_pos rfl]
      exact World.cell?_setCell_same' _ _ _ (by rw [hc j hj]; rfl)
    · rw [if_neg e, World.cell?_setCell_other _ _ _ _ (by intro hh; cases hh; exact e rfl)]
      exact hc j hj
theorem Row.at {base : Nat} {W : World} {g n : Nat} {f : Nat → Int} (h : Row base W (some ⟨g, 0, none⟩) n f) {j : Nat} (hj : j < n) : W.cell? ⟨g, j, none⟩ = some (.int .i64 (f j)) ∧ W.frozen? ⟨g, j, none⟩ = false ∧ g < W.heap.size ∧ base ≤ g := by
  rcases h with h | ⟨b, h1, h2, h3, h4, h5⟩
  · omega
  · cases h1; exact ⟨h4 j hj, h5 j hj, h3, h2⟩
theorem made_at (v : Value) (hv : v.cells = #[v]) (n j : Nat) (hj : j < n) : (madeCells v.cells (n * 1)).toList[j]? = some v := by
  rw [hv]
  unfold madeCells
  rw [Nat.mul_one]
  simp [hj, Nat.mod_one]
theorem row_made {W : World} {base G n : Nat} (h : W.ownsRow base 3 1 (.slice (some ⟨G, 0, none⟩) n n) n (madeCells (Value.int .i64 0).cells (n * 1)).toList) : Row base W (some ⟨G, 0, none⟩) n (fun _ => 0) := by
  have h0 := h
  rcases h.2 with ⟨h1, _⟩ | ⟨g, cap, cur, h1, hbg, hgg, hnc, hcm, hcs, htake⟩
  · cases h1
  · cases h1
    refine .inr ⟨G, rfl, hbg, (Array.getElem?_eq_some_iff.1 hgg).1, fun j hj => ?_, fun j _ => by simp [World.frozen?, hgg]⟩
    rw [h0.cellAt j (by omega), made_at _ rfl n j hj]
/-- An int of 64 bits. -/
def InR (c : Int) : Prop := -9223372036854775808 ≤ c ∧ c ≤ 9223372036854775807
theorem wrap_in (x : Int) (h1 : -9223372036854775808 ≤ x) (h2 : x ≤ 9223372036854775807) : IntKind.i64.wrap x = x := by
  rw [IntKind.wrap_i64]
  omega
theorem wrap64_in (x : Int) (h1 : -9223372036854775808 ≤ x) (h2 : x ≤ 9223372036854775807) : wrap64 x = x := by
  unfold wrap64
  omega
/-- The number at a place of a list. -/
def nth (l : List Int) (j : Nat) : Int := l[j]?.getD 0
theorem Ints.nth {w : World} {a : Option Addr} {n c : Nat} {l : List Int} (h : Ints w a n c l) (hn : 0 < n) : ∃ b off, a = some ⟨b, off, none⟩ ∧ b < w.heap.size ∧ ∀ j, j < n → w.cell? ⟨b, off + j, none⟩ = some (.int .i64 (nth l j)) := h.cellAt hn
def upd (v : Nat → Int) (i : Nat) (b : Int) (j : Nat) : Int := if j = i then b else v j
theorem upd_at (v : Nat → Int) (i : Nat) (b : Int) : upd v i b i = b := if_pos rfl
theorem upd_ne {v : Nat → Int} {i j : Nat} {b : Int} (h : j ≠ i) : upd v i b j = v j := if_neg h
theorem upd_self (v : Nat → Int) (i : Nat) : upd v i (v i) = v := by
  funext j
  by_cases e : j = i
  · subst e; rw [upd_at]
  · rw [upd_ne e]
def lF (n : Nat) (f : Nat → Int) : List Int := (List.range n).map f
theorem lF_len (n : Nat) (f : Nat → Int) : (lF n f).length = n := by simp [lF]
theorem lF_at {n j : Nat} {f : Nat → Int} (h : j < n) : nth (lF n f) j = f j := by
  unfold nth lF
  rw [List.getElem?_map, List.getElem?_range h]
  rfl
theorem pow_le {n : Nat} (h : n ≤ 4) : 2 ^ n ≤ 16 := Nat.pow_le_pow_right (n := 2) (by omega) h
/-- What Pick picks, what At finds. -/
def pkN (c : Int) (n : Nat) : Nat := if c < 0 then ((-(c + 1)) % (n : Int)).toNat else (c % (n : Int)).toNat
theorem pkN_lt (c : Int) {n : Nat} (hn : 0 < n) : pkN c n < n := by
  unfold pkN
  by_cases h : c < 0
  · rw [if_pos h]
    have := Int.emod_lt_of_pos (-(c + 1)) (show (0 : Int) < n by omega)
    have := Int.emod_nonneg (-(c + 1)) (show (n : Int) ≠ 0 by omega)
    omega
  · rw [if_neg h]
    have := Int.emod_lt_of_pos c (show (0 : Int) < n by omega)
    have := Int.emod_nonneg c (show (n : Int) ≠ 0 by omega)
    omega
set_option maxHeartbeats 400000 in
theorem pick_val (c : Int) (n : Nat) (hc : InR c) (hn : 0 < n) (hm : n ≤ 3000) (w : World) :
    Calls Try.prog 17 #[.int .i64 c, .int .i64 n] w fun e w' => e = .returned (.int .i64 (pkN c n)) ∧ w' = w := by
  obtain ⟨h1, h2⟩ := hc
  have hnz : ((n : Int) == 0) = false := by simp; omega
  by_cases hneg : c < 0
  · have HP : Hid (pkN c n = ((-(c + 1)) % (n : Int)).toNat) := if_pos hneg
    go_enter Try.func17, Try.ntmps17
    go_wp2
    go_ret
    refine ⟨ret_int ?_, rfl⟩
    rw [unhide HP]
    have h0 := Int.emod_nonneg (-(c + 1)) (show (n : Int) ≠ 0 by omega)
    rw [← Int.neg_tmod, Int.tmod_eq_emod_of_nonneg (by omega)]
    omega
  · have HP : Hid (pkN c n = (c % (n : Int)).toNat) := if_neg hneg
    go_enter Try.func17, Try.ntmps17
    go_wp2
    go_ret
    refine ⟨ret_int ?_, rfl⟩
    rw [unhide HP]
    have h0 := Int.emod_nonneg c (show (n : Int) ≠ 0 by omega)
    omega
def atV (l : List Int) (k : Nat) : Int := if l.length = 0 then 0 else l[k % l.length]?.getD 0
theorem atV_in {l : List Int} (h : ∀ x ∈ l, InR x) (k : Nat) : InR (atV l k) := by
  unfold atV
  by_cases e : l.length = 0
  · rw [if_pos e]; exact ⟨by omega, by omega⟩
  · rw [if_neg e, List.getElem?_eq_getElem (Nat.mod_lt _ (by omega))]
    exact h _ (by simp)
theorem at_val (a : Option Addr) (n c : Nat) (l : List Int) (k : Nat) (w : World) (h : Ints w a n c l) (hk : k ≤ 1000) (hn : n ≤ 256) :
    Calls Try.prog 19 #[.slice a n c, .int .i64 k] w fun e w' => e = .returned (.int .i64 (atV l k)) ∧ w' = w := by
  obtain ⟨hl, hc, hm, h⟩ := h
  unfold maxLen at hm
  by_cases hz : n = 0
  · have HV : Hid (atV l k = 0) := by show _ = _; unfold atV; rw [if_pos (by omega)]
    subst hz
    go_enter Try.func19, Try.ntmps19
    go_wp2
    go_ret
    exact ⟨ret_int (unhide HV).symm, rfl⟩
  · obtain ⟨b, off, rfl, hb, hcell⟩ := h.resolve_left hz
    have hnz : ((n : Int) == 0) = false := by simp; omega
    have hlt : k % n < n := Nat.mod_lt _ (by omega)
    have hck := hcell (k % n) hlt
    have HV : Hid (atV l k = l[k % n]?.getD 0) := by show _ = _; unfold atV; rw [if_neg (by omega), hl]
    have HL : Hid (n = l.length) := hl
    clear hl hcell h
    generalize l[k % n]?.getD 0 = y at *
    go_enter Try.func19, Try.ntmps19
    go_wp2
    go_ret
    exact ⟨ret_int (unhide HV).symm, rfl⟩
/-- Is one in a set? -/
def hs (s i : Nat) : Bool := decide (s / 2 ^ i % 2 = 1)
theorem rem2 {q P : Nat} (hq : q < 16) : (wrap64 ((q : Int) / (P : Int))).tmod 2 = ((q / P % 2 : Nat) : Int) := by
  have e1 : (q : Int) / (P : Int) = ((q / P : Nat) : Int) := by simp
  have hq : q / P < 16 := Nat.lt_of_le_of_lt (Nat.div_le_self _ _) hq
  rw [e1]
  generalize q / P = x at *
  rw [wrap64_in (x : Int) (by omega) (by omega), Int.tmod_eq_emod_of_nonneg (by omega)]
  simp
theorem rem_yes {q i P : Nat} (hP : P = 2 ^ i) (hq : q < 16) (h : hs q i = true) : (wrap64 ((q : Int) / (P : Int))).tmod 2 = 1 := by
  rw [rem2 hq, hP]
  have : q / 2 ^ i % 2 = 1 := by unfold hs at h; simpa using h
  rw [this]; rfl
theorem rem_no {q i P : Nat} (hP : P = 2 ^ i) (hq : q < 16) (h : hs q i = false) : (wrap64 ((q : Int) / (P : Int))).tmod 2 = 0 := by
  rw [rem2 hq, hP]
  have : ¬ q / 2 ^ i % 2 = 1 := by unfold hs at h; simpa using h
  have : q / 2 ^ i % 2 = 0 := by omega
  rw [this]; rfl
/-- One int more at a row's end: in its own block, or in a new one. -/
theorem run_append_int1 (w : World) (ty : TypeId) (base : Nat) (v : Value) (n : Nat) (xs : List Int) (hown : w.ownsRow base 3 1 v n (intVals xs)) (g c : Nat) (s : Int) (hc : w.cell? ⟨g, 0, none⟩ = some (.int .i64 s))
    (hsm : n ≤ 100000) (hbase : base ≤ w.heap.size) :
    ∃ v' w', (Builtin.append_ #[25, 25] ty #[v, .slice (some ⟨g, 0, none⟩) 1 c]).run Try.prog w = .ok v' w' ∧ w'.ownsRow base 3 1 v' (n + 1) (intVals (xs ++ [s])) ∧ w.grownBy w' v.ownBlock ∧ ((∃ g cap, v = .slice (some ⟨g, 0, none⟩) n cap ∧ v' = .slice (some ⟨g, 0, none⟩) (n + 1) cap) ∨ (v'.ownBlock = some w.heap.size ∧ Below w.heap.size w w')) := by
  obtain ⟨i0, hi, hz0, hz1, hz2⟩ := info_parts info3
  have hnews : ∀ j u, (intVals [s])[j]? = some u → w.cell? ((⟨g, 0, none⟩ : Addr).add j) = some u := by
    intro j u hu
    cases j with
    | zero => simp [intVals] at hu; subst hu; simpa [Addr.add] using hc
    | succ j => simp [intVals] at hu
  have hone : ∀ u ∈ intVals [s], u.oneCell' = true := fun u hu => by simp [intVals] at hu; subst hu; rfl
  obtain ⟨v', w', hr, ho, hg, _⟩ := run_append_own (P := Try.prog) w base 25 ty 3 i0 _ 1 8 Try.underlying25 hi hz0 hz1 hz2 rfl (by decide) v n (intVals xs) hown ⟨g, 0, none⟩ 1 c (intVals [s]) rfl hnews hone (by unfold maxLen; omega) (by omega) hbase
  refine ⟨v', w', hr, by rw [intVals_append]; exact ho, hg, ?_⟩
  rcases hown.2 with ⟨rfl, rfl⟩ | ⟨g', cap, cur, rfl, hbg, hgg, hnc, hcm, hcs, htake⟩
  · have hr2 := run_append_nil (P := Try.prog) w 25 ty 3 i0 _ Try.underlying25 hi hz0 ⟨g, 0, none⟩ 1 c (intVals [s]) (by rw [hz1]; rfl) hnews (by omega) (by omega) (by rw [hz2]; omega)
    rw [hr] at hr2
    injection hr2 with e1 e2
    rw [e1, e2]
    exact .inr ⟨rfl, (Below.refl _ w).drew.alloc (Nat.le_refl _) _⟩
  · by_cases hroom : n + 1 ≤ cap
    · have hr2 := run_append_room (P := Try.prog) w 25 ty 3 i0 Try.underlying25 hi g' n cap cur hgg ⟨g, 0, none⟩ 1 c (intVals [s]) (by rw [hz1]; rfl) hnews hone hroom (by rw [hz1, hcs]; simp [intVals]; omega)
      rw [hr] at hr2
      injection hr2 with e1 _
      rw [e1]
      exact .inl ⟨g', cap, rfl, rfl⟩
    · have holds : ∀ j u, (intVals xs)[j]? = some u → w.cell? ((⟨g', 0, none⟩ : Addr).add j) = some u := hown.cells (g := g') rfl
      have hr2 := run_append_grow (P := Try.prog) w 25 ty 3 i0 _ Try.underlying25 hi hz0 ⟨g', 0, none⟩ n cap (intVals xs) (by rw [hz1]; exact hown.1) holds ⟨g, 0, none⟩ 1 c (intVals [s]) (by rw [hz1]; rfl) hnews (by omega) (by omega) (by rw [hz2]; exact growslice_fits (by omega) (by omega))
      rw [hr] at hr2
      injection hr2 with e1 e2
      rw [e1, e2]
      exact .inr ⟨rfl, (Below.refl _ w).drew.alloc (Nat.le_refl _) _⟩
theorem step_append_int1 (w : World) {ops : Array Oper} {o : Oper} {a : Act} {K : Act → World → Prop} {Q : Exit → Act → World → Prop} {E : Prop} (hw : Region.wanted o (yielded ops a.tmps) = true) (sx x : Operand)
    (ho : o.op = .call { callee := .builtin .append, args := #[sx, x], argTypes := #[25, 25] })
    (base : Nat) (v : Value) (n : Nat) (xs : List Int) (hs : a.eval sx = v) (hown : w.ownsRow base 3 1 v n (intVals xs))
    (g c : Nat) (s : Int) (hx : a.eval x = .slice (some ⟨g, 0, none⟩) 1 c) (hc : w.cell? ⟨g, 0, none⟩ = some (.int .i64 s))
    (hsm : n ≤ 100000) (hbase : base ≤ w.heap.size)
    (hK : ∀ v' w', w'.ownsRow base 3 1 v' (n + 1) (intVals (xs ++ [s])) → w.grownBy w' v.ownBlock → ((∃ g cap, v = .slice (some ⟨g, 0, none⟩) n cap ∧ v' = .slice (some ⟨g, 0, none⟩) (n + 1) cap) ∨ (v'.ownBlock = some w.heap.size ∧ Below w.heap.size w w')) → K (a.put o.dst v') w') :
    if Region.wanted o (yielded ops a.tmps) = true then Oper.wp Try.prog o a w K Q else E := by
  rw [if_pos hw]
  obtain ⟨v', w', hr, h2, h3, h4⟩ := run_append_int1 w o.type base v n xs hown g c s hc hsm hbase
  unfold Oper.wp execOp
  simp only [ho, resolve, invoke, builtin, Sem.run_bind, Sem.run_pure, Result.andThen_ok, List.map_toArray, List.map_cons, List.map_nil, hs, hx, hr]
  exact hK v' w' h2 h3 h4
end Go.Proofs.Ytcannknicfnkdaa
