import Derived.Test.YtbbbjpkomnhofaaProg
import Derived.WalkKit
import Derived.WalkSpells
import Derived.WalkLawsBesides
import Derived.BigQuiet
import Derived.Deep.QuietTactic
import Derived.Handy
import Derived.Deep.CutRange
import Derived.Lib.QuietBelow
import Derived.StillTailTactics
import Derived.Laws.CopyOwn
import Derived.Deep.RegionLaw
import Derived.Lib.AppendZerosOnto
import Derived.Deep.AppendLies
import Derived.Deep.Upon
import Derived.Lib.SliceRun
import Derived.Lib.Walk
import Derived.Deep.RegionWith
import Derived.Deep.RegionHeld3
import Derived.Laws.Rows
namespace Go.Proofs.Ytbbbjpkomnhofaa
open Go.RowKit
theorem ret_bool {a b : Bool} (h : a = b) : Ending.returned (.bool a) = .returned (.bool b) := by rw [h]
theorem ret_int {k : IntKind} {a b : Int} (h : a = b) : Ending.returned (.int k a) = .returned (.int k b) := by rw [h]
theorem hide {p : Prop} (h : p) : Hid p := h
theorem unhide {p : Prop} (h : Hid p) : p := h
/-- A slice of ints as it lies: nil or empty, or a row of cells. -/
def Ints (w : World) (a : Option Addr) (n c : Nat) (l : List Int) : Prop :=
  n = l.length ∧ n ≤ c ∧ c ≤ maxLen ∧ (n = 0 ∨ ∃ b off, a = some ⟨b, off, none⟩ ∧ b < w.heap.size ∧ ∀ j, j < n → w.cell? ⟨b, off + j, none⟩ = some (.int .i64 (l[j]?.getD 0)))
def idxFuel (l : List Int) (x : Int) : Nat → Nat → Int
  | 0, _ => -1
  | f + 1, k => if l[k]?.getD 0 = x then (k : Int) else idxFuel l x f (k + 1)
def idxFrom (l : List Int) (x : Int) (k : Nat) : Int := idxFuel l x (l.length - k) k
theorem idxFrom_step {l : List Int} {x : Int} {k : Nat} (h : k < l.length) : idxFrom l x k = if l[k]?.getD 0 = x then (k : Int) else idxFrom l x (k+1) := by
  unfold idxFrom
  rw [show l.length - k = (l.length - (k + 1)) + 1 by omega, idxFuel]
theorem idxFrom_yes {l : List Int} {x : Int} {k : Nat} (h : k < l.length) (e : l[k]?.getD 0 = x) : idxFrom l x k = k := by
  rw [idxFrom_step h, if_pos e]
theorem idxFrom_no {l : List Int} {x : Int} {k : Nat} (h : k < l.length) (e : ¬ l[k]?.getD 0 = x) : idxFrom l x k = idxFrom l x (k+1) := by
  rw [idxFrom_step h, if_neg e]
theorem idxFrom_end {l : List Int} {x : Int} {k : Nat} (h : ¬ k < l.length) : idxFrom l x k = -1 := by
  unfold idxFrom
  rw [show l.length - k = 0 by omega, idxFuel]
set_option maxHeartbeats 400000 in
theorem index_any (a : Option Addr) (n c : Nat) (l : List Int) (x : Int) (w : World) (h : Ints w a n c l) :
    Calls Try.prog 39 #[.slice a n c, .int .i64 x] w fun e w' => e = .returned (.int .i64 (idxFrom l x 0)) ∧ w' = w := by
  obtain ⟨hn, hc, hm, h⟩ := h
  unfold maxLen at hm
  rcases h with h0 | ⟨b, off, rfl, hb, hcell⟩
  · subst h0
    go_enter Try.func39, Try.ntmps39
    go_wp2
    refine wp_loop_rounds 1 ?_
    rw [rounds_succ]
    go_wp2
    go_ret
    exact ⟨ret_int (by rw [idxFrom_end (by omega)]), rfl⟩
  · have HN : Hid (n = l.length) := hn
    clear hn
    go_enter Try.func39, Try.ntmps39
    go_wp2
    go_loop [8, 5] (fun i _ => ∃ k : Nat, k ≤ n ∧ i = .int .i64 k ∧ idxFrom l x 0 = idxFrom l x k) (fun i _ => n - (intOf i).toNat)
    case atStart => exact ⟨0, Nat.zero_le _, rfl, rfl⟩
    case round =>
      obtain ⟨k, hk, rfl, hn⟩ := hrel
      have HI : Hid (idxFrom l x 0 = idxFrom l x k) := hn
      clear hn
      by_cases hlt : k < n
      · have hck := hcell k hlt
        go_wp2
        · go_ret
          refine ⟨ret_int ?_, rfl⟩
          rw [HI.out]; exact (idxFrom_yes (by have := HN.out; omega) (by simp_all)).symm
        · refine ⟨⟨k+1, by omega, by go_num, ?_⟩, by simp [intOf]; omega⟩
          rw [HI.out]; exact idxFrom_no (by have := HN.out; omega) (fun e => by simp_all)
      · go_wp2
        go_ret
        exact ⟨ret_int (by rw [HI.out, idxFrom_end (by have := HN.out; omega)]), rfl⟩
theorem contains_any (a : Option Addr) (n c : Nat) (l : List Int) (x : Int) (w : World) (h : Ints w a n c l) :
    Calls Try.prog 31 #[.slice a n c, .int .i64 x] w fun e w' => e = .returned (.bool (decide (0 ≤ idxFrom l x 0))) ∧ w' = w := by
  go_enter Try.func31, Try.ntmps31
  go_wp2_with (go_at_call 39; refine (index_any _ _ _ l _ _ h).mono ?_; rintro e w' ⟨rfl, rfl⟩)
  go_ret
  exact ⟨rfl, rfl⟩
theorem Ints.later {w w' : World} {a : Option Addr} {n c : Nat} {l : List Int} (h : Ints w a n c l) (hb : Below w.heap.size w w') : Ints w' a n c l := by
  obtain ⟨hn, hc, hm, h⟩ := h
  refine ⟨hn, hc, hm, ?_⟩
  rcases h with h0 | ⟨b, off, rfl, hlt, hcell⟩
  · exact Or.inl h0
  · exact Or.inr ⟨b, off, rfl, Nat.lt_of_lt_of_le hlt hb.size, fun j hj => (hb.cell (p := ⟨b, off + j, none⟩) hlt).trans (hcell j hj)⟩
theorem idxFrom_spec (l : List Int) (x : Int) : ∀ d k, l.length - k = d → (idxFrom l x k = -1 ∧ ∀ i, k ≤ i → i < l.length → ¬ l[i]?.getD 0 = x) ∨ (∃ m : Nat, k ≤ m ∧ m < l.length ∧ l[m]?.getD 0 = x ∧ idxFrom l x k = m ∧ ∀ i, k ≤ i → i < m → ¬ l[i]?.getD 0 = x) := by
  intro d
  induction d with
  | zero =>
    intro k hk
    exact Or.inl ⟨idxFrom_end (by omega), fun i h1 h2 => by omega⟩
  | succ d ih =>
    intro k hk
    by_cases he : l[k]?.getD 0 = x
    · exact Or.inr ⟨k, Nat.le_refl _, by omega, he, idxFrom_yes (by omega) he, fun i h1 h2 => by omega⟩
    · rw [idxFrom_no (by omega) he]
      rcases ih (k+1) (by omega) with ⟨h1, h2⟩ | ⟨m, h1, h2, h3, h4, h5⟩
      · refine Or.inl ⟨h1, fun i hi hl => ?_⟩
        by_cases e : i = k
        · rw [e]; exact he
        · exact h2 i (by omega) hl
      · refine Or.inr ⟨m, by omega, h2, h3, h4, fun i hi hl => ?_⟩
        by_cases e : i = k
        · rw [e]; exact he
        · exact h5 i (by omega) hl
theorem take_at (l : List Int) {k i : Nat} (h : i < k) : (l.take k)[i]?.getD 0 = l[i]?.getD 0 := by rw [List.getElem?_take, if_pos h]
/-- Named already: among the earlier ones, or its first place is ahead. -/
theorem idx_take (l : List Int) (k : Nat) (h : k < l.length) : 0 ≤ idxFrom (l.take k) (l[k]?.getD 0) 0 ↔ idxFrom l (l[k]?.getD 0) 0 < k := by
  have hl : (l.take k).length = k := by simp; omega
  rcases idxFrom_spec l (l[k]?.getD 0) _ 0 rfl with ⟨h1, h2⟩ | ⟨m, _, h2, h3, h4, h5⟩
  · exact absurd rfl (h2 k (Nat.zero_le _) h)
  · rw [h4]
    rcases idxFrom_spec (l.take k) (l[k]?.getD 0) _ 0 rfl with ⟨g1, g2⟩ | ⟨q, _, g2, g3, g4, g5⟩
    · rw [g1]
      refine ⟨fun h => by omega, fun hm => ?_⟩
      have hm' : m < k := by omega
      exact absurd (by rw [take_at l hm']; exact h3) (g2 m (Nat.zero_le _) (by omega))
    · rw [g4]
      refine ⟨fun _ => ?_, fun _ => by omega⟩
      rw [hl] at g2
      rw [take_at l g2] at g3
      rcases Nat.lt_or_ge q m with h' | h'
      · exact absurd g3 (h5 q (Nat.zero_le _) h')
      · omega
def likesFuel (l : List Int) (others : Int) : Nat → Nat → Int
  | 0, _ => 0
  | f + 1, k => if l[k]?.getD 0 < 0 ∨ others ≤ l[k]?.getD 0 then 8 else if 0 ≤ idxFrom (l.take k) (l[k]?.getD 0) 0 then 6 else likesFuel l others f (k + 1)
def likesFrom (l : List Int) (others : Int) (k : Nat) : Int := likesFuel l others (l.length - k) k
theorem likesFrom_step {l : List Int} {o : Int} {k : Nat} (h : k < l.length) : likesFrom l o k = if l[k]?.getD 0 < 0 ∨ o ≤ l[k]?.getD 0 then 8 else if 0 ≤ idxFrom (l.take k) (l[k]?.getD 0) 0 then 6 else likesFrom l o (k+1) := by
  unfold likesFrom
  rw [show l.length - k = (l.length - (k + 1)) + 1 by omega, likesFuel]
theorem likesFrom_who {l : List Int} {o : Int} {k : Nat} (h : k < l.length) (e : l[k]?.getD 0 < 0 ∨ o ≤ l[k]?.getD 0) : likesFrom l o k = 8 := by
  rw [likesFrom_step h, if_pos e]
theorem likesFrom_dbl {l : List Int} {o : Int} {k : Nat} (h : k < l.length) (e : ¬ (l[k]?.getD 0 < 0 ∨ o ≤ l[k]?.getD 0)) (d : 0 ≤ idxFrom (l.take k) (l[k]?.getD 0) 0) : likesFrom l o k = 6 := by
  rw [likesFrom_step h, if_neg e, if_pos d]
theorem likesFrom_on {l : List Int} {o : Int} {k : Nat} (h : k < l.length) (e : ¬ (l[k]?.getD 0 < 0 ∨ o ≤ l[k]?.getD 0)) (d : ¬ 0 ≤ idxFrom (l.take k) (l[k]?.getD 0) 0) : likesFrom l o k = likesFrom l o (k+1) := by
  rw [likesFrom_step h, if_neg e, if_neg d]
theorem likesFrom_end {l : List Int} {o : Int} {k : Nat} (h : ¬ k < l.length) : likesFrom l o k = 0 := by
  unfold likesFrom
  rw [show l.length - k = 0 by omega, likesFuel]
/-- T1 of an order of n. -/
def ordE (l : List Int) (n : Int) : Int := if (l.length : Int) = n then likesFrom l n 0 else 7
theorem owns_drew {w : World} {B : Nat} {e : TypeId} {size : Nat} {v : Value} {n : Nat} {xs : List Value} (h : w.ownsRow B e size v n xs) : w.drew.ownsRow B e size v n xs := h
theorem owns_later {w w' : World} {B : Nat} {e : TypeId} {size : Nat} {v : Value} {n : Nat} {xs : List Value} (h : w.ownsRow B e size v n xs) (hb : Below w.heap.size w w') : w'.ownsRow B e size v n xs :=
  h.kept (row := none) ⟨hb.os, hb.tape, hb.output, hb.size, fun k hk _ => hb.block k hk⟩ (by cases hv : v.ownBlock <;> simp)
theorem below_drewN (B : Nat) (w : World) (n : Nat) : Below B w (w.drewN n) := ⟨rfl, rfl, rfl, Nat.le_refl _, fun _ _ => rfl⟩
theorem info3 : (Try.prog.info? 3).map (fun i => (i.zero, i.size, i.bytes)) = some (some (.int .i64 0), 1, 8) := by kernel_rfl
def intVals (l : List Int) : List Value := l.map (Value.int .i64)
theorem Ints.of_owns {w : World} {B : Nat} {v : Value} {n : Nat} {l : List Int} (h : w.ownsRow B 3 1 v n (intVals l)) (hn : n ≤ 1000) : ∃ a c, v = .slice a n c ∧ Ints w a n c l ∧ (n = 0 ∨ ∃ g, B ≤ g ∧ g < w.heap.size ∧ a = some ⟨g, 0, none⟩) := by
  have hl : l.length = n := by have := h.1; simp [intVals] at this; omega
  have h0 := h
  rcases h.2 with ⟨rfl, rfl⟩ | ⟨g, cap, cur, rfl, hbg, hgg, hnc, hcm, hcs, htake⟩
  · exact ⟨none, 0, rfl, ⟨hl.symm, Nat.le_refl _, by unfold maxLen; omega, .inl rfl⟩, .inl rfl⟩
  · by_cases hz : n = 0
    · exact ⟨_, cap, rfl, ⟨hl.symm, hnc, hcm, .inl hz⟩, .inl hz⟩
    · have hc0 : ∀ j, j < n → w.cell? ⟨g, 0 + j, none⟩ = some (.int .i64 (l[j]?.getD 0)) := fun j hj => by
        rw [Nat.zero_add, h0.cellAt j (by omega), intVals, List.getElem?_map, List.getElem?_eq_getElem (show j < l.length by omega)]
        simp
      have hlt : g < w.heap.size := World.block_lt_of_cell? w _ (hc0 0 (by omega))
      exact ⟨_, cap, rfl, ⟨hl.symm, hnc, hcm, .inr ⟨g, 0, rfl, hlt, hc0⟩⟩, .inr ⟨g, hbg, hlt, rfl⟩⟩
theorem Ints.cellAt {w : World} {a : Option Addr} {n c : Nat} {l : List Int} (h : Ints w a n c l) (hn : 0 < n) : ∃ b off, a = some ⟨b, off, none⟩ ∧ b < w.heap.size ∧ ∀ j, j < n → w.cell? ⟨b, off + j, none⟩ = some (.int .i64 (l[j]?.getD 0)) := by
  obtain ⟨_, _, _, h0 | ⟨b, off, rfl, hb, hcell⟩⟩ := h
  · omega
  · exact ⟨b, off, rfl, hb, hcell⟩
theorem intVals_len (l : List Int) : (intVals l).length = l.length := by simp [intVals]
theorem intVals_append (a b : List Int) : intVals (a ++ b) = intVals a ++ intVals b := by simp [intVals]
theorem intVals_at (l : List Int) (j : Nat) (h : j < l.length) : (intVals l)[j]? = some (.int .i64 (l[j]?.getD 0)) := by
  unfold intVals
  rw [List.getElem?_map, List.getElem?_eq_getElem h]
  rfl
def two (v : Value) (e : Int) : Value := .tuple #[v, .int .i64 e]
theorem run_append_ints (w : World) (ty : TypeId) (base : Nat) (v : Value) (n : Nat) (xs : List Int) (hown : w.ownsRow base 3 1 v n (intVals xs)) (a : Option Addr) (m c : Nat) (l : List Int) (h : Ints w a m c l)
    (hsm : n + m ≤ 1000) (hbase : base ≤ w.heap.size) :
    ∃ v' w', (Builtin.append_ #[22, 22] ty #[v, .slice a m c]).run Try.prog w = .ok v' w' ∧ w'.ownsRow base 3 1 v' (n + m) (intVals (xs ++ l)) ∧ w.grownBy w' v.ownBlock := by
  obtain ⟨i0, hi, hz0, hz1, hz2⟩ := info_parts info3
  have hl : l.length = m := h.1.symm
  by_cases hm : 0 < m
  · obtain ⟨b, off, rfl, hb, hcell⟩ := h.cellAt hm
    have hc2 : ∀ j u, (intVals l)[j]? = some u → w.cell? ((⟨b, off, none⟩ : Addr).add j) = some u := by
      intro j u hu
      have hj : j < l.length := by
        rcases Nat.lt_or_ge j l.length with h' | h'
        · exact h'
        · rw [List.getElem?_eq_none (by rw [intVals_len]; exact h')] at hu; cases hu
      rw [intVals_at l j hj] at hu
      cases hu
      have e : (⟨b, off, none⟩ : Addr).add j = ⟨b, off + j, none⟩ := by unfold Addr.add; split <;> simp_all
      rw [e]
      exact hcell j (by omega)
    obtain ⟨v', w', hr, ho, hg, _⟩ := run_append_own (P := Try.prog) w base 22 ty 3 i0 _ 1 8 Try.underlying22 hi hz0 hz1 hz2 rfl (by decide) v n (intVals xs) hown ⟨b, off, none⟩ m c (intVals l) (by rw [intVals_len, hl, Nat.mul_one]) hc2 (fun u hu => by unfold intVals at hu; obtain ⟨y, _, rfl⟩ := List.mem_map.1 hu; rfl) (by unfold maxLen; omega) (by omega) hbase
    exact ⟨v', w', hr, by rw [intVals_append]; exact ho, hg⟩
  · obtain rfl : m = 0 := by omega
    obtain rfl : l = [] := List.length_eq_zero_iff.1 hl
    have hs : Src Try.prog i0.size 22 (.slice a 0 c) 0 [] w := by
      cases a with
      | none => exact Src.ofNil w Try.underlying22 c
      | some ad => exact Src.ofSlice w Try.underlying22 ad 0 c [] (by simp) (by simp) (by simp)
    refine ⟨v, w, ?_, by simpa using hown, ⟨rfl, rfl, rfl, Nat.le_refl _, fun _ _ _ => rfl⟩⟩
    rcases hown.2 with ⟨rfl, rfl⟩ | ⟨g, cap, cur, rfl, _, _, hnc, _⟩
    · exact run_append_nothing w 22 22 ty 3 i0 Try.underlying22 hi none 0 0 (Nat.le_refl _) _ hs
    · exact run_append_nothing w 22 22 ty 3 i0 Try.underlying22 hi _ n cap hnc _ hs
theorem wpList_append_ints (w : World) {ops : Array Oper} {rest : List Oper} {o : Oper} {a : Act} {Q : Exit → Act → World → Prop} (hgd : o.guard = none) (s x : Operand)
    (ho : o.op = .call { callee := .builtin .append, args := #[s, x], argTypes := #[22, 22] })
    (base : Nat) (v : Value) (n : Nat) (xs : List Int) (hs : a.eval s = v) (hown : w.ownsRow base 3 1 v n (intVals xs))
    (ad : Option Addr) (m c : Nat) (l : List Int) (hx : a.eval x = .slice ad m c) (h : Ints w ad m c l)
    (hsm : n + m ≤ 1000) (hbase : base ≤ w.heap.size)
    (hK : ∀ v' w', w'.ownsRow base 3 1 v' (n + m) (intVals (xs ++ l)) → w.grownBy w' v.ownBlock → wpList Try.prog ops Q rest (a.put o.dst v') w') : wpList Try.prog ops Q (o :: rest) a w :=
  wpList_plain hgd fun _ hk => by
    obtain ⟨v', w', hr, h2, h3⟩ := run_append_ints w o.type base v n xs hown ad m c l h hsm hbase
    unfold Oper.wp execOp
    simp only [ho, resolve, invoke, builtin, Sem.run_bind, Sem.run_pure, Result.andThen_ok, List.map_toArray, List.map_cons, List.map_nil, hs, hx, hr]
    exact hk _ _ (hK v' w' h2 h3)
set_option maxRecDepth 100000 in
set_option maxHeartbeats 1000000 in
theorem clone_any (a : Option Addr) (n c : Nat) (l : List Int) (w : World) (h : Ints w a n c l) (hs : n ≤ 1000) :
    Calls Try.prog 43 #[.slice a n c] w fun e w' => ∃ v, e = .returned v ∧ w'.ownsRow w.heap.size 3 1 v n (intVals l) ∧ Below w.heap.size w w' := by
  cases a with
  | none =>
    have hz : n = 0 := by
      rcases h.2.2.2 with h0 | ⟨b, off, hh, _⟩
      · exact h0
      · cases hh
    have hl : l = [] := List.length_eq_zero_iff.1 (by have := h.1; omega)
    subst hz hl
    have hq : ∀ w, (binOp .eql 22 (.slice none 0 c) (.slice none 0 0)).run Try.prog w = .ok (.bool true) w := fun w => Lib.run_eql_slice_nil w 22 3 none 0 c 0 0 Try.underlying22
    go_enter Try.func43, Try.ntmps43
    go_wp2
    go_ret
    exact ⟨_, rfl, World.ownsRow_nil _ _ _ _, Below.refl _ _⟩
  | some ad =>
    have hb0 : Below w.heap.size w (w.alloc (.cells #[] 3)) := by go_grown
    have h1 := h.later hb0
    have hown0 : (w.alloc (.cells #[] 3)).ownsRow w.heap.size 3 1 (.slice (some ⟨w.heap.size, 0, none⟩) 0 0) 0 (intVals []) :=
      World.ownsRow_made (base := w.heap.size) (e := 3) (size := 1) w #[] 0 (Nat.le_refl _) (by unfold maxLen; omega) rfl
    have HO := hide hown0
    clear hown0
    have hq : ∀ w, (binOp .eql 22 (.slice (some ad) n c) (.slice none 0 0)).run Try.prog w = .ok (.bool false) w := fun w => Lib.run_eql_slice_nil w 22 3 (some ad) n c 0 0 Try.underlying22
    go_enter Try.func43, Try.ntmps43
    go_wp2_with (at_builtin; refine wpList_append_ints _ rfl _ _ rfl w.heap.size _ 0 [] rfl (unhide HO) (some ad) n c l rfl h1 (by omega) (by simp) ?_; intro v2 w2 ho2 hg2)
    go_ret
    have hb2 := ((Below.refl w.heap.size _).grown hg2 (by simp) (fun k hk => ((unhide HO).lt k hk).1))
    refine ⟨_, rfl, ?_, hb0.trans hb2⟩
    simpa using ho2
theorem quiet_skip {Pr : Program} {ops : Array Oper} {C : World → Prop} {Q : Act → Prop} {a : Act} {o : Oper} {rest : List Oper} (hw : Region.wanted o (yielded ops a.tmps) = false) (h : wpQuiet Pr ops C Q rest (a.put o.dst undef)) : wpQuiet Pr ops C Q (o :: rest) a := by
  unfold wpQuiet
  rw [if_neg (by rw [hw]; exact Bool.false_ne_true)]
  exact h
/-- An int of 64 bits. -/
def InR (c : Int) : Prop := -9223372036854775808 ≤ c ∧ c ≤ 9223372036854775807
theorem wrap_in (x : Int) (h1 : -9223372036854775808 ≤ x) (h2 : x ≤ 9223372036854775807) : IntKind.i64.wrap x = x := by
  rw [IntKind.wrap_i64]
  omega
theorem getD_mem {l : List Int} {k : Nat} (h : k < l.length) : l[k]?.getD 0 ∈ l := by
  rw [List.getElem?_eq_getElem h]
  exact List.getElem_mem h
theorem idx_at {l : List Int} (hn : l.Nodup) {i : Nat} (h : i < l.length) : idxFrom l (l[i]?.getD 0) 0 = i := by
  rcases idxFrom_spec l (l[i]?.getD 0) _ 0 rfl with ⟨_, h2⟩ | ⟨m, _, h2, h3, h4, _⟩
  · exact absurd rfl (h2 i (Nat.zero_le _) h)
  · rw [h4]
    rw [List.getElem?_eq_getElem h, List.getElem?_eq_getElem h2] at h3
    have := (List.getElem_inj hn (h₀ := h2) (h₁ := h)).1 h3
    omega
theorem idx_mem (l : List Int) (x : Int) : decide (0 ≤ idxFrom l x 0) = decide (x ∈ l) := by
  rcases idxFrom_spec l x _ 0 rfl with ⟨h1, h2⟩ | ⟨m, _, h2, h3, h4, _⟩
  · rw [decide_eq_false (by omega), decide_eq_false]
    intro h
    obtain ⟨i, hi, e⟩ := List.getElem_of_mem h
    exact h2 i (Nat.zero_le _) hi (by rw [List.getElem?_eq_getElem hi]; exact e)
  · rw [decide_eq_true (by omega), decide_eq_true]
    rw [List.getElem?_eq_getElem h2] at h3
    have : l[m] = x := h3
    rw [← this]
    exact List.getElem_mem h2
theorem idx_of {l : List Int} {x : Int} (h : x ∈ l) : ∃ i : Nat, i < l.length ∧ idxFrom l x 0 = i ∧ l[i]?.getD 0 = x := by
  rcases idxFrom_spec l x _ 0 rfl with ⟨_, h2⟩ | ⟨m, _, h2, h3, h4, _⟩
  · obtain ⟨i, hi, e⟩ := List.getElem_of_mem h
    exact absurd (by rw [List.getElem?_eq_getElem hi]; exact e) (h2 i (Nat.zero_le _) hi)
  · exact ⟨m, h2, h4, h3⟩
/-- No more numbers below n than n. -/
theorem len_le : ∀ (n : Nat) (l : List Nat), l.Nodup → (∀ x ∈ l, x < n) → l.length ≤ n := by
  intro n
  induction n with
  | zero =>
    intro l _ h
    cases l with
    | nil => simp
    | cons x r => exact absurd (h x (by simp)) (by omega)
  | succ n ih =>
    intro l hn h
    have h1 := ih (l.erase n) (hn.erase n) (fun x hx => by
      have h2 : x ∈ l := List.mem_of_mem_erase hx
      have h3 : x ≠ n := fun e => by subst e; exact (List.Nodup.mem_erase_iff hn).1 hx |>.1 rfl
      have := h x h2
      omega)
    by_cases c : n ∈ l
    · rw [List.length_erase_of_mem c] at h1; omega
    · rw [List.erase_of_not_mem c] at h1; omega
theorem likes_all {l : List Int} {o : Int} : ∀ d k, l.length - k = d → likesFrom l o k = 0 → ∀ j, k ≤ j → j < l.length → (0 ≤ l[j]?.getD 0 ∧ l[j]?.getD 0 < o) ∧ ¬ l[j]?.getD 0 ∈ l.take j := by
  intro d
  induction d with
  | zero => intro k hd _ j h1 h2; omega
  | succ d ih =>
    intro k hd h j h1 h2
    have hk : k < l.length := by omega
    by_cases c : l[k]?.getD 0 < 0 ∨ o ≤ l[k]?.getD 0
    · rw [likesFrom_who hk c] at h; omega
    · by_cases c2 : 0 ≤ idxFrom (l.take k) (l[k]?.getD 0) 0
      · rw [likesFrom_dbl hk c c2] at h; omega
      · rw [likesFrom_on hk c c2] at h
        by_cases e : j = k
        · subst e
          refine ⟨by omega, fun hm => c2 ?_⟩
          have := idx_mem (l.take j) (l[j]?.getD 0)
          rw [decide_eq_true hm] at this
          exact of_decide_eq_true this
        · exact ih (k + 1) (by omega) h j (by omega) h2
theorem likes_range {l : List Int} {o : Int} (h : likesFrom l o 0 = 0) : ∀ x ∈ l, 0 ≤ x ∧ x < o := by
  intro x hx
  obtain ⟨j, hj, e⟩ := List.getElem_of_mem hx
  have := (likes_all _ 0 rfl h j (Nat.zero_le _) hj).1
  rw [List.getElem?_eq_getElem hj] at this
  rw [← e]
  exact this
theorem likes_nodup {l : List Int} {o : Int} (h : likesFrom l o 0 = 0) : l.Nodup := by
  have go : ∀ k, k ≤ l.length → (l.take k).Nodup := by
    intro k
    induction k with
    | zero => intro _; simp
    | succ k ih =>
      intro hk
      rw [List.take_succ_eq_append_getElem (by omega), List.nodup_append]
      refine ⟨ih (by omega), by simp, fun a ha c hc e => ?_⟩
      simp at hc
      have := (likes_all _ 0 rfl h k (Nat.zero_le _) (by omega)).2
      rw [List.getElem?_eq_getElem (by omega)] at this
      refine this ?_
      show l[k] ∈ l.take k
      rw [← hc, ← e]
      exact ha
  have := go l.length (Nat.le_refl _)
  rwa [List.take_length] at this
theorem ord_range {l : List Int} {n : Nat} (h : ordE l n = 0) : ∀ x ∈ l, 0 ≤ x ∧ x < n := by
  unfold ordE at h
  by_cases c : (l.length : Int) = n
  · rw [if_pos c] at h; exact likes_range h
  · rw [if_neg c] at h; omega
theorem ord_nodup {l : List Int} {n : Nat} (h : ordE l n = 0) : l.Nodup := by
  unfold ordE at h
  by_cases c : (l.length : Int) = n
  · rw [if_pos c] at h; exact likes_nodup h
  · rw [if_neg c] at h; omega
/-- An order of n has them all. -/
theorem ord_all {l : List Int} {n : Nat} (h : ordE l n = 0) : ∀ k, k < n → (k : Int) ∈ l := by
  intro k hk
  unfold ordE at h
  by_cases c : (l.length : Int) = n
  · rw [if_pos c] at h
    have hr := likes_range h
    have hn := likes_nodup h
    by_cases hm : (k : Int) ∈ l
    · exact hm
    · exfalso
      have h1 := len_le n (k :: l.map Int.toNat) (by
        rw [List.nodup_cons]
        refine ⟨fun hk2 => ?_, ?_⟩
        · rw [List.mem_map] at hk2
          obtain ⟨x, hx, e⟩ := hk2
          have := hr x hx
          exact hm (by rw [← e, Int.toNat_of_nonneg this.1]; exact hx)
        · have h2 : (l.map Int.toNat).Pairwise (· ≠ ·) := by
            rw [List.pairwise_map]
            refine List.Pairwise.imp_of_mem (fun {a b} ha hb hab e => hab ?_) hn
            have h3 := hr a ha
            have h4 := hr b hb
            omega
          exact h2) (fun x hx => by
        rcases List.mem_cons.1 hx with rfl | hx
        · exact hk
        · rw [List.mem_map] at hx
          obtain ⟨y, hy, rfl⟩ := hx
          have := hr y hy
          omega)
      simp at h1
      omega
  · rw [if_neg c] at h; omega
theorem likes_zero {l : List Int} {o : Int} (hr : ∀ x ∈ l, 0 ≤ x ∧ x < o) (hn : l.Nodup) : ∀ d k, l.length - k = d → likesFrom l o k = 0 := by
  intro d
  induction d with
  | zero => intro k h; unfold likesFrom; rw [h]; rfl
  | succ d ih =>
    intro k h
    have hk : k < l.length := by omega
    have h1 := hr _ (getD_mem hk)
    rw [likesFrom_on hk (by omega) (fun h2 => ?_), ih (k + 1) (by omega)]
    rw [idx_take l k hk, idx_at hn hk] at h2
    omega
theorem ord_zero {l : List Int} {n : Nat} (hl : l.length = n) (hr : ∀ x ∈ l, 0 ≤ x ∧ x < n) (hn : l.Nodup) : ordE l n = 0 := by
  unfold ordE
  rw [if_pos (by omega)]
  exact likes_zero hr hn _ 0 rfl
end Go.Proofs.Ytbbbjpkomnhofaa
