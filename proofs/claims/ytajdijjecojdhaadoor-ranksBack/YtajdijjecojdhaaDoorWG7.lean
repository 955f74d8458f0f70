import Derived.Test.YtajdijjecojdhaaDoorWG3
import Derived.Test.YtajdijjecojdhaaDoorWG4
import Derived.Lib.SpaceUEq
import Derived.Laws.RangeAny
import Derived.Lib.SplitLaws
namespace Go.Proofs.YtajdijjecojdhaaDoor
open Go.RowKit
theorem wpList_append_strz (w : World) {ops : Array Oper} {rest : List Oper} {o : Oper} {a : Act} {Q : Exit → Act → World → Prop} (hgd : o.guard = none) (s x : Operand)
    (ho : o.op = .call { callee := .builtin .append, args := #[s, x], argTypes := #[49, 49] })
    (base : Nat) (v : Value) (n : Nat) (xs : List Value) (hs : a.eval s = v) (hown : w.ownsRow base 9 1 v n xs)
    (g : Nat) (nm : ByteArray) (hx : a.eval x = .slice (some ⟨g, 0, none⟩) 1 1) (hc : w.cell? ⟨g, 0, none⟩ = some (.string nm))
    (hsm : n ≤ 1000000) (hbase : base ≤ w.heap.size)
    (hK : ∀ v' w', w'.ownsRow base 9 1 v' (n + 1) (xs ++ [.string nm]) → w.grownBy w' v.ownBlock → wpList Tryd.prog ops Q rest (a.put o.dst v') w') : wpList Tryd.prog ops Q (o :: rest) a w := by
  obtain ⟨i9, hi9, hz90, hz91, hz92⟩ := info_parts info9
  exact wpList_append_own w hgd s x 49 ho base 9 i9 _ 1 16 Tryd.underlying49 hi9 hz90 hz91 hz92 rfl (by decide) v n xs hs hown ⟨g, 0, none⟩ 1 1 [.string nm] hx rfl
    (fun j u hu => by
      cases j with
      | zero => simp at hu; subst hu; simpa [Addr.add] using hc
      | succ j => simp at hu)
    (fun u hu => by simp at hu; subst hu; rfl) (by unfold maxLen; omega) (by omega) hbase (fun v' w' h1 h2 _ => hK v' w' h1 h2)
def cutFuel (s : ByteArray) : Nat → Nat → Nat → List ByteArray
  | 0, last, _ => [s.extract last s.size]
  | f + 1, last, i => if (s[i]?.map (·.toNat)) = some 10 then s.extract last i :: cutFuel s f (i + 1) (i + 1) else cutFuel s f last (i + 1)
def cutFrom (s : ByteArray) (last i : Nat) : List ByteArray := cutFuel s (s.size - i) last i
theorem cutFrom_hit {s : ByteArray} {last i : Nat} (h : i < s.size) (e : s[i].toNat = 10) : cutFrom s last i = s.extract last i :: cutFrom s (i + 1) (i + 1) := by
  unfold cutFrom
  rw [show s.size - i = (s.size - (i + 1)) + 1 by omega, cutFuel, if_pos (by simp [h, e])]
theorem cutFrom_miss {s : ByteArray} {last i : Nat} (h : i < s.size) (e : ¬ s[i].toNat = 10) : cutFrom s last i = cutFrom s last (i + 1) := by
  unfold cutFrom
  rw [show s.size - i = (s.size - (i + 1)) + 1 by omega, cutFuel, if_neg (by simp [h, e])]
theorem cutFrom_end {s : ByteArray} {last i : Nat} (h : ¬ i < s.size) : cutFrom s last i = [s.extract last s.size] := by
  unfold cutFrom
  rw [show s.size - i = 0 by omega, cutFuel]
theorem cutFrom_length (s : ByteArray) : ∀ (f last i : Nat), (cutFuel s f last i).length ≤ f + 1
  | 0, _, _ => Nat.le_refl _
  | f + 1, last, i => by
    unfold cutFuel
    split
    · have := cutFrom_length s f (i + 1) (i + 1); simp only [List.length_cons]; omega
    · have := cutFrom_length s f last (i + 1); omega
def cutB (s : ByteArray) : List ByteArray := cutFrom s 0 0
set_option maxRecDepth 100000 in
set_option maxHeartbeats 4000000 in
theorem cutAt_any (s : ByteArray) (w : World) (hs : s.size ≤ 100000) :
    Calls Tryd.prog 31 #[.string s, .int .u8 10] w fun e w' => ∃ v, e = .returned v ∧ w'.ownsRow w.heap.size 9 1 v (cutB s).length ((cutB s).map Value.string) ∧ Below w.heap.size w w' := by
  go_enter Tryd.func31, Tryd.ntmps31
  go_wp2_with fail
  go_loopw [5, 6, 7] (fun v la i wr => Below w.heap.size w wr ∧ ∃ (xs : List ByteArray) (l k : Nat), k ≤ s.size ∧ l ≤ k ∧ xs.length ≤ k ∧ la = .int .i64 l ∧ i = .int .i64 k ∧ wr.ownsRow w.heap.size 9 1 v xs.length (xs.map Value.string) ∧ cutB s = xs ++ cutFrom s l k) (fun _ _ i _ => s.size - (intOf i).toNat)
  case atStart => exact ⟨Below.refl _ _, [], 0, 0, Nat.zero_le _, Nat.le_refl _, Nat.le_refl _, rfl, rfl, World.ownsRow_nil _ _ _ _, rfl⟩
  case round =>
    obtain ⟨hbr, xs, l, k, hk, hl, hx, rfl, rfl, hown, hn⟩ := hrel
    have HI := hide hn
    have HO := hide hown
    clear hn hown
    have hl0 : (0 : Int) ≤ (l : Int) := by omega
    have hlk : (l : Int) ≤ (k : Int) := by omega
    have hbs := hbr.size
    by_cases hlt : k < s.size
    · by_cases hc : (s[k].toNat : Int) = 10
      · have hc' : s[k].toNat = 10 := by omega
        have HC := hide (cutFrom_hit (last := l) hlt hc')
        clear hc'
        go_wp2_with (at_builtin; refine wpList_append_strz _ rfl _ _ rfl w.heap.size u5 xs.length (xs.map Value.string) rfl ((unhide HO).alloc _) wr.heap.size (s.extract l k) rfl (by simp) (by omega) (by simp; omega) ?_; intro v2 w2 ho2 hg2)
        have hb5 := (hbr.alloc hbs (.cells #[.string (s.extract l k)] 9)).grown hg2 (by simp; omega) (fun q hq => ((unhide HO).lt q hq).1)
        refine ⟨⟨hb5, xs ++ [s.extract l k], k+1, k+1, by omega, Nat.le_refl _, by simp; omega, by go_num, by go_num, ?_, ?_⟩, by simp [intOf]; omega⟩
        · simpa using ho2
        · rw [unhide HI, unhide HC]; simp
      · have hc' : ¬ s[k].toNat = 10 := by omega
        have HC := hide (cutFrom_miss (last := l) hlt hc')
        clear hc'
        go_wp2_with fail
        refine ⟨⟨hbr, xs, l, k+1, by omega, by omega, by omega, rfl, by go_num, unhide HO, ?_⟩, by simp [intOf]; omega⟩
        rw [unhide HI, unhide HC]
    · have HC := hide (cutFrom_end (last := l) hlt)
      obtain rfl : k = s.size := by omega
      go_wp2_with (at_builtin; refine wpList_append_strz _ rfl _ _ rfl w.heap.size u5 xs.length (xs.map Value.string) rfl ((unhide HO).alloc _) wr.heap.size (s.extract l s.size) rfl (by simp) (by omega) (by simp; omega) ?_; intro v2 w2 ho2 hg2)
      have hb5 := (hbr.alloc hbs (.cells #[.string (s.extract l s.size)] 9)).grown hg2 (by simp; omega) (fun q hq => ((unhide HO).lt q hq).1)
      go_ret
      refine ⟨_, rfl, ?_, hb5⟩
      rw [unhide HI, unhide HC]
      simpa using ho2
def blankB (b : UInt8) : Bool := decide (b.toNat = 32) || decide (b.toNat = 9)
/-- 'wordsOf' from place k on: the word that is being gathered begins at l. -/
def wofFuel (s : ByteArray) : Nat → Nat → Nat → List ByteArray
  | 0, l, _ => if l < s.size then [s.extract l s.size] else []
  | f + 1, l, k => if (s[k]?.map blankB) = some true then (if l < k then s.extract l k :: wofFuel s f (k + 1) (k + 1) else wofFuel s f (k + 1) (k + 1)) else wofFuel s f l (k + 1)
def wofFrom (s : ByteArray) (l k : Nat) : List ByteArray := wofFuel s (s.size - k) l k
theorem wofFrom_word {s : ByteArray} {l k : Nat} (h : k < s.size) (e : blankB s[k] = true) (hl : l < k) : wofFrom s l k = s.extract l k :: wofFrom s (k + 1) (k + 1) := by
  unfold wofFrom
  rw [show s.size - k = (s.size - (k + 1)) + 1 by omega, wofFuel, if_pos (by simp [h, e]), if_pos hl]
theorem wofFrom_blank {s : ByteArray} {l k : Nat} (h : k < s.size) (e : blankB s[k] = true) (hl : ¬ l < k) : wofFrom s l k = wofFrom s (k + 1) (k + 1) := by
  unfold wofFrom
  rw [show s.size - k = (s.size - (k + 1)) + 1 by omega, wofFuel, if_pos (by simp [h, e]), if_neg hl]
theorem wofFrom_on {s : ByteArray} {l k : Nat} (h : k < s.size) (e : blankB s[k] = false) : wofFrom s l k = wofFrom s l (k + 1) := by
  unfold wofFrom
  rw [show s.size - k = (s.size - (k + 1)) + 1 by omega, wofFuel, if_neg (by simp [h, e])]
theorem wofFrom_last {s : ByteArray} {l : Nat} (h : l < s.size) : wofFrom s l s.size = [s.extract l s.size] := by
  unfold wofFrom
  rw [Nat.sub_self, wofFuel, if_pos h]
theorem wofFrom_none {s : ByteArray} {l : Nat} (h : ¬ l < s.size) : wofFrom s l s.size = [] := by
  unfold wofFrom
  rw [Nat.sub_self, wofFuel, if_neg h]
def wofB (s : ByteArray) : List ByteArray := wofFrom s 0 0
end Go.Proofs.YtajdijjecojdhaaDoor
namespace Go.Proofs.YtajdijjecojdhaaDoor
open Go.RowKit
theorem ext_snoc (s : ByteArray) (l k : Nat) (hl : l ≤ k) (_hk : k < s.size) : s.extract l k ++ s.extract k (k + 1) = s.extract l (k + 1) := by
  rw [ByteArray.extract_append_extract]
  congr 1 <;> omega
theorem ext_empty (s : ByteArray) (l k : Nat) (h : ¬ l < k) : s.extract l k = ByteArray.empty := by
  apply ByteArray.ext
  simp
  omega
theorem ext_isEmpty (s : ByteArray) (l k : Nat) (hl : l < k) (hk : k ≤ s.size) : (s.extract l k).toList.isEmpty = false := by
  have h1 : (s.extract l k).toList.length = k - l := by rw [size_toList]; simp; omega
  cases h : (s.extract l k).toList with
  | nil => rw [h] at h1; simp at h1; omega
  | cons a t => rfl
theorem empty_isEmpty : ByteArray.empty.toList.isEmpty = true := by
  have h1 := size_toList ByteArray.empty
  cases h : ByteArray.empty.toList with
  | nil => rfl
  | cons a t => rw [h] at h1; simp at h1
theorem blankB_of {b : UInt8} (h : (b.toNat : Int) = 32 ∨ (b.toNat : Int) = 9) : blankB b = true := by
  unfold blankB
  rcases h with h | h
  · rw [decide_eq_true (show b.toNat = 32 by omega)]; rfl
  · rw [decide_eq_true (show b.toNat = 9 by omega), Bool.or_true]
theorem blankB_not {b : UInt8} (h1 : ¬ (b.toNat : Int) = 32) (h2 : ¬ (b.toNat : Int) = 9) : blankB b = false := by
  unfold blankB
  rw [decide_eq_false (show ¬ b.toNat = 32 by omega), decide_eq_false (show ¬ b.toNat = 9 by omega)]; rfl
set_option maxRecDepth 100000 in
set_option maxHeartbeats 4000000 in
theorem wordsOf_any (s : ByteArray) (w : World) (hs : s.size ≤ 100000) :
    Calls Tryd.prog 32 #[.string s] w fun e w' => ∃ v, e = .returned v ∧ w'.ownsRow w.heap.size 9 1 v (wofB s).length ((wofB s).map Value.string) ∧ Below w.heap.size w w' := by
  go_enter Tryd.func32, Tryd.ntmps32
  go_wp2_with fail
  go_loopw [3, 4, 5] (fun v x i wr => Below w.heap.size w wr ∧ ∃ (xs : List ByteArray) (l k : Nat) (y : ByteArray), k ≤ s.size + 1 ∧ l ≤ k ∧ xs.length ≤ k ∧ x = .string y ∧ i = .int .i64 k ∧ wr.ownsRow w.heap.size 9 1 v xs.length (xs.map Value.string) ∧ ((k ≤ s.size ∧ y = s.extract l k ∧ wofB s = xs ++ wofFrom s l k) ∨ (k = s.size + 1 ∧ wofB s = xs))) (fun _ _ i _ => s.size + 1 - (intOf i).toNat)
  case atStart => exact ⟨Below.refl _ _, [], 0, 0, ByteArray.empty, Nat.zero_le _, Nat.le_refl _, Nat.le_refl _, rfl, rfl, World.ownsRow_nil _ _ _ _, Or.inl ⟨Nat.zero_le _, (ext_empty s 0 0 (by omega)).symm, rfl⟩⟩
  case round =>
    obtain ⟨hbr, xs, l, k, y, hk, hl, hx, rfl, rfl, hown, hn⟩ := hrel
    have HO := hide hown
    clear hown
    have hbs := hbr.size
    rcases hn with ⟨hks, hy, hn⟩ | ⟨hks, hn⟩
    · have HI := hide hn
      have HY := hide hy
      clear hn hy
      have hsz : y.size ≤ 100000 := by rw [unhide HY]; have := size_extract s l k; omega
      by_cases hlt : k < s.size
      · have hne : ¬ (k : Int) = (s.size : Int) := by omega
        have hcat : (9223372036854775807 < y.size + (s.extract k (k + 1)).size) = False := eq_false (by have := size_extract s k (k+1); omega)
        have HSN := hide (ext_snoc s l k hl hlt)
        by_cases hb : (s[k].toNat : Int) = 32 ∨ (s[k].toNat : Int) = 9
        · have HB := hide (blankB_of hb)
          by_cases hlk : l < k
          · have hye : y.toList.isEmpty = false := by rw [unhide HY]; exact ext_isEmpty s l k hlk hks
            have HW := hide (wofFrom_word hlt (unhide HB) hlk)
            rcases hb with hb | hb
            · go_wp2_with (at_builtin; refine wpList_append_strz _ rfl _ _ rfl w.heap.size u3 xs.length (xs.map Value.string) rfl ((unhide HO).alloc _) wr.heap.size y rfl (by simp) (by omega) (by simp; omega) ?_; intro v2 w2 ho2 hg2)
              have hb5 := (hbr.alloc hbs (.cells #[.string y] 9)).grown hg2 (by simp; omega) (fun q hq => ((unhide HO).lt q hq).1)
              refine ⟨⟨hb5, xs ++ [y], k+1, k+1, _, by omega, Nat.le_refl _, by simp <;> omega, rfl, by go_num, by simpa using ho2, Or.inl ⟨by omega, (ext_empty s (k+1) (k+1) (by omega)).symm, ?_⟩⟩, by simp [intOf] <;> omega⟩
              rw [unhide HI, unhide HW, unhide HY]; simp
            · go_wp2_with (at_builtin; refine wpList_append_strz _ rfl _ _ rfl w.heap.size u3 xs.length (xs.map Value.string) rfl ((unhide HO).alloc _) wr.heap.size y rfl (by simp) (by omega) (by simp; omega) ?_; intro v2 w2 ho2 hg2)
              have hb5 := (hbr.alloc hbs (.cells #[.string y] 9)).grown hg2 (by simp; omega) (fun q hq => ((unhide HO).lt q hq).1)
              refine ⟨⟨hb5, xs ++ [y], k+1, k+1, _, by omega, Nat.le_refl _, by simp <;> omega, rfl, by go_num, by simpa using ho2, Or.inl ⟨by omega, (ext_empty s (k+1) (k+1) (by omega)).symm, ?_⟩⟩, by simp [intOf] <;> omega⟩
              rw [unhide HI, unhide HW, unhide HY]; simp
          · have hye : y.toList.isEmpty = true := by rw [unhide HY, ext_empty s l k hlk]; exact empty_isEmpty
            have HW := hide (wofFrom_blank hlt (unhide HB) hlk)
            rcases hb with hb | hb
            · go_wp2_with fail
              refine ⟨⟨hbr, xs, k+1, k+1, _, by omega, Nat.le_refl _, by omega, rfl, by go_num, unhide HO, Or.inl ⟨by omega, (ext_empty s (k+1) (k+1) (by omega)).symm, ?_⟩⟩, by simp [intOf] <;> omega⟩
              rw [unhide HI, unhide HW]
            · go_wp2_with fail
              refine ⟨⟨hbr, xs, k+1, k+1, _, by omega, Nat.le_refl _, by omega, rfl, by go_num, unhide HO, Or.inl ⟨by omega, (ext_empty s (k+1) (k+1) (by omega)).symm, ?_⟩⟩, by simp [intOf] <;> omega⟩
              rw [unhide HI, unhide HW]
        · have hb1 : ¬ (s[k].toNat : Int) = 32 := fun e => hb (Or.inl e)
          have hb2 : ¬ (s[k].toNat : Int) = 9 := fun e => hb (Or.inr e)
          have HW := hide (wofFrom_on (l := l) hlt (blankB_not hb1 hb2))
          clear hb
          have hb3 : ((s[k].toNat : Int) == 32) = false := by simpa using hb1
          have hb4 : ((s[k].toNat : Int) == 9) = false := by simpa using hb2
          go_wp2_with fail
          refine ⟨⟨hbr, xs, l, k+1, _, by omega, by omega, by omega, rfl, by go_num, unhide HO, Or.inl ⟨by omega, ?_, ?_⟩⟩, by simp [intOf] <;> omega⟩
          · rw [unhide HY, unhide HSN]
          · rw [unhide HI, unhide HW]
      · obtain rfl : k = s.size := by omega
        by_cases hlk : l < s.size
        · have hye : y.toList.isEmpty = false := by rw [unhide HY]; exact ext_isEmpty s l _ hlk hks
          have HW := hide (wofFrom_last hlk)
          go_wp2_with (at_builtin; refine wpList_append_strz _ rfl _ _ rfl w.heap.size u3 xs.length (xs.map Value.string) rfl ((unhide HO).alloc _) wr.heap.size y rfl (by simp) (by omega) (by simp; omega) ?_; intro v2 w2 ho2 hg2)
          have hb5 := (hbr.alloc hbs (.cells #[.string y] 9)).grown hg2 (by simp; omega) (fun q hq => ((unhide HO).lt q hq).1)
          refine ⟨⟨hb5, xs ++ [y], s.size+1, s.size+1, _, by omega, Nat.le_refl _, by simp <;> omega, rfl, by go_num, by simpa using ho2, Or.inr ⟨rfl, ?_⟩⟩, by simp [intOf] <;> omega⟩
          rw [unhide HI, unhide HW, unhide HY]
        · have hye : y.toList.isEmpty = true := by rw [unhide HY, ext_empty s l _ hlk]; exact empty_isEmpty
          have HW := hide (wofFrom_none hlk)
          go_wp2_with fail
          refine ⟨⟨hbr, xs, s.size+1, s.size+1, _, by omega, Nat.le_refl _, by omega, rfl, by go_num, unhide HO, Or.inr ⟨rfl, ?_⟩⟩, by simp [intOf] <;> omega⟩
          rw [unhide HI, unhide HW, List.append_nil]
    · have HI := hide hn
      subst hks
      go_wp2_with fail
      go_ret
      exact ⟨_, rfl, by rw [unhide HI]; exact unhide HO, hbr⟩
end Go.Proofs.YtajdijjecojdhaaDoor
namespace Go.Proofs.YtajdijjecojdhaaDoor
open Go.RowKit
theorem get_bang (s : ByteArray) (i : Nat) (h : i < s.size) : s.get! i = s[i] := by
  unfold ByteArray.get!
  simp [h]
  rfl
theorem dec_low (s : ByteArray) (p : Nat) (h : p < s.size) (hb : s[p].toNat < 128) : Utf8.decode s p = (s[p].toNat, 1) := by
  rw [Lib.decode_at, get_bang s p h, Lib.decodeN_ascii _ _ _ _ _ hb]
theorem dec_conts (s : ByteArray) (p : Nat) (h : p < s.size) (hb : 128 ≤ s[p].toNat) : p + (Utf8.decode s p).2 ≤ s.size ∧ ∀ j, p ≤ j → j < p + (Utf8.decode s p).2 → ∃ hj : j < s.size, 128 ≤ s[j].toNat := by
  have hc := Lib.decodeN_conts (s.size - p) (s.get! p).toNat (s.get! (p + 1)).toNat (s.get! (p + 2)).toNat (s.get! (p + 3)).toNat
  have hw := (decode_high s p h hb).2
  rw [← Lib.decode_at] at hc
  generalize (Utf8.decode s p).2 = m at *
  obtain ⟨h2, h3, h4, h5⟩ := hc
  refine ⟨by omega, fun j h6 h7 => ?_⟩
  have hj : j < s.size := by omega
  refine ⟨hj, ?_⟩
  by_cases e0 : j = p
  · subst e0; exact hb
  · by_cases e1 : j = p + 1
    · subst e1; have := (h2 (by omega)).1; rw [get_bang s _ hj] at this; omega
    · by_cases e2 : j = p + 2
      · subst e2; have := (h3 (by omega)).1; rw [get_bang s _ hj] at this; omega
      · have e3 : j = p + 3 := by omega
        subst e3; have := (h4 (by omega)).1; rw [get_bang s _ hj] at this; omega
theorem wof_skip (s : ByteArray) (l : Nat) : ∀ (m p : Nat), (∀ j, p ≤ j → j < p + m → ∃ hj : j < s.size, 128 ≤ s[j].toNat) → wofFrom s l p = wofFrom s l (p + m)
  | 0, p, _ => rfl
  | m + 1, p, h => by
    obtain ⟨hj, hb⟩ := h p (Nat.le_refl _) (by omega)
    rw [wofFrom_on hj (by unfold blankB; rw [decide_eq_false (by omega), decide_eq_false (by omega)]; rfl)]
    rw [wof_skip s l m (p + 1) (fun j h1 h2 => h j (by omega) (by omega))]
    congr 1
    omega
theorem blank_eq (b : UInt8) : blankR b.toNat = blankB b := rfl
theorem wof_spans (s : ByteArray) : ∀ (f p : Nat) (st : Option Nat) (acc : List (Nat × Nat)) (l : Nat), s.size ≤ p + f → p ≤ s.size → ((st = some l ∧ l < p) ∨ (st = none ∧ l = p)) →
    (Lib.closeSpans s (Lib.spansFromP blankR s f p st acc)).map (fun x => s.extract x.1 x.2) = acc.map (fun x => s.extract x.1 x.2) ++ wofFrom s l p
  | 0, p, st, acc, l, h1, h2, h3 => by
    obtain rfl : p = s.size := by omega
    unfold Lib.spansFromP Lib.closeSpans
    rcases h3 with ⟨rfl, h3⟩ | ⟨rfl, rfl⟩
    · simp [wofFrom_last h3]
    · simp [wofFrom_none (Nat.lt_irrefl _)]
  | f + 1, p, st, acc, l, h1, h2, h3 => by
    by_cases hlt : p < s.size
    · unfold Lib.spansFromP
      rw [if_pos hlt]
      by_cases hb : s[p].toNat < 128
      · rw [dec_low s p hlt hb]
        simp only []
        rw [blank_eq]
        cases hbl : blankB s[p] with
        | true =>
          rw [if_pos rfl]
          rcases h3 with ⟨rfl, h3⟩ | ⟨rfl, rfl⟩
          · simp only []
            rw [wof_spans s f (p + 1) none _ (p + 1) (by omega) (by omega) (Or.inr ⟨rfl, rfl⟩), wofFrom_word hlt hbl h3]
            simp
          · simp only []
            rw [wof_spans s f (l + 1) none _ (l + 1) (by omega) (by omega) (Or.inr ⟨rfl, rfl⟩), wofFrom_blank hlt hbl (Nat.lt_irrefl _)]
        | false =>
          rw [if_neg (by simp)]
          rcases h3 with ⟨rfl, h3⟩ | ⟨rfl, rfl⟩
          · simp only []
            rw [wof_spans s f (p + 1) (some l) _ l (by omega) (by omega) (Or.inl ⟨rfl, by omega⟩), wofFrom_on hlt hbl]
          · simp only []
            rw [wof_spans s f (l + 1) (some l) _ l (by omega) (by omega) (Or.inl ⟨rfl, by omega⟩), wofFrom_on hlt hbl]
      · have hb' : 128 ≤ s[p].toNat := by omega
        obtain ⟨g1, g2⟩ := decode_high s p hlt hb'
        obtain ⟨g3, g4⟩ := dec_conts s p hlt hb'
        have hk : blankR (Utf8.decode s p).1 = false := by unfold blankR; rw [decide_eq_false (by omega), decide_eq_false (by omega)]; rfl
        rw [if_neg (by rw [hk]; simp)]
        rcases h3 with ⟨rfl, h3⟩ | ⟨rfl, rfl⟩
        · simp only []
          rw [wof_spans s f _ (some l) _ l (by omega) g3 (Or.inl ⟨rfl, by omega⟩), wof_skip s l _ p g4]
        · simp only []
          rw [wof_spans s f _ (some l) _ l (by omega) g3 (Or.inl ⟨rfl, by omega⟩), wof_skip s l _ l g4]
    · obtain rfl : p = s.size := by omega
      rw [Lib.spansFromP_end _ _ _ _ _ _ hlt]
      unfold Lib.closeSpans
      rcases h3 with ⟨rfl, h3⟩ | ⟨rfl, rfl⟩
      · simp [wofFrom_last h3]
      · simp [wofFrom_none (Nat.lt_irrefl _)]
/-- The words by runes are the words by bytes. -/
theorem wordsB_eq (s : ByteArray) : wordsB s = wofB s := by
  unfold wordsB Lib.goFieldsP Lib.spansOfP wofB
  rw [wof_spans s s.size 0 none [] 0 (by omega) (Nat.zero_le _) (Or.inr ⟨rfl, rfl⟩)]
  simp
end Go.Proofs.YtajdijjecojdhaaDoor
namespace Go.Proofs.YtajdijjecojdhaaDoor
open Go.RowKit
theorem occ_one (l : List UInt8) (c : UInt8) (i : Nat) : Lib.occAt l [c] i = true ↔ l[i]? = some c := by
  unfold Lib.occAt
  rw [show l[i]? = (l.drop i)[0]? by simp]
  cases l.drop i with
  | nil => simp
  | cons a t => simp [List.isPrefixOf]; exact eq_comm
theorem data_get (s : ByteArray) (i : Nat) (h : i < s.size) : s.data.toList[i]? = some s[i] := by
  rw [List.getElem?_eq_getElem (by simpa using h)]; rfl
theorem cut_skip (s : ByteArray) (l : Nat) : ∀ (m p : Nat), p + m ≤ s.size → (∀ j (h : j < s.size), p ≤ j → j < p + m → ¬ s[j].toNat = 10) → cutFrom s l p = cutFrom s l (p + m)
  | 0, p, _, _ => rfl
  | m + 1, p, hs, h => by
    rw [cutFrom_miss (by omega) (h p (by omega) (Nat.le_refl _) (by omega)), cut_skip s l m (p + 1) (by omega) (fun j hj h1 h2 => h j hj (by omega) (by omega))]
    congr 1
    omega
theorem ext_get (s : ByteArray) (p i : Nat) (h : i < (s.extract p s.size).size) : (s.extract p s.size)[i] = s[p + i]'(by simp at h; omega) := by
  first
    | exact ByteArray.getElem_extract
    | exact ByteArray.getElem_extract ..
    | (simp only [ByteArray.getElem_eq_getElem_data, ByteArray.data_extract, Array.getElem_extract])
theorem split_cut (s : ByteArray) : ∀ (k p : Nat), p ≤ s.size → Lib.countB (s.extract p s.size) ⟨#[10]⟩ = k → Lib.splitB ⟨#[10]⟩ 0 k (s.extract p s.size) = cutFrom s p p := by
  intro k
  induction k with
  | zero =>
    intro p hp hk
    have hz : (s.extract p s.size).size = s.size - p := by simp
    rcases Lib.index_spec (s.extract p s.size).data.toList [10] with ⟨h1, h2⟩ | ⟨i, h1, h2, h3, h4⟩
    · rw [Lib.splitB_zero, cut_skip s p (s.size - p) p (by omega) ?_, show p + (s.size - p) = s.size by omega, cutFrom_end (Nat.lt_irrefl _)]
      intro j hj g1 g2 e
      have := h2 (j - p) (by simp; omega)
      have o := (occ_one (s.extract p s.size).data.toList 10 (j - p)).2 (by
        rw [data_get _ _ (by omega), ext_get s p _ (by omega)]
        congr 1
        apply UInt8.toNat_inj.1
        simp only [show p + (j - p) = j by omega]
        exact e)
      rw [this] at o
      cases o
    · have := Lib.countB_hit (s.extract p s.size) ⟨#[10]⟩ i (by decide) h1
      omega
  | succ k ih =>
    intro p hp hk
    have hz : (s.extract p s.size).size = s.size - p := by simp
    rcases Lib.index_spec (s.extract p s.size).data.toList [10] with ⟨h1, h2⟩ | ⟨i, h1, h2, h3, h4⟩
    · have := Lib.countB_miss (s.extract p s.size) ⟨#[10]⟩ h1
      omega
    · have hh := Lib.countB_hit (s.extract p s.size) ⟨#[10]⟩ i (by decide) h1
      have ho := (occ_one _ _ _).1 h3
      have hi : i < (s.extract p s.size).size := by
        rw [List.getElem?_eq_some_iff] at ho
        obtain ⟨q, _⟩ := ho
        simpa using q
      rw [data_get _ _ hi, ext_get s p i hi] at ho
      have ho' : s[p + i].toNat = 10 := by
        injection ho with ho
        rw [ho]; rfl
      have e1 : (s.extract p s.size).extract (i + (⟨#[10]⟩ : ByteArray).size) (s.extract p s.size).size = s.extract (p + i + 1) s.size := by
        rw [ByteArray.extract_extract]
        congr 1
        omega
      have e2 : (s.extract p s.size).extract 0 (i + 0) = s.extract p (p + i) := by
        rw [ByteArray.extract_extract]
        congr 1
        omega
      rw [Lib.splitB_hit _ _ _ _ i h1, e1, e2, ih (p + i + 1) (by omega) (by rw [← e1]; omega)]
      rw [cut_skip s p i p (by omega) ?_, cutFrom_hit (by omega) ho']
      intro j hj g1 g2 e
      have := h4 (j - p) (by omega)
      have o := (occ_one (s.extract p s.size).data.toList 10 (j - p)).2 (by
        rw [data_get _ _ (by omega), ext_get s p _ (by omega)]
        congr 1
        apply UInt8.toNat_inj.1
        simp only [show p + (j - p) = j by omega]
        exact e)
      rw [this] at o
      cases o
/-- The lines by Split are the lines by bytes. -/
theorem splitB_cutB (s : ByteArray) : Lib.splitB ⟨#[10]⟩ 0 (Lib.countB s ⟨#[10]⟩) s = cutB s := by
  have e : s.extract 0 s.size = s := by simp
  have := split_cut s (Lib.countB s ⟨#[10]⟩) 0 (Nat.zero_le _) (by rw [e])
  rw [e] at this
  exact this
end Go.Proofs.YtajdijjecojdhaaDoor
