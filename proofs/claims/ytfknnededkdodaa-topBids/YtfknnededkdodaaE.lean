import Derived.Test.YtfknnededkdodaaD
namespace Go.Proofs.Ytfknnededkdodaa
open Go.RowKit
def iL (S : List Nat) : List Int := S.map (fun i : Nat => (i : Int))
theorem upL_iL (n : Nat) : upL n = iL (List.range n) := rfl
theorem iL_len (S : List Nat) : (iL S).length = S.length := by simp [iL]
theorem iL_at {S : List Nat} {k : Nat} (h : k < S.length) : (iL S)[k]?.getD 0 = ((S[k]?.getD 0 : Nat) : Int) := by
  unfold iL
  rw [List.getElem?_map, List.getElem?_eq_getElem h]
  rfl
theorem iL_append (S T : List Nat) : iL (S ++ T) = iL S ++ iL T := by simp [iL]
/-- Who stays at a price. -/
def stN (v : Nat → Int) (n : Nat) (p : Int) : List Nat := (List.range n).filter (fun i => decide (p ≤ v i))
theorem stN_len (v : Nat → Int) (n : Nat) (p : Int) : (stN v n p).length ≤ n := by
  have := List.length_filter_le (fun i => decide (p ≤ v i)) (List.range n)
  rw [List.length_range] at this
  exact this
theorem mem_stN {v : Nat → Int} {n : Nat} {p : Int} {i : Nat} : i ∈ stN v n p ↔ i < n ∧ p ≤ v i := by simp [stN]
theorem stN_zero {v : Nat → Int} {n : Nat} (h : Bl n v) : stN v n 0 = List.range n := by
  unfold stN
  rw [List.filter_eq_self]
  intro a ha
  simpa using (h a (by simpa using ha)).1
theorem stN_next (v : Nat → Int) (n : Nat) (p : Int) : (stN v n p).filter (fun i => decide (p < v i)) = stN v n (p + 1) := by
  unfold stN
  rw [List.filter_filter]
  congr 1
  funext i
  by_cases h : p < v i
  · simp [h]; omega
  · simp [h]; omega
theorem stN_pair (v : Nat → Int) (n : Nat) (p : Int) : (stN v n p).Pairwise (· < ·) := List.Pairwise.filter _ List.pairwise_lt_range
theorem stN_head {v : Nat → Int} {n : Nat} {p : Int} {a : Nat} {t : List Nat} (h : stN v n p = a :: t) : a < n ∧ p ≤ v a ∧ ∀ j, j < a → v j < p := by
  have ha : a ∈ stN v n p := by rw [h]; exact List.mem_cons_self
  have h1 := mem_stN.1 ha
  refine ⟨h1.1, h1.2, fun j hj => ?_⟩
  rcases Int.lt_or_le (v j) p with h2 | h2
  · exact h2
  · exfalso
    have hm : j ∈ stN v n p := mem_stN.2 ⟨by omega, h2⟩
    have hp := stN_pair v n p
    rw [h] at hm hp
    rcases List.mem_cons.1 hm with h3 | h3
    · omega
    · have := (List.pairwise_cons.1 hp).1 j h3
      omega
theorem stN_two {v : Nat → Int} {n : Nat} {p : Int} (h : 2 ≤ (stN v n p).length) (q : Nat) : ∃ j, j < n ∧ j ≠ q ∧ p ≤ v j := by
  have hp := stN_pair v n p
  match e : stN v n p, h with
  | a :: b :: t, _ =>
    rw [e] at hp
    have hab := (List.pairwise_cons.1 hp).1 b List.mem_cons_self
    have ha := mem_stN.1 (show a ∈ stN v n p by rw [e]; exact List.mem_cons_self)
    have hb := mem_stN.1 (show b ∈ stN v n p by rw [e]; exact List.mem_cons_of_mem _ List.mem_cons_self)
    by_cases c : a = q
    · exact ⟨b, hb.1, by omega, hb.2⟩
    · exact ⟨a, ha.1, c, ha.2⟩
theorem stN_none {v : Nat → Int} {n : Nat} {p : Int} (h : (stN v n p).length = 0) : ∀ j, j < n → v j < p := by
  intro j hj
  rcases Int.lt_or_le (v j) p with h2 | h2
  · exact h2
  · have := mem_stN.2 ⟨hj, h2⟩
    rw [List.length_eq_zero_iff.1 h] at this
    cases this
/-- One is left: it wins, at this price. -/
theorem clock_one {v : Nat → Int} {n : Nat} {p : Int} (h0 : 0 ≤ p) (hp : p = 0 ∨ 2 ≤ (stN v n p).length) (h1 : (stN v n (p + 1)).length = 1) :
    Win v n ((stN v n (p + 1))[0]?.getD 0) ∧ Sec v n ((stN v n (p + 1))[0]?.getD 0) p := by
  obtain ⟨a, ha⟩ := List.length_eq_one_iff.1 h1
  obtain ⟨b1, b2, b3⟩ := stN_head ha
  have ho : ∀ j, j < n → j ≠ a → v j ≤ p := fun j hj hne => by
    rcases Int.lt_or_le p (v j) with h2 | h2
    · have := mem_stN.2 (⟨hj, by omega⟩ : j < n ∧ p + 1 ≤ v j)
      rw [ha] at this
      exact absurd (List.mem_singleton.1 this) hne
    · exact h2
  rw [ha]
  show Win v n a ∧ Sec v n a p
  refine ⟨⟨b1, fun j hj => ?_, fun j hj => ?_⟩, h0, ?_, ho⟩
  · by_cases c : j = a
    · subst c; exact Int.le_refl _
    · have := ho j hj c; omega
  · have := ho j (by omega) (by omega); omega
  · rcases hp with hp | hp
    · exact .inl hp
    · obtain ⟨j, j1, j2, j3⟩ := stN_two hp a
      have := ho j j1 j2
      exact .inr ⟨j, j1, j2, by omega⟩
/-- None is left: the first one of those who stayed wins. -/
theorem clock_none {v : Nat → Int} {n : Nat} {p : Int} (h : Bl n v) (hn : 0 < n) (h0 : 0 ≤ p) (hp : p = 0 ∨ 2 ≤ (stN v n p).length) (h1 : (stN v n (p + 1)).length = 0) :
    0 < (stN v n p).length ∧ Win v n ((stN v n p)[0]?.getD 0) ∧ Sec v n ((stN v n p)[0]?.getD 0) p := by
  have hl : 0 < (stN v n p).length := by
    rcases hp with hp | hp
    · subst hp; rw [stN_zero h, List.length_range]; exact hn
    · omega
  have hA := stN_none h1
  match e : stN v n p, hl with
  | a :: t, _ =>
    obtain ⟨b1, b2, b3⟩ := stN_head e
    refine ⟨by simp, ?_⟩
    show Win v n a ∧ Sec v n a p
    have := hA a b1
    refine ⟨⟨b1, fun j hj => ?_, fun j hj => ?_⟩, h0, ?_, fun j hj _ => ?_⟩
    · have := hA j hj; omega
    · have := b3 j hj; omega
    · rcases hp with hp | hp
      · exact .inl hp
      · obtain ⟨j, j1, j2, j3⟩ := stN_two hp a
        have := hA j j1
        exact .inr ⟨j, j1, j2, by omega⟩
    · have := hA j hj; omega
/-- More are left: some bid is above the price. -/
theorem clock_more {v : Nat → Int} {n : Nat} {p : Int} (h : Bl n v) (h1 : 2 ≤ (stN v n (p + 1)).length) : p < 1000 := by
  obtain ⟨j, j1, _, j3⟩ := stN_two h1 n
  have := h j j1
  omega
theorem filter_take {S : List Nat} {P : Nat → Bool} {k : Nat} (h : k < S.length) : (S.take (k + 1)).filter P = (S.take k).filter P ++ (if P (S[k]?.getD 0) = true then [S[k]?.getD 0] else []) := by
  rw [List.take_add_one, List.filter_append, List.getElem?_eq_getElem h]
  simp only [Option.toList, Option.getD_some]
  congr 1
  by_cases hp : P S[k] = true
  · simp [hp]
  · simp [hp]
theorem filter_take_len (S : List Nat) (P : Nat → Bool) (k : Nat) : ((S.take k).filter P).length ≤ S.length := by
  have h1 := List.length_filter_le P (S.take k)
  have h2 : (S.take k).length ≤ S.length := by rw [List.length_take]; omega
  omega
set_option maxRecDepth 100000 in
set_option maxHeartbeats 1000000 in
theorem above_any (la : Option Addr) (n lc : Nat) (l : List Int) (sa : Option Addr) (m sc : Nat) (S : List Nat) (p : Int) (w : World) (h : Ints w la n lc l) (hS : Ints w sa m sc (iL S)) (hr : ∀ i ∈ S, i < n) (hm : m ≤ 1000) :
    Calls Try.prog 21 #[.slice la n lc, .slice sa m sc, .int .i64 p] w fun e w' => ∃ v', e = .returned v' ∧ w'.ownsRow w.heap.size 3 1 v' (S.filter (fun i => decide (p < nth l i))).length (intVals (iL (S.filter (fun i => decide (p < nth l i))))) ∧ Below w.heap.size w w' := by
  have h1 := h.2.1
  have h2 := h.2.2.1
  have h3 := hS.2.1
  have h4 := hS.2.2.1
  unfold maxLen at h2 h4
  have hmS : m = S.length := by have := hS.1; rw [iL_len] at this; exact this
  have HCL : Hid (∀ W, Below w.heap.size w W → 0 < n → ∃ b off, la = some ⟨b, off, none⟩ ∧ b < w.heap.size ∧ ∀ j, j < n → W.cell? ⟨b, off + j, none⟩ = some (.int .i64 (nth l j))) := fun W hW hn => by
    obtain ⟨b, off, h1, h2, h3⟩ := h.nth hn
    exact ⟨b, off, h1, h2, fun j hj => by rw [hW.cell (p := ⟨b, off + j, none⟩) h2, h3 j hj]⟩
  have HCS : Hid (∀ W, Below w.heap.size w W → 0 < m → ∃ b off, sa = some ⟨b, off, none⟩ ∧ b < w.heap.size ∧ ∀ j, j < m → W.cell? ⟨b, off + j, none⟩ = some (.int .i64 ((S[j]?.getD 0 : Nat) : Int))) := fun W hW hn => by
    obtain ⟨b, off, h1, h2, h3⟩ := hS.cellAt hn
    exact ⟨b, off, h1, h2, fun j hj => by rw [hW.cell (p := ⟨b, off + j, none⟩) h2, h3 j hj, iL_at (by omega)]⟩
  have HR : Hid (∀ j, j < m → S[j]?.getD 0 < n) := fun j hj => hr _ (by rw [List.getElem?_eq_getElem (by omega)]; exact List.getElem_mem _)
  have HT : Hid (∀ k, k < m → (S.take (k + 1)).filter (fun i => decide (p < nth l i)) = (S.take k).filter (fun i => decide (p < nth l i)) ++ (if decide (p < nth l (S[k]?.getD 0)) = true then [S[k]?.getD 0] else [])) := fun k hk => filter_take (by omega)
  have HN : Hid (∀ k, ((S.take k).filter (fun i => decide (p < nth l i))).length ≤ m) := fun k => by rw [hmS]; exact filter_take_len _ _ _
  have HE : Hid (S.filter (fun i => decide (p < nth l i)) = (S.take m).filter (fun i => decide (p < nth l i))) := by
    show _ = _
    rw [hmS, List.take_length]
  rw [unhide HE]
  have HZ : Hid ((S.take 0).filter (fun i => decide (p < nth l i)) = []) := by show _ = _; simp
  clear h hS hr HE hmS
  generalize hF : (fun k : Nat => (S.take k).filter (fun i => decide (p < nth l i))) = F at *
  have hF2 : ∀ k : Nat, (S.take k).filter (fun i => decide (p < nth l i)) = F k := fun k => by rw [← hF]
  simp only [hF2] at HT HN HZ ⊢
  clear hF hF2
  generalize hx : (fun j : Nat => S[j]?.getD 0) = x at *
  have hx2 : ∀ j : Nat, S[j]?.getD 0 = x j := fun j => by rw [← hx]
  simp only [hx2] at HT HR HCS ⊢
  clear hx hx2
  go_enter Try.func21, Try.ntmps21
  go_wp2
  go_loopw [12, 7, 9] (fun i v _ wr => Below w.heap.size w wr ∧ ∃ k : Nat, k ≤ m ∧ i = .int .i64 k ∧ wr.ownsRow w.heap.size 3 1 v (F k).length (intVals (iL (F k)))) (fun i _ _ _ => m - (intOf i).toNat)
  case atStart => exact ⟨Below.refl _ _, 0, Nat.zero_le _, rfl, by rw [unhide HZ]; exact World.ownsRow_nil _ _ _ _⟩
  case round =>
    obtain ⟨hbr, k, hk, rfl, hown⟩ := hrel
    have HO := hide hown
    clear hown
    by_cases hlt : k < m
    · obtain ⟨b1, o1, hs1, hb1, hc1⟩ := unhide HCS wr hbr (by omega)
      subst hs1
      have hck := hc1 k hlt
      have hxn := unhide HR k hlt
      obtain ⟨b2, o2, hs2, hb2, hc2⟩ := unhide HCL wr hbr (by omega)
      subst hs2
      have hcl := hc2 (x k) hxn
      have HTk := hide (unhide HT k hlt)
      have hFn := unhide HN k
      clear hc1 hc2
      generalize nth l (x k) = y at *
      generalize x k = z at *
      by_cases hy : p < y
      · rw [if_pos (by simpa using hy)] at HTk
        go_wp2_with (at_builtin; refine wpList_append_int _ rfl _ _ rfl w.heap.size _ _ _ rfl ((unhide HO).alloc _) wr.heap.size (z : Int) rfl (by simp) (by omega) (by have := hbr.size; simp; omega) ?_; intro v2 w2 ho2 hg2)
        go_roundw
        case rel =>
          have hb5 := (((Below.refl w.heap.size wr).alloc hbr.size (.cells #[.int .i64 (z : Int)] 3)).grown hg2 (by have := hbr.size; simp; omega) (fun q hq => ((unhide HO).lt q hq).1))
          refine ⟨hbr.trans hb5, k+1, by omega, by go_num, ?_⟩
          rw [unhide HTk, iL_append, intVals_append, List.length_append]
          exact ho2
        case measure => simp [intOf]; omega
      · rw [if_neg (by simpa using hy), List.append_nil] at HTk
        go_wp2_with fail
        go_roundw
        case rel => exact ⟨hbr, k+1, by omega, by go_num, by rw [unhide HTk]; exact unhide HO⟩
        case measure => simp [intOf]; omega
    · obtain rfl : m = k := by omega
      go_wp2
      go_ret
      exact ⟨_, rfl, unhide HO, hbr⟩
end Go.Proofs.Ytfknnededkdodaa
