import Derived.Test.YtihmbfapbkddeaaA
namespace Go.Proofs.Ytihmbfapbkddeaa
open Go.RowKit
def two (v : Value) (e : Int) : Value := .tuple #[v, .int .i64 e]
theorem intVals_len (l : List Int) : (intVals l).length = l.length := by simp [intVals]
theorem intVals_append (a b : List Int) : intVals (a ++ b) = intVals a ++ intVals b := by simp [intVals]
theorem intVals_at (l : List Int) (j : Nat) (h : j < l.length) : (intVals l)[j]? = some (.int .i64 (l[j]?.getD 0)) := by
  unfold intVals
  rw [List.getElem?_map, List.getElem?_eq_getElem h]
  rfl
theorem run_append_ints (w : World) (ty : TypeId) (base : Nat) (v : Value) (n : Nat) (xs : List Int) (hown : w.ownsRow base 3 1 v n (intVals xs)) (a : Option Addr) (m c : Nat) (l : List Int) (h : Ints w a m c l)
    (hsm : n + m ≤ 1000) (hbase : base ≤ w.heap.size) :
    ∃ v' w', (Builtin.append_ #[23, 23] ty #[v, .slice a m c]).run Try.prog w = .ok v' w' ∧ w'.ownsRow base 3 1 v' (n + m) (intVals (xs ++ l)) ∧ w.grownBy w' v.ownBlock := by
  obtain ⟨i0, hi, hz0, hz1, hz2⟩ := info_parts info3
  have hl : l.length = m := h.1.symm
  by_cases hm : 0 < m
  · obtain ⟨b, off, rfl, hb, hcell⟩ := h.cellAt hm
    have hc2 : ∀ j u, (intVals l)[j]? = some u → w.cell? ((⟨b, off, none⟩ : Addr).add j) = some u := by
      intro j u hu
      have hj : j < l.length := by
        rcases Nat.lt_or_ge j l.length with h' | h'
        · exact h'
        · rw [List.getElem?_eq_none (by rw [intVals_len]; exact h')] at hu; cases hu
      rw [intVals_at l j hj] at hu
      cases hu
      have e : (⟨b, off, none⟩ : Addr).add j = ⟨b, off + j, none⟩ := by unfold Addr.add; split <;> simp_all
      rw [e]
      exact hcell j (by omega)
    obtain ⟨v', w', hr, ho, hg, _⟩ := run_append_own (P := Try.prog) w base 23 ty 3 i0 _ 1 8 Try.underlying23 hi hz0 hz1 hz2 rfl (by decide) v n (intVals xs) hown ⟨b, off, none⟩ m c (intVals l) (by rw [intVals_len, hl, Nat.mul_one]) hc2 (fun u hu => by unfold intVals at hu; obtain ⟨y, _, rfl⟩ := List.mem_map.1 hu; rfl) (by unfold maxLen; omega) (by omega) hbase
    exact ⟨v', w', hr, by rw [intVals_append]; exact ho, hg⟩
  · obtain rfl : m = 0 := by omega
    obtain rfl : l = [] := List.length_eq_zero_iff.1 hl
    have hs : Src Try.prog i0.size 23 (.slice a 0 c) 0 [] w := by
      cases a with
      | none => exact Src.ofNil w Try.underlying23 c
      | some ad => exact Src.ofSlice w Try.underlying23 ad 0 c [] (by simp) (by simp) (by simp)
    refine ⟨v, w, ?_, by simpa using hown, ⟨rfl, rfl, rfl, Nat.le_refl _, fun _ _ _ => rfl⟩⟩
    rcases hown.2 with ⟨rfl, rfl⟩ | ⟨g, cap, cur, rfl, _, _, hnc, _⟩
    · exact run_append_nothing w 23 23 ty 3 i0 Try.underlying23 hi none 0 0 (Nat.le_refl _) _ hs
    · exact run_append_nothing w 23 23 ty 3 i0 Try.underlying23 hi _ n cap hnc _ hs
theorem wpList_append_ints (w : World) {ops : Array Oper} {rest : List Oper} {o : Oper} {a : Act} {Q : Exit → Act → World → Prop} (hgd : o.guard = none) (s x : Operand)
    (ho : o.op = .call { callee := .builtin .append, args := #[s, x], argTypes := #[23, 23] })
    (base : Nat) (v : Value) (n : Nat) (xs : List Int) (hs : a.eval s = v) (hown : w.ownsRow base 3 1 v n (intVals xs))
    (ad : Option Addr) (m c : Nat) (l : List Int) (hx : a.eval x = .slice ad m c) (h : Ints w ad m c l)
    (hsm : n + m ≤ 1000) (hbase : base ≤ w.heap.size)
    (hK : ∀ v' w', w'.ownsRow base 3 1 v' (n + m) (intVals (xs ++ l)) → w.grownBy w' v.ownBlock → wpList Try.prog ops Q rest (a.put o.dst v') w') : wpList Try.prog ops Q (o :: rest) a w :=
  wpList_plain hgd fun _ hk => by
    obtain ⟨v', w', hr, h2, h3⟩ := run_append_ints w o.type base v n xs hown ad m c l h hsm hbase
    unfold Oper.wp execOp
    simp only [ho, resolve, invoke, builtin, Sem.run_bind, Sem.run_pure, Result.andThen_ok, List.map_toArray, List.map_cons, List.map_nil, hs, hx, hr]
    exact hk _ _ (hK v' w' h2 h3)
set_option maxRecDepth 100000 in
set_option maxHeartbeats 1000000 in
theorem clone_any (a : Option Addr) (n c : Nat) (l : List Int) (w : World) (h : Ints w a n c l) (hs : n ≤ 1000) :
    Calls Try.prog 37 #[.slice a n c] w fun e w' => ∃ v, e = .returned v ∧ w'.ownsRow w.heap.size 3 1 v n (intVals l) ∧ Below w.heap.size w w' := by
  cases a with
  | none =>
    have hz : n = 0 := by
      rcases h.2.2.2 with h0 | ⟨b, off, hh, _⟩
      · exact h0
      · cases hh
    have hl : l = [] := List.length_eq_zero_iff.1 (by have := h.1; omega)
    subst hz hl
    have hq : ∀ w, (binOp .eql 23 (.slice none 0 c) (.slice none 0 0)).run Try.prog w = .ok (.bool true) w := fun w => Lib.run_eql_slice_nil w 23 3 none 0 c 0 0 Try.underlying23
    go_enter Try.func37, Try.ntmps37
    go_wp2
    go_ret
    exact ⟨_, rfl, World.ownsRow_nil _ _ _ _, Below.refl _ _⟩
  | some ad =>
    have hb0 : Below w.heap.size w (w.alloc (.cells #[] 3)) := by go_grown
    have h1 := h.later hb0
    have hown0 : (w.alloc (.cells #[] 3)).ownsRow w.heap.size 3 1 (.slice (some ⟨w.heap.size, 0, none⟩) 0 0) 0 (intVals []) :=
      World.ownsRow_made (base := w.heap.size) (e := 3) (size := 1) w #[] 0 (Nat.le_refl _) (by unfold maxLen; omega) rfl
    have HO := hide hown0
    clear hown0
    have hq : ∀ w, (binOp .eql 23 (.slice (some ad) n c) (.slice none 0 0)).run Try.prog w = .ok (.bool false) w := fun w => Lib.run_eql_slice_nil w 23 3 (some ad) n c 0 0 Try.underlying23
    go_enter Try.func37, Try.ntmps37
    go_wp2_with (at_builtin; refine wpList_append_ints _ rfl _ _ rfl w.heap.size _ 0 [] rfl (unhide HO) (some ad) n c l rfl h1 (by omega) (by simp) ?_; intro v2 w2 ho2 hg2)
    go_ret
    have hb2 := ((Below.refl w.heap.size _).grown hg2 (by simp) (fun k hk => ((unhide HO).lt k hk).1))
    refine ⟨_, rfl, ?_, hb0.trans hb2⟩
    simpa using ho2
/-- What the row that is being written reads as. -/
def Row (base : Nat) (W : World) (va : Option Addr) (n : Nat) (f : Nat → Int) : Prop :=
  n = 0 ∨ ∃ g, va = some ⟨g, 0, none⟩ ∧ base ≤ g ∧ g < W.heap.size ∧ (∀ j, j < n → W.cell? ⟨g, j, none⟩ = some (.int .i64 (f j))) ∧ (∀ j, j < n → W.frozen? ⟨g, j, none⟩ = false)
theorem Row.of_owns {W : World} {base : Nat} {v : Value} {n : Nat} {l : List Int} (h : W.ownsRow base 3 1 v n (intVals l)) :
    ∃ va cap, v = .slice va n cap ∧ n ≤ cap ∧ cap ≤ maxLen ∧ Row base W va n (fun j => l[j]?.getD 0) := by
  have hl : l.length = n := by have := h.1; rw [intVals_len] at this; omega
  have h0 := h
  rcases h.2 with ⟨rfl, rfl⟩ | ⟨g, cap, cur, rfl, hbg, hgg, hnc, hcm, hcs, htake⟩
  · exact ⟨none, 0, rfl, Nat.le_refl _, by unfold maxLen; omega, .inl rfl⟩
  · refine ⟨_, cap, rfl, hnc, hcm, .inr ⟨g, rfl, hbg, ?_, fun j hj => ?_, fun j hj => ?_⟩⟩
    · rcases Nat.lt_or_ge g W.heap.size with h' | h'
      · exact h'
      · rw [Array.getElem?_eq_none h'] at hgg; cases hgg
    · rw [h0.cellAt j (by omega), intVals_at l j (by omega)]
    · simp [World.frozen?, hgg]
theorem Row.later {base : Nat} {W W' : World} {va : Option Addr} {n : Nat} {f : Nat → Int} (h : Row base W va n f) (hb : Below W.heap.size W W') : Row base W' va n f := by
  rcases h with h | ⟨g, h1, h2, h3, h4, h5⟩
  · exact .inl h
  · exact .inr ⟨g, h1, h2, Nat.lt_of_lt_of_le h3 hb.size, fun j hj => (hb.cell (p := ⟨g, j, none⟩) h3).trans (h4 j hj), fun j hj => (hb.frozen (p := ⟨g, j, none⟩) h3).trans (h5 j hj)⟩
theorem Row.same {base : Nat} {W : World} {va : Option Addr} {n : Nat} {f f' : Nat → Int} (h : Row base W va n f) (e : ∀ j, j < n → f j = f' j) : Row base W va n f' := by
  rcases h with h | ⟨g, h1, h2, h3, h4, h5⟩
  · exact .inl h
  · exact .inr ⟨g, h1, h2, h3, fun j hj => by rw [h4 j hj, e j hj], h5⟩
theorem Row.ints {base : Nat} {W : World} {va : Option Addr} {n cap : Nat} {f : Nat → Int} {l : List Int} (h : Row base W va n f) (hl : n = l.length) (h1 : n ≤ cap) (h2 : cap ≤ maxLen) (e : ∀ j, j < n → f j = l[j]?.getD 0) : Ints W va n cap l := by
  refine ⟨hl, h1, h2, ?_⟩
  rcases h with h | ⟨g, h1, h2, h3, h4, h5⟩
  · exact .inl h
  · exact .inr ⟨g, 0, h1, h3, fun j hj => by rw [Nat.zero_add, h4 j hj, e j hj]⟩
theorem Row.set {base : Nat} {W : World} {g n k : Nat} {f f' : Nat → Int} {x : Int} (h : Row base W (some ⟨g, 0, none⟩) n f) (hk : k < n) (e : ∀ j, j < n → j ≠ k → f j = f' j) (ek : x = f' k) : Row base (W.setCell ⟨g, k, none⟩ (.int .i64 x)) (some ⟨g, 0, none⟩) n f' := by
  rcases h with h | ⟨g', h1, h2, h3, h4, h5⟩
  · omega
  · cases h1
    refine .inr ⟨g, rfl, h2, by simpa using h3, fun j hj => ?_, fun j hj => by rw [World.frozen?_setCell]; exact h5 j hj⟩
    by_cases hjk : j = k
    · subst hjk
      rw [World.cell?_setCell_same' W ⟨g, j, none⟩ _ (by rw [h4 j hj]; rfl), ek]
    · rw [World.cell?_setCell_other _ _ _ _ (by intro hh; cases hh; exact hjk rfl), h4 j hj, e j hj hjk]
def eqFuel (l m : List Int) : Nat → Nat → Bool
  | 0, _ => true
  | f + 1, k => decide (l[k]?.getD 0 = m[k]?.getD 0) && eqFuel l m f (k + 1)
def eqFrom (l m : List Int) (k : Nat) : Bool := eqFuel l m (l.length - k) k
theorem eqFrom_step {l m : List Int} {k : Nat} (h : k < l.length) : eqFrom l m k = (decide (l[k]?.getD 0 = m[k]?.getD 0) && eqFrom l m (k+1)) := by
  unfold eqFrom
  rw [show l.length - k = (l.length - (k + 1)) + 1 by omega, eqFuel]
theorem eqFrom_yes {l m : List Int} {k : Nat} (h : k < l.length) (e : l[k]?.getD 0 = m[k]?.getD 0) : eqFrom l m k = eqFrom l m (k+1) := by
  rw [eqFrom_step h, decide_eq_true e, Bool.true_and]
theorem eqFrom_no {l m : List Int} {k : Nat} (h : k < l.length) (e : ¬ l[k]?.getD 0 = m[k]?.getD 0) : eqFrom l m k = false := by
  rw [eqFrom_step h, decide_eq_false e, Bool.false_and]
theorem eqFrom_end {l m : List Int} {k : Nat} (h : ¬ k < l.length) : eqFrom l m k = true := by
  unfold eqFrom
  rw [show l.length - k = 0 by omega, eqFuel]
theorem eqFrom_all {l m : List Int} : ∀ (d k : Nat), l.length - k = d → eqFrom l m k = true → ∀ j, k ≤ j → j < l.length → l[j]?.getD 0 = m[j]?.getD 0
  | 0, k, hd, _, j, hj, hl => by omega
  | d + 1, k, hd, h, j, hj, hl => by
    have hk : k < l.length := by omega
    rw [eqFrom_step hk, Bool.and_eq_true, decide_eq_true_eq] at h
    by_cases e : j = k
    · rw [e]; exact h.1
    · exact eqFrom_all d (k + 1) (by omega) h.2 j (by omega) hl
theorem eqFrom_refl {l : List Int} : ∀ (d k : Nat), l.length - k = d → eqFrom l l k = true
  | 0, k, hd => eqFrom_end (by omega)
  | d + 1, k, hd => by rw [eqFrom_step (by omega), eqFrom_refl d (k + 1) (by omega)]; simp
theorem eqFrom_eq {l m : List Int} (hl : l.length = m.length) : eqFrom l m 0 = decide (l = m) := by
  by_cases e : l = m
  · subst e; rw [eqFrom_refl _ 0 rfl]; simp
  · rw [decide_eq_false e]
    cases h : eqFrom l m 0 with
    | false => rfl
    | true =>
      refine absurd ?_ e
      refine List.ext_getElem hl fun j h1 h2 => ?_
      have := eqFrom_all _ 0 rfl h j (Nat.zero_le _) h1
      simpa [h1, h2] using this
set_option maxHeartbeats 1000000 in
theorem sameInts_any (a a' : Option Addr) (n c n' c' : Nat) (l m : List Int) (w : World) (h : Ints w a n c l) (h' : Ints w a' n' c' m) :
    Calls Try.prog 12 #[.slice a n c, .slice a' n' c'] w fun e w' => e = .returned (.bool (decide (l = m))) ∧ Below w.heap.size w w' := by
  obtain ⟨hn, hc, hm, h⟩ := h
  obtain ⟨hn', hc', hm', h'⟩ := h'
  unfold maxLen at hm hm'
  have HN : Hid (n = l.length) := hn
  have HN' : Hid (n' = m.length) := hn'
  clear hn hn'
  by_cases hnn : n = n'
  · subst hnn
    have HL : Hid (decide (l = m) = eqFrom l m 0) := (eqFrom_eq (HN.out.symm.trans HN'.out)).symm
    rcases h with h0 | ⟨b, off, rfl, hb, hcell⟩
    · subst h0
      go_enter Try.func12, Try.ntmps12
      go_wp2
      refine wp_loop_rounds 1 ?_
      rw [rounds_succ]
      go_wp2
      go_ret
      exact ⟨ret_bool (by rw [HL.out, eqFrom_end (by have := HN.out; omega)]), Below.refl _ _⟩
    · rcases h' with h0 | ⟨b', off', rfl, hb', hcell'⟩
      · subst h0
        go_enter Try.func12, Try.ntmps12
        go_wp2
        refine wp_loop_rounds 1 ?_
        rw [rounds_succ]
        go_wp2
        go_ret
        exact ⟨ret_bool (by rw [HL.out, eqFrom_end (by have := HN.out; omega)]), Below.refl _ _⟩
      · go_enter Try.func12, Try.ntmps12
        go_wp2
        go_loopw [5] (fun i wr => Below w.heap.size w wr ∧ ∃ k : Nat, k ≤ n ∧ i = .int .i64 k ∧ eqFrom l m 0 = eqFrom l m k) (fun i _ => n - (intOf i).toNat)
        case atStart => exact ⟨Below.refl _ _, 0, Nat.zero_le _, rfl, rfl⟩
        case round =>
          obtain ⟨hbr, k, hk, rfl, hn⟩ := hrel
          have HI : Hid (eqFrom l m 0 = eqFrom l m k) := hn
          clear hn
          by_cases hlt : k < n
          · have hck := (hbr.cell (p := ⟨b, off + k, none⟩) hb).trans (hcell k hlt)
            have hck' := (hbr.cell (p := ⟨b', off' + k, none⟩) hb').trans (hcell' k hlt)
            clear hcell hcell'
            by_cases q : l[k]?.getD 0 = m[k]?.getD 0
            · have HQ : Hid (l[k]?.getD 0 = m[k]?.getD 0) := q
              rw [← q] at hck'
              clear q
              go_wp2
              go_quiet (fail)
              go_wp2
              go_roundw
              case rel => exact ⟨hbr.trans (below_drewN _ _ _), k+1, by omega, by go_num, by rw [HI.out]; exact eqFrom_yes (by have := HN.out; omega) HQ.out⟩
              case measure => simp [intOf]; omega
            · go_wp2
              go_quiet (fail)
              go_wp2
              go_ret
              refine ⟨ret_bool ?_, hbr.trans (below_drewN _ _ _)⟩
              rw [HL.out, HI.out]; exact (eqFrom_no (by have := HN.out; omega) q).symm
          · go_wp2
            go_ret
            exact ⟨ret_bool (by rw [HL.out, HI.out, eqFrom_end (by have := HN.out; omega)]), hbr⟩
  · have HL : Hid (decide (l = m) = false) := decide_eq_false (fun e => hnn (by rw [HN.out, HN'.out, e]))
    have hnn' : ¬ (n : Int) = (n' : Int) := by omega
    go_enter Try.func12, Try.ntmps12
    go_wp2
    go_ret
    exact ⟨ret_bool HL.out.symm, Below.refl _ _⟩
end Go.Proofs.Ytihmbfapbkddeaa
