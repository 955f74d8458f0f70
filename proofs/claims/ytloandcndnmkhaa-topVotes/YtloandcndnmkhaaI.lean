import Derived.Test.YtloandcndnmkhaaD
namespace Go.Proofs.Ytloandcndnmkhaa
open Go.RowKit
def flatB (l : List Bal) : List Value := l.flatMap fun g => [.int .i64 g.count, .slice g.oa g.on g.oc]
theorem flatB_length (l : List Bal) : (flatB l).length = l.length * 2 := by
  induction l with
  | nil => rfl
  | cons g l ih => simp [flatB, List.flatMap_cons] at ih ⊢; omega
theorem flatB_append (a b : List Bal) : flatB (a ++ b) = flatB a ++ flatB b := by simp [flatB]
theorem flatB_cons (g : Bal) (l : List Bal) : flatB (g :: l) = .int .i64 g.count :: .slice g.oa g.on g.oc :: flatB l := by simp [flatB]
theorem balAt_succ (g : Bal) (l : List Bal) (j : Nat) : balAt (g :: l) (j+1) = balAt l j := by simp [balAt]
theorem flatB_at (l : List Bal) : ∀ j, j < l.length → (flatB l)[j*2]? = some (.int .i64 (balAt l j).count) ∧ (flatB l)[j*2+1]? = some (.slice (balAt l j).oa (balAt l j).on (balAt l j).oc) := by
  induction l with
  | nil => intro j h; simp at h
  | cons g l ih =>
    intro j h
    rw [flatB_cons]
    cases j with
    | zero => simp [balAt]
    | succ j =>
      rw [balAt_succ, show (j+1)*2 = j*2+1+1 by omega]
      simp only [List.getElem?_cons_succ]
      exact ih j (by simpa using h)
theorem flatB_one (l : List Bal) : ∀ u ∈ flatB l, u.oneCell' = true := by
  intro u hu
  simp only [flatB, List.mem_flatMap] at hu
  obtain ⟨g, _, hg⟩ := hu
  simp at hg
  rcases hg with rfl | rfl <;> rfl
theorem flatB_all {l : List Bal} {q : Nat → Value → Prop} (h : ∀ j, j < l.length → q (j*2) (.int .i64 (balAt l j).count) ∧ q (j*2+1) (.slice (balAt l j).oa (balAt l j).on (balAt l j).oc)) :
    ∀ i u, (flatB l)[i]? = some u → q i u := by
  intro i u hu
  have hlt : i < (flatB l).length := by
    rcases Nat.lt_or_ge i (flatB l).length with h' | h'
    · exact h'
    · rw [List.getElem?_eq_none h'] at hu; cases hu
  rw [flatB_length] at hlt
  obtain ⟨h1, h2⟩ := flatB_at l (i/2) (by omega)
  obtain ⟨k1, k2⟩ := h (i/2) (by omega)
  rcases (show i = i/2*2 ∨ i = i/2*2+1 by omega) with e | e
  · rw [e] at hu ⊢; rw [h1] at hu; cases hu; exact k1
  · rw [e] at hu ⊢; rw [h2] at hu; cases hu; exact k2
theorem info44 : (Try.prog.info? 44).map (fun i => (i.zero, i.size, i.bytes)) = some (some (.agg #[.int .i64 0, .slice none 0 0]), 2, 32) := by kernel_rfl
theorem Bals.src {w : World} {a : Option Addr} {m c : Nat} {l : List Bal} (h : Bals w a m c l) (hm : 0 < m) :
    ∃ ad, a = some ad ∧ ∀ j u, (flatB l)[j]? = some u → w.cell? (ad.add j) = some u := by
  obtain ⟨hn, _, _, _, h0 | ⟨b, off, rfl, hb, hcell⟩⟩ := h
  · omega
  · refine ⟨_, rfl, ?_⟩
    refine flatB_all (q := fun j u => w.cell? ((⟨b, off, none⟩ : Addr).add j) = some u) (fun j hj => ?_)
    obtain ⟨h1, h2⟩ := hcell j (by omega)
    have e : ∀ i, (⟨b, off, none⟩ : Addr).add i = ⟨b, off + i, none⟩ := fun i => by unfold Addr.add; split <;> simp_all
    refine ⟨?_, ?_⟩
    · rw [e]; exact h1
    · rw [e, ← Nat.add_assoc]; exact h2
theorem run_append_bals (w : World) (ty : TypeId) (base : Nat) (v : Value) (n : Nat) (xs : List Bal) (hown : w.ownsRow base 44 2 v n (flatB xs)) (a : Option Addr) (m c : Nat) (l : List Bal) (h : Bals w a m c l)
    (hsm : n + m ≤ 1000) (hbase : base ≤ w.heap.size) :
    ∃ v' w', (Builtin.append_ #[22, 22] ty #[v, .slice a m c]).run Try.prog w = .ok v' w' ∧ w'.ownsRow base 44 2 v' (n + m) (flatB (xs ++ l)) ∧ w.grownBy w' v.ownBlock := by
  obtain ⟨i0, hi, hz0, hz1, hz2⟩ := info_parts info44
  have hl : l.length = m := h.1.symm
  by_cases hm : 0 < m
  · obtain ⟨ad, rfl, hcell⟩ := h.src hm
    obtain ⟨v', w', hr, ho, hg, _⟩ := run_append_own (P := Try.prog) w base 22 ty 44 i0 _ 2 32 Try.underlying22 hi hz0 hz1 hz2 rfl (by decide) v n (flatB xs) hown ad m c (flatB l) (by rw [flatB_length, hl]) hcell (flatB_one l) (by unfold maxLen; omega) (by omega) hbase
    exact ⟨v', w', hr, by rw [flatB_append]; exact ho, hg⟩
  · obtain rfl : m = 0 := by omega
    obtain rfl : l = [] := List.length_eq_zero_iff.1 hl
    have hs : Src Try.prog i0.size 22 (.slice a 0 c) 0 [] w := by
      cases a with
      | none => exact Src.ofNil w Try.underlying22 c
      | some ad => exact Src.ofSlice w Try.underlying22 ad 0 c [] (by simp) (by simp) (by simp)
    refine ⟨v, w, ?_, by simpa using hown, ⟨rfl, rfl, rfl, Nat.le_refl _, fun _ _ _ => rfl⟩⟩
    rcases hown.2 with ⟨rfl, rfl⟩ | ⟨g, cap, cur, rfl, _, _, hnc, _⟩
    · exact run_append_nothing w 22 22 ty 44 i0 Try.underlying22 hi none 0 0 (Nat.le_refl _) _ hs
    · exact run_append_nothing w 22 22 ty 44 i0 Try.underlying22 hi _ n cap hnc _ hs
theorem wpList_append_bals (w : World) {ops : Array Oper} {rest : List Oper} {o : Oper} {a : Act} {Q : Exit → Act → World → Prop} (hgd : o.guard = none) (s x : Operand)
    (ho : o.op = .call { callee := .builtin .append, args := #[s, x], argTypes := #[22, 22] })
    (base : Nat) (v : Value) (n : Nat) (xs : List Bal) (hs : a.eval s = v) (hown : w.ownsRow base 44 2 v n (flatB xs))
    (ad : Option Addr) (m c : Nat) (l : List Bal) (hx : a.eval x = .slice ad m c) (h : Bals w ad m c l)
    (hsm : n + m ≤ 1000) (hbase : base ≤ w.heap.size)
    (hK : ∀ v' w', w'.ownsRow base 44 2 v' (n + m) (flatB (xs ++ l)) → w.grownBy w' v.ownBlock → wpList Try.prog ops Q rest (a.put o.dst v') w') : wpList Try.prog ops Q (o :: rest) a w :=
  wpList_plain hgd fun _ hk => by
    obtain ⟨v', w', hr, h2, h3⟩ := run_append_bals w o.type base v n xs hown ad m c l h hsm hbase
    unfold Oper.wp execOp
    simp only [ho, resolve, invoke, builtin, Sem.run_bind, Sem.run_pure, Result.andThen_ok, List.map_toArray, List.map_cons, List.map_nil, hs, hx, hr]
    exact hk _ _ (hK v' w' h2 h3)
/-- What a row of ballots that the call made reads as. -/
theorem Bals.of_owns {w : World} {base : Nat} {v : Value} {n : Nat} {l : List Bal} (h : w.ownsRow base 44 2 v n (flatB l)) (hg : ∀ g ∈ l, Ints w g.oa g.on g.oc g.order) : ∃ a c, v = .slice a n c ∧ Bals w a n c l ∧ (n = 0 ∨ ∃ g, base ≤ g ∧ g < w.heap.size ∧ a = some ⟨g, 0, none⟩ ∧ ∀ j, w.frozen? ⟨g, j, none⟩ = false) := by
  have hl : l.length = n := by have := h.1; rw [flatB_length] at this; omega
  have h0 := h
  rcases h.2 with ⟨rfl, rfl⟩ | ⟨g, cap, cur, rfl, hbg, hgg, hnc, hcm, hcs, htake⟩
  · exact ⟨none, 0, rfl, ⟨hl.symm, Nat.le_refl _, by unfold maxLen; omega, hg, .inl rfl⟩, .inl rfl⟩
  · have hlt : g < w.heap.size := (Array.getElem?_eq_some_iff.1 hgg).1
    refine ⟨_, cap, rfl, ⟨hl.symm, hnc, hcm, hg, .inr ⟨g, 0, rfl, hlt, fun j hj => ?_⟩⟩, .inr ⟨g, hbg, hlt, rfl, fun j => by simp [World.frozen?, hgg]⟩⟩
    obtain ⟨h1, h2⟩ := flatB_at l j (by omega)
    exact ⟨by rw [Nat.zero_add, h0.cellAt (j * 2) (by omega)]; exact h1, by rw [Nat.zero_add, h0.cellAt (j * 2 + 1) (by omega)]; exact h2⟩
theorem bals_one {W : World} {g : Bal} {b : Nat} (hI : Ints W g.oa g.on g.oc g.order) (h0 : W.cell? ⟨b, 0, none⟩ = some (.int .i64 g.count)) (h1 : W.cell? ⟨b, 1, none⟩ = some (.slice g.oa g.on g.oc)) : Bals W (some ⟨b, 0, none⟩) 1 1 [g] := by
  refine ⟨rfl, Nat.le_refl _, by unfold maxLen; omega, fun t ht => ?_, .inr ⟨b, 0, rfl, World.block_lt_of_cell? W _ h0, fun j hj => ?_⟩⟩
  · rw [List.mem_singleton] at ht; subst ht; exact hI
  · obtain rfl : j = 0 := by omega
    exact ⟨h0, h1⟩
theorem own_emptyB (W : World) (base : Nat) (h : base ≤ W.heap.size) : (W.alloc (.cells #[] 44)).ownsRow base 44 2 (.slice (some ⟨W.heap.size, 0, none⟩) 0 0) 0 (flatB []) :=
  World.ownsRow_made (base := base) (e := 44) (size := 2) W #[] 0 h (by unfold maxLen; omega) rfl
/-- A block of ints: never the block of a row of ballots. -/
def T3 (w : World) (a : Option Addr) (n : Nat) : Prop := n = 0 ∨ ∃ b off arr fz, a = some ⟨b, off, none⟩ ∧ w.heap[b]? = some (.cells arr 3 fz)
theorem T3.of_owns {w : World} {B n m : Nat} {a : Option Addr} {c : Nat} {xs : List Value} (h : w.ownsRow B 3 1 (.slice a n c) m xs) : T3 w a n := by
  rcases h.2 with ⟨e, _⟩ | ⟨g, cap, cur, e, _, hg, _⟩
  · cases e; exact Or.inl rfl
  · cases e; exact Or.inr ⟨g, 0, cur, (0, 0), rfl, hg⟩
theorem T3.apart {w : World} {base k : Nat} {v : Value} {xs : List Value} {b : Nat} {arr : Array Value} {fz : Nat × Nat} (ho : w.ownsRow base 44 2 v k xs) (h : w.heap[b]? = some (.cells arr 3 fz)) : some b ≠ v.ownBlock := by
  intro e
  have e := e.symm
  rcases ho.2 with ⟨rfl, _⟩ | ⟨g, cap, cur, rfl, _, hg, _⟩
  · cases e
  · have e2 : g = b := by simpa [Value.ownBlock] using e
    subst e2
    rw [hg] at h
    cases h
theorem T3.grown {w w' : World} {base k : Nat} {v : Value} {xs : List Value} {a : Option Addr} {n c : Nat} {l : List Int} (h : T3 w a n) (hI : Ints w a n c l) (ho : w.ownsRow base 44 2 v k xs) (hg : w.grownBy w' v.ownBlock) : T3 w' a n ∧ Ints w' a n c l := by
  rcases h with h | ⟨b, off, arr, fz, h1, h2⟩
  · exact ⟨Or.inl h, hI.1, hI.2.1, hI.2.2.1, Or.inl h⟩
  · have hlt := (Array.getElem?_eq_some_iff.1 h2).1
    have hb := hg.block b hlt (T3.apart ho h2)
    refine ⟨Or.inr ⟨b, off, arr, fz, h1, by rw [hb]; exact h2⟩, hI.1, hI.2.1, hI.2.2.1, ?_⟩
    rcases hI.2.2.2 with h0 | ⟨b', off', e, hlt', hc⟩
    · exact Or.inl h0
    · rw [h1] at e
      cases e
      exact Or.inr ⟨b, off, h1, Nat.lt_of_lt_of_le hlt hg.size, fun j hj => (World.cell?_of_block (a := ⟨b, off + j, none⟩) hb).trans (hc j hj)⟩
theorem T3.later {w w' : World} {a : Option Addr} {n : Nat} (h : T3 w a n) (hb : Below w.heap.size w w') : T3 w' a n := by
  rcases h with h | ⟨b, off, arr, fz, h1, h2⟩
  · exact Or.inl h
  · exact Or.inr ⟨b, off, arr, fz, h1, by rw [hb.block b (Array.getElem?_eq_some_iff.1 h2).1]; exact h2⟩
def MadePost (n k : Nat) (w : World) (e : Ending) (w' : World) : Prop :=
  ∃ a c L, e = .returned (.slice a k c) ∧ Bals w' a k c L ∧ (∀ g ∈ L, g.on = n ∧ g.order.Perm (upL n) ∧ 0 ≤ g.count ∧ g.count ≤ 6) ∧ Below w.heap.size w w'
set_option maxRecDepth 100000 in
set_option maxHeartbeats 4000000 in
theorem ballots_any (a : Option Addr) (m c : Nat) (raw : List Int) (n k : Nat) (w : World) (h : Ints w a m c raw) (hr : ∀ x ∈ raw, InR x) (hm : m ≤ 512) (hn : n ≤ 6) (hk : k ≤ 9) :
    Calls Try.prog 24 #[.slice a m c, .int .i64 n, .int .i64 k] w fun e w' => MadePost n k w e w' := by
  have HR := hide hr
  have HI := hide h
  clear hr h
  go_enter Try.func24, Try.ntmps24
  go_wp2_with fail
  go_loopw [8, 7, 9] (fun q v _ wy => Below w.heap.size w wy ∧ ∃ (j : Nat) (L : List Bal), j ≤ k ∧ q = .int .i64 j ∧ wy.ownsRow w.heap.size 44 2 v j (flatB L) ∧ (∀ s ∈ L, (Ints wy s.oa s.on s.oc s.order ∧ T3 wy s.oa s.on) ∧ s.on = n ∧ s.order.Perm (upL n) ∧ 0 ≤ s.count ∧ s.count ≤ 6)) (fun q _ _ _ => k - (intOf q).toNat)
  case atStart => exact ⟨Below.refl _ _, 0, [], Nat.zero_le _, rfl, World.ownsRow_nil _ _ _ _, fun s hs => (by cases hs)⟩
  case round =>
    rename World => wr
    obtain ⟨hbr, j, L, hj, rfl, hown, hL⟩ := hrel
    by_cases hlt : j < k
    · have hjn : (j : Int) * ((n : Int) + 1) ≤ 63 := by
        have h1 := Nat.mul_le_mul (show j ≤ 9 by omega) (show n + 1 ≤ 7 by omega)
        have h2 : ((j * (n + 1) : Nat) : Int) = (j : Int) * ((n : Int) + 1) := by simp
        omega
      have hj0 : 0 ≤ (j : Int) * ((n : Int) + 1) := by
        have h2 : ((j * (n + 1) : Nat) : Int) = (j : Int) * ((n : Int) + 1) := by simp
        omega
      obtain ⟨J, hJ⟩ : ∃ J : Int, (j : Int) * ((n : Int) + 1) = J := ⟨_, rfl⟩
      rw [hJ] at hjn hj0
      have zm : IntKind.i64.wrap J = J := wrap_in _ (by omega) (by omega)
      have CP := hide (perm_any a m c raw J n wr ((unhide HI).later hbr) (unhide HR) hj0 (by omega) (by omega) hn)
      have HOWN := hide hown
      have HL := hide hL
      clear hown hL
      go_wp2_with fail
      refine (unhide CP).mono ?_
      rintro e w2 ⟨v2, l2, rfl, ho2, hp2, hb2⟩
      obtain ⟨a2, c2, hv2, hI2, _⟩ := Ints.of_owns ho2 (by omega)
      subst hv2
      have hT2 := T3.of_owns ho2
      have hbw2 := hbr.trans (hb2.mono hbr.size)
      have CA := hide (at_any a m c raw (J + (n : Int)) w2 ((unhide HI).later hbw2) (unhide HR) (by omega) (by omega) (by omega))
      go_wp2_with fail
      refine (unhide CA).mono ?_
      rintro e w3 ⟨x, hx, rfl, hw3⟩
      subst w3
      go_wp2_with fail
      refine (pick_any x 7 hx (by omega) (by omega) w2).mono ?_
      rintro e w3 ⟨cn, hcn, rfl, hw3⟩
      subst w3
      have hbA : Below w2.heap.size w2 (w2.alloc (.cells #[.int .i64 (cn : Int), .slice a2 n c2] 44)) := by go_grown
      have hI3 := hI2.later hbA
      have hT3 := hT2.later hbA
      have hO3 := owns_later (unhide HOWN) (hb2.trans (hbA.mono hb2.size))
      have hx1 : Bals (w2.alloc (.cells #[.int .i64 (cn : Int), .slice a2 n c2] 44)) (some ⟨w2.heap.size, 0, none⟩) 1 1 [⟨(cn : Int), a2, n, c2, l2⟩] := bals_one (g := ⟨(cn : Int), a2, n, c2, l2⟩) hI3 (by simp) (by simp)
      have HI3 := hide hI3
      have HT3 := hide hT3
      have HO3 := hide hO3
      have HX := hide hx1
      have HP2 := hide hp2
      clear ho2 hp2 hI2 hT2 hI3 hT3 hO3 hx1
      go_wp2_with (at_builtin; refine wpList_append_bals _ rfl _ _ rfl w.heap.size _ j L rfl (unhide HO3) _ 1 1 [⟨(cn : Int), a2, n, c2, l2⟩] rfl (unhide HX) (by omega) (by have := hbw2.size; simp; omega) ?_; intro v4 w4 ho4 hg4)
      have hbA2 : Below wr.heap.size wr (w2.alloc (.cells #[.int .i64 (cn : Int), .slice a2 n c2] 44)) := hb2.trans (hbA.mono hb2.size)
      have hb4 : Below w.heap.size w w4 := (hbw2.trans (hbA.mono hbw2.size)).trans ((Below.refl w.heap.size _).grown hg4 (hbw2.trans (hbA.mono hbw2.size)).size (fun q hq => ((unhide HO3).lt q hq).1))
      have HALL : Hid (∀ s ∈ L ++ [⟨(cn : Int), a2, n, c2, l2⟩], (Ints w4 s.oa s.on s.oc s.order ∧ T3 w4 s.oa s.on) ∧ s.on = n ∧ s.order.Perm (upL n) ∧ 0 ≤ s.count ∧ s.count ≤ 6) := by
        intro s hs
        rcases List.mem_append.1 hs with h | h
        · have h1 := unhide HL s h
          have := (h1.1.2.later hbA2).grown (h1.1.1.later hbA2) (unhide HO3) hg4
          exact ⟨⟨this.2, this.1⟩, h1.2⟩
        · rw [List.mem_singleton] at h
          subst h
          have := (unhide HT3).grown (unhide HI3) (unhide HO3) hg4
          exact ⟨⟨this.2, this.1⟩, rfl, unhide HP2, by show (0 : Int) ≤ cn; omega, by show (cn : Int) ≤ 6; omega⟩
      have HO4 := hide ho4
      clear ho4 hg4
      go_wp2
      first
        | (go_roundw
           case rel => exact ⟨hb4, j + 1, L ++ [⟨(cn : Int), a2, n, c2, l2⟩], by omega, by go_num, unhide HO4, unhide HALL⟩
           case measure => simp [intOf]; omega)
        | exact ⟨⟨hb4, j + 1, L ++ [⟨(cn : Int), a2, n, c2, l2⟩], by omega, by go_num, unhide HO4, unhide HALL⟩, by simp [intOf]; omega⟩
    · obtain rfl : j = k := by omega
      go_wp2
      go_ret
      obtain ⟨a, c, hv, hLL, _⟩ := Bals.of_owns hown (fun s hs => (hL s hs).1.1)
      subst hv
      exact ⟨a, c, L, rfl, hLL, fun s hs => (hL s hs).2, hbr⟩
end Go.Proofs.Ytloandcndnmkhaa
