import Derived.Test.YtffnhflbhckhbaaDoorQQ
namespace Go.Proofs.YtffnhflbhckhbaaDoor
open Go.RowKit Go.Shelf
/-- The blocks of what is known. -/
def Qs (S0 : Nat → Prop) (W0 : World) (Bb : Nat) (S : Nat → Prop) (b : Nat) : Prop := S0 b ∨ (W0.heap.size ≤ b ∧ S b ∧ b ≠ Bb)
/-- Where search stands while it goes through the chains: W0 is the world at its call, X the world ahead of the range; pre are the chains so far. -/
structure SI (s : Sw) (S0 : Nat → Prop) (bM Bb u a0 : Nat) (v0 : Int) (m0 : Nat → Option Value) (W0 X : World) (pre : List (List Int)) (S : Nat → Prop) (W : World) : Prop where
  lt : ∀ b, S b → b < W.heap.size
  low : ∀ b, b < X.heap.size → S b
  kx : Keep (fun b => b < X.heap.size ∧ b ≠ bM ∧ b ≠ Bb) X W
  kn : ∃ N m, Fnd s (Qs S0 W0 Bb S) W bM N m ∧ (∀ x st, m0 x = some st → m x = some st) ∧ (∀ x, m0 x = none → (m x).isSome = true → ∀ j, (u ||| 2 ^ a0).testBit j = true → x.testBit j = true) ∧
    ∃ la ln lc c g u', W.heap[Bb]? = some (.cells #[.slice la ln lc, .int .i64 g, .int .i64 ((u' : Nat) : Int)] 40 (0, 0)) ∧ Ins (Qs S0 W0 Bb S) W la ln lc c ∧ Good s u c g u' ∧ (u' = 2 ^ s.n - 1 ∨ (m u').isSome = true) ∧ v0 ≤ g ∧ ∀ o ∈ pre, ∃ v, Opt s (fun x => Ub u x ∨ x ∈ o) v ∧ gift s o + v ≤ g
theorem Keep.cell' {S : Nat → Prop} {W W' : World} (h : Keep S W W') {b : Nat} {o : Obj} (hb : S b) (hh : W.heap[b]? = some o) : W'.heap[b]? = some o := (h.block b hb).trans hh
theorem SI.inv {s : Sw} {S0 : Nat → Prop} {bM Bb u a0 : Nat} {v0 : Int} {m0 : Nat → Option Value} {W0 X : World} (hX : W0.heap.size ≤ X.heap.size) (hS0 : ∀ b, S0 b → b < W0.heap.size) (hbM : bM < X.heap.size) (hBb : Bb < X.heap.size) : Inv (SI s S0 bM Bb u a0 v0 m0 W0 X) := by
  refine ⟨fun {pre S W W'} h k => ?_, fun {pre S W} h => h.lt⟩
  obtain ⟨N, m, h1, h2, h3, la, ln, lc, c, g, u', h4, h5, h6, h7, h8, h9⟩ := h.kn
  have hq : ∀ b, Qs S0 W0 Bb S b → S b := fun b hb => by
    rcases hb with hb | hb
    · exact h.low b (by have := hS0 b hb; omega)
    · exact hb.2.1
  exact ⟨fun b hb => Nat.lt_of_lt_of_le (h.lt b hb) k.size, h.low, h.kx.trans (k.sub fun b hb => h.low b hb.1), N, m, h1.keep k hq (h.low bM hbM) (fun _ h => h), h2, h3, la, ln, lc, c, g, u', (k.block Bb (h.low Bb hBb)).trans h4, h5.keep k (fun b hb _ => hq b hb), h6, h7, h8, h9⟩
/-- A round that leaves the best as it was. -/
theorem SI.same {s : Sw} {S0 : Nat → Prop} {bM Bb u a0 : Nat} {v0 : Int} {m0 : Nat → Option Value} {W0 X : World} (hX : W0.heap.size ≤ X.heap.size) (hS0 : ∀ b, S0 b → b < W0.heap.size) (hbM : bM < X.heap.size) (hBb : Bb < X.heap.size) (hbB : bM ≠ Bb) {pre : List (List Int)} {S : Nat → Prop} {W W1 W2 : World} (h : SI s S0 bM Bb u a0 v0 m0 W0 X pre S W)
    {m : Nat → Option Value} {la : Option Addr} {ln lc : Nat} {c : List Int} {g : Int} {u' : Nat} (h2 : ∀ x st, m0 x = some st → m x = some st) (h3 : ∀ x, m0 x = none → (m x).isSome = true → ∀ j, (u ||| 2 ^ a0).testBit j = true → x.testBit j = true) (h4 : W.heap[Bb]? = some (.cells #[.slice la ln lc, .int .i64 g, .int .i64 ((u' : Nat) : Int)] 40 (0, 0))) (h5 : Ins (Qs S0 W0 Bb S) W la ln lc c) (h6 : Good s u c g u') (h7 : u' = 2 ^ s.n - 1 ∨ (m u').isSome = true) (h8 : v0 ≤ g) (h9 : ∀ o ∈ pre, ∃ v, Opt s (fun x => Ub u x ∨ x ∈ o) v ∧ gift s o + v ≤ g)
    (hb1 : Below W.heap.size W W1) {o : List Int} {u2 : Nat} {v : Int} {N2 : Nat} {m2 : Nat → Option Value} {wn : Option Nat} (ho : Opt s (fun x => Ub u x ∨ x ∈ o) v) (hsub : ∀ j, (u ||| 2 ^ a0).testBit j = true → u2.testBit j = true) (hF2 : Fnd s (fun b => Qs S0 W0 Bb S b ∨ (W1.heap.size ≤ b ∧ b < W2.heap.size)) W2 bM N2 m2) (x1 : ∀ x st, m x = some st → m2 x = some st) (x2 : ∀ x, m x = none → (m2 x).isSome = true → ∀ j, u2.testBit j = true → x.testBit j = true) (k2 : Keep (fun b => b < W1.heap.size ∧ b ≠ bM) W1 W2) (hle : gift s o + v ≤ g) :
    ∃ S', SI s S0 bM Bb u a0 v0 m0 W0 X (pre ++ [o]) S' W2 ∧ (∀ b, S' b → S b ∨ wn = some b ∨ W.heap.size ≤ b) ∧ Keep (fun b => b < W.heap.size ∧ ¬ S b) W W2 := by
  have hXW : X.heap.size ≤ W.heap.size := h.kx.size
  have hs1 := hb1.size
  have hs2 := k2.size
  have hk12 : Keep (fun b => b < W.heap.size ∧ b ≠ bM) W W2 := (Keep.of_below hb1 (fun b hb => hb.1)).trans (k2.sub fun b hb => ⟨by have := hb.1; omega, hb.2⟩)
  refine ⟨fun b => S b ∨ (W.heap.size ≤ b ∧ b < W2.heap.size), ⟨fun b hb => ?_, fun b hb => .inl (h.low b hb), ?_, N2, m2, ?_, fun x st hx => x1 _ _ (h2 _ _ hx), fun x hx hx2 j hj => ?_, la, ln, lc, c, g, u', (hk12.block Bb ⟨by omega, fun e => hbB e.symm⟩).trans h4, ?_, h6, ?_, h8, fun o' ho' => ?_⟩, fun b hb => ?_, hk12.sub fun b hb => ⟨hb.1, fun e => hb.2 (e ▸ h.low bM hbM)⟩⟩
  · rcases hb with hb | hb
    · have := h.lt b hb; omega
    · exact hb.2
  · exact h.kx.trans (hk12.sub fun b hb => ⟨by have := hb.1; omega, hb.2.1⟩)
  · refine hF2.keep (T := fun _ => True) ⟨rfl, rfl, rfl, Nat.le_refl _, fun _ _ => rfl⟩ (fun _ _ => trivial) trivial (fun b hb => ?_)
    rcases hb with hb | hb
    · rcases hb with hb | hb
      · exact .inl hb
      · exact .inr ⟨hb.1, .inl hb.2.1, hb.2.2⟩
    · exact .inr ⟨by omega, .inr ⟨by omega, hb.2⟩, by omega⟩
  · cases hm : m x with
    | none => exact x2 x hm hx2 j (hsub j hj)
    | some st => exact h3 x hx (by rw [hm]; rfl) j hj
  · refine (h5.keep hk12 (fun b hb hc => ⟨?_, fun e => ?_⟩)).mono (fun b hb => ?_)
    · rcases hb with hb | hb
      · have := hS0 b hb; omega
      · exact h.lt b hb.2.1
    · subst e
      obtain ⟨N', m', f1, -⟩ := h.kn
      obtain ⟨es, clock, hmap⟩ := f1.map.isMap
      obtain ⟨cs, t, fz, hc⟩ := hc
      rw [hmap] at hc
      cases hc
    · rcases hb with hb | hb
      · exact .inl hb
      · exact .inr ⟨hb.1, .inl hb.2.1, hb.2.2⟩
  · refine h7.imp id fun hh => ?_
    obtain ⟨st, hst⟩ := Option.isSome_iff_exists.1 hh
    rw [x1 _ _ hst]
    rfl
  · rcases List.mem_append.1 ho' with q | q
    · exact h9 o' q
    · rw [List.mem_singleton] at q
      subst q
      exact ⟨v, ho, hle⟩
  · rcases hb with hb | hb
    · exact .inl hb
    · exact .inr (.inr hb.1)
/-- A round that betters the best. -/
theorem SI.better {s : Sw} (hn8 : s.n ≤ 8) {S0 : Nat → Prop} {bM Bb u a0 : Nat} {v0 : Int} {m0 : Nat → Option Value} {W0 X : World} (hX : W0.heap.size ≤ X.heap.size) (hS0 : ∀ b, S0 b → b < W0.heap.size) (hbM : bM < X.heap.size) (hBb : Bb < X.heap.size) (hbB : bM ≠ Bb) (hB0 : W0.heap.size ≤ Bb) (ha0 : a0 = lowB u) (hu : u < 2 ^ s.n) {pre : List (List Int)} {S : Nat → Prop} {W W1 W2 : World} (h : SI s S0 bM Bb u a0 v0 m0 W0 X pre S W)
    {m : Nat → Option Value} {la : Option Addr} {ln lc : Nat} {g : Int} {u' : Nat} (h2 : ∀ x st, m0 x = some st → m x = some st) (h3 : ∀ x, m0 x = none → (m x).isSome = true → ∀ j, (u ||| 2 ^ a0).testBit j = true → x.testBit j = true) (h4 : W.heap[Bb]? = some (.cells #[.slice la ln lc, .int .i64 g, .int .i64 ((u' : Nat) : Int)] 40 (0, 0))) (h8 : v0 ≤ g) (h9 : ∀ o ∈ pre, ∃ v, Opt s (fun x => Ub u x ∨ x ∈ o) v ∧ gift s o + v ≤ g)
    (hb1 : Below W.heap.size W W1) {o : List Int} {gb : Option Addr} {cb : Nat} {v : Int} {N2 : Nat} {m2 : Nat → Option Value} (hI : Ints W gb o.length cb o) (hgS : ∀ b, (Value.slice gb o.length cb).ownBlock = some b → ¬ S b ∧ b < W.heap.size) (hWy : Wy s u (a0 : Int) o) (ho : Opt s (Ub (u ||| setN o)) v) (hsub : ∀ j, (u ||| 2 ^ a0).testBit j = true → (u ||| setN o).testBit j = true) (hF2 : Fnd s (fun b => Qs S0 W0 Bb S b ∨ (W1.heap.size ≤ b ∧ b < W2.heap.size)) W2 bM N2 m2) (x1 : ∀ x st, m x = some st → m2 x = some st) (x2 : ∀ x, m x = none → (m2 x).isSome = true → ∀ j, (u ||| setN o).testBit j = true → x.testBit j = true) (x3 : u ||| setN o = 2 ^ s.n - 1 ∨ (m2 (u ||| setN o)).isSome = true) (k2 : Keep (fun b => b < W1.heap.size ∧ b ≠ bM) W1 W2) (hlt : g < gift s o + v) :
    ∃ S', SI s S0 bM Bb u a0 v0 m0 W0 X (pre ++ [o]) S' (((W2.setCell ⟨Bb, 0, none⟩ (.slice gb o.length cb)).setCell ⟨Bb, 1, none⟩ (.int .i64 (gift s o + v))).setCell ⟨Bb, 2, none⟩ (.int .i64 ((u ||| setN o : Nat) : Int))) ∧ (∀ b, S' b → S b ∨ (Value.slice gb o.length cb).ownBlock = some b ∨ W.heap.size ≤ b) ∧ Keep (fun b => b < W.heap.size ∧ ¬ S b) W (((W2.setCell ⟨Bb, 0, none⟩ (.slice gb o.length cb)).setCell ⟨Bb, 1, none⟩ (.int .i64 (gift s o + v))).setCell ⟨Bb, 2, none⟩ (.int .i64 ((u ||| setN o : Nat) : Int))) := by
  obtain ⟨W3, hW3⟩ : ∃ y, y = ((W2.setCell ⟨Bb, 0, none⟩ (.slice gb o.length cb)).setCell ⟨Bb, 1, none⟩ (.int .i64 (gift s o + v))).setCell ⟨Bb, 2, none⟩ (.int .i64 ((u ||| setN o : Nat) : Int)) := ⟨_, rfl⟩
  rw [← hW3]
  have hXW : X.heap.size ≤ W.heap.size := h.kx.size
  have hs1 := hb1.size
  have hs2 := k2.size
  have hs3 : W3.heap.size = W2.heap.size := by rw [hW3]; simp
  have hSM : S bM := h.low bM hbM
  have hSB : S Bb := h.low Bb hBb
  have hk12 : Keep (fun b => b < W.heap.size ∧ b ≠ bM) W W2 := (Keep.of_below hb1 (fun b hb => hb.1)).trans (k2.sub fun b hb => ⟨by have := hb.1; omega, hb.2⟩)
  have hk23 : Keep (fun b => b ≠ Bb) W2 W3 := by
    rw [hW3]
    exact ⟨rfl, rfl, rfl, by simp, fun b hb => by rw [Below.heap_setCell _ _ _ _ (by show b ≠ Bb; exact hb), Below.heap_setCell _ _ _ _ (by show b ≠ Bb; exact hb), Below.heap_setCell _ _ _ _ (by show b ≠ Bb; exact hb)]⟩
  have hk13 : Keep (fun b => b < W.heap.size ∧ b ≠ bM ∧ b ≠ Bb) W W3 := (hk12.sub fun b hb => ⟨hb.1, hb.2.1⟩).trans (hk23.sub fun b hb => hb.2.2)
  have hbox2 : W2.heap[Bb]? = some (.cells #[.slice la ln lc, .int .i64 g, .int .i64 ((u' : Nat) : Int)] 40 (0, 0)) := (hk12.block Bb ⟨by omega, fun e => hbB e.symm⟩).trans h4
  have hbox : W3.heap[Bb]? = some (.cells #[.slice gb o.length cb, .int .i64 (gift s o + v), .int .i64 ((u ||| setN o : Nat) : Int)] 40 (0, 0)) := by
    rw [hW3, heap_setCell_same _ _ _ _ _ _ (heap_setCell_same _ _ _ _ _ _ (heap_setCell_same _ _ _ _ _ _ hbox2))]
    rfl
  have hlow8 : Eight o := fun x hx => by have := hWy.1.rng x hx; omega
  have hsn : setN o < 2 ^ s.n := by
    refine Nat.lt_pow_two_of_testBit _ (fun j hj => ?_)
    rw [setN_bit o j hlow8, decide_eq_false_iff_not]
    intro hm
    have := hWy.1.rng _ hm
    omega
  refine ⟨fun b => S b ∨ (Value.slice gb o.length cb).ownBlock = some b ∨ (W.heap.size ≤ b ∧ b < W2.heap.size), ⟨fun b hb => ?_, fun b hb => .inl (h.low b hb), ?_, N2, m2, ?_, fun x st hx => x1 _ _ (h2 _ _ hx), fun x hx hx2 j hj => ?_, gb, o.length, cb, o, gift s o + v, u ||| setN o, hbox, ?_, ⟨Nat.or_lt_two_pow hu hsn, v, ho, .inr ⟨hWy.1, hWy.2.1, by rw [← ha0]; exact hWy.2.2.1, hWy.2.2.2, rfl, rfl⟩⟩, x3, by omega, fun o' ho' => ?_⟩, fun b hb => ?_, hk13.sub fun b hb => ⟨hb.1, fun e => hb.2 (e ▸ hSM), fun e => hb.2 (e ▸ hSB)⟩⟩
  · rcases hb with hb | hb | hb
    · have := h.lt b hb; omega
    · have := (hgS b hb).2; omega
    · omega
  · exact h.kx.trans (hk13.sub fun b hb => ⟨by have := hb.1; omega, hb.2⟩)
  · refine ⟨hF2.map.keep hk23 (by exact hbB), hF2.cnt, fun x st hx hst => ?_⟩
    obtain ⟨la2, ln2, lc2, c2, g2, u2, e1, e2, e3, e4, e5⟩ := hF2.ent x st hx hst
    refine ⟨la2, ln2, lc2, c2, g2, u2, e1, (e2.keep hk23 (fun b hb _ => ?_)).mono (fun b hb => ?_), e3, e4, e5⟩
    · rcases hb with hb | hb
      · rcases hb with hb | hb
        · intro e
          subst e
          exact absurd (hS0 _ hb) (by omega)
        · exact hb.2.2
      · intro e
        subst e
        omega
    · rcases hb with hb | hb
      · rcases hb with hb | hb
        · exact .inl hb
        · exact .inr ⟨hb.1, .inl hb.2.1, hb.2.2⟩
      · exact .inr ⟨by omega, .inr (.inr ⟨by omega, hb.2⟩), fun e => by subst e; omega⟩
  · cases hm : m x with
    | none => exact x2 x hm hx2 j (hsub j hj)
    | some st => exact h3 x hx (by rw [hm]; rfl) j hj
  · have hI3 : Ints W3 gb o.length cb o := by
      obtain ⟨i1, i2, i3, i4⟩ := hI
      refine ⟨i1, i2, i3, ?_⟩
      rcases i4 with i4 | ⟨b, off, e, hb, hc⟩
      · exact .inl i4
      · subst e
        have hnb := hgS b rfl
        exact .inr ⟨b, off, rfl, by omega, fun j hj => (hk13.cell (p := ⟨b, off + j, none⟩) ⟨hb, fun e => hnb.1 (by have e' : b = bM := e; rw [e']; exact hSM), fun e => hnb.1 (by have e' : b = Bb := e; rw [e']; exact hSB)⟩).trans (hc j hj)⟩
    refine ⟨hI3, ?_⟩
    rcases hI.2.2.2 with i4 | ⟨b, off, e, hb, hc⟩
    · exact .inl i4
    · subst e
      have hnb := hgS b rfl
      exact .inr ⟨b, off, rfl, .inr ⟨by
        have : ¬ b < X.heap.size := fun q => hnb.1 (h.low b q)
        omega, .inr (.inl rfl), fun e => hnb.1 (by rw [e]; exact hSB)⟩⟩
  · rcases List.mem_append.1 ho' with q | q
    · obtain ⟨v', k1, k2⟩ := h9 o' q
      exact ⟨v', k1, by omega⟩
    · rw [List.mem_singleton] at q
      subst q
      exact ⟨v, ho.same (fun x h0 _ => set_bit u o' hlow8 x h0), Int.le_refl _⟩
  · rcases hb with hb | hb | hb
    · exact .inl hb
    · exact .inr (.inl hb)
    · exact .inr (.inr hb.1)
end Go.Proofs.YtffnhflbhckhbaaDoor
