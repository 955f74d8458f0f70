import Derived.Test.YtffnhflbhckhbaaDoorQO
import Derived.Test.YtffnhflbhckhbaaDoorQT
namespace Go.Proofs.YtffnhflbhckhbaaDoor
open Go.RowKit Go.Shelf
/-- Who is used, by bits. -/
def Ub (u : Nat) (x : Int) : Prop := u.testBit x.toNat = true
theorem set_bit (u : Nat) (c : List Int) (h : Eight c) (x : Int) (hx : 0 ≤ x) : Ub (u ||| setN c) x ↔ Ub u x ∨ x ∈ c := by
  unfold Ub
  rw [Nat.testBit_or, setN_bit c x.toNat h, Bool.or_eq_true, decide_eq_true_eq, Int.toNat_of_nonneg hx]
theorem one_bit (u k : Nat) (x : Int) (hx : 0 ≤ x) : Ub (u ||| 2 ^ k) x ↔ Ub u x ∨ x = (k : Int) := by
  unfold Ub
  rw [bit_or, Bool.or_eq_true, decide_eq_true_eq]
  constructor
  · rintro (h | h)
    · exact .inl h
    · exact .inr (by omega)
  · rintro (h | h)
    · exact .inl h
    · exact .inr (by omega)
theorem sum_le {s : Sw} : ∀ (P : List (List Int)), (∀ c ∈ P, 2 ≤ c.length) → 0 ≤ total s P ∧ total s P ≤ (P.flatten.length : Int)
  | [], _ => by simp [total]
  | c :: P, h => by
    obtain ⟨h1, h2⟩ := sum_le (s := s) P (fun d hd => h d (by simp [hd]))
    have hc := h c (by simp)
    rw [total_cons]
    have hg : 0 ≤ gift s c ∧ gift s c ≤ (c.length : Int) := by
      unfold gift
      split <;> omega
    rw [List.flatten_cons, List.length_append]
    omega
/-- There are no more gifts than there are people. -/
theorem opt_bound {s : Sw} {U : Int → Prop} {v : Int} (h : Opt s U v) : 0 ≤ v ∧ v ≤ (s.n : Int) := by
  obtain ⟨⟨P, hP, rfl⟩, -⟩ := h
  obtain ⟨h1, h2⟩ := sum_le (s := s) P (fun c hc => (hP.line c hc).two)
  have := nodup_len8 (n := s.n) hP.nd (fun x hx => by
    obtain ⟨c, hc, hxc⟩ := List.mem_flatten.1 hx
    exact (hP.line c hc).rng x hxc)
  omega
/-- Where a step leads, and why it is the best. -/
def Good (s : Sw) (u : Nat) (c : List Int) (g : Int) (u' : Nat) : Prop :=
  u' < 2 ^ s.n ∧ ∃ v', Opt s (Ub u') v' ∧ ((c = [] ∧ g = v' ∧ u' = u ||| 2 ^ lowB u) ∨ (Line s c ∧ c.Nodup ∧ hd c = (lowB u : Int) ∧ (∀ x ∈ c, u.testBit x.toNat = false) ∧ u' = u ||| setN c ∧ g = gift s c + v'))
/-- What is known of a set, as it lies. -/
def EntS (s : Sw) (S : Nat → Prop) (W : World) (m : Nat → Option Value) (u : Nat) (st : Value) : Prop :=
  ∃ la ln lc c g u', st = .agg #[.slice la ln lc, .int .i64 g, .int .i64 ((u' : Nat) : Int)] ∧ Ins S W la ln lc c ∧ Opt s (Ub u) g ∧ Good s u c g u' ∧ (u' = 2 ^ s.n - 1 ∨ (m u').isSome = true)
structure Fnd (s : Sw) (S : Nat → Prop) (W : World) (bM N : Nat) (m : Nat → Option Value) : Prop where
  map : Fm W bM N m
  cnt : N + cntF 256 (fun x => (m x).isSome) = 256
  ent : ∀ u st, u < 2 ^ s.n → m u = some st → EntS s S W m u st
theorem EntS.more {s : Sw} {S : Nat → Prop} {W : World} {m m' : Nat → Option Value} {u : Nat} {st : Value} (h : EntS s S W m u st) (hm : ∀ x st, m x = some st → m' x = some st) : EntS s S W m' u st := by
  obtain ⟨la, ln, lc, c, g, u', h1, h2, h3, h4, h5⟩ := h
  refine ⟨la, ln, lc, c, g, u', h1, h2, h3, h4, h5.imp id fun h => ?_⟩
  obtain ⟨st, hst⟩ := Option.isSome_iff_exists.1 h
  rw [hm _ _ hst]
  rfl
theorem EntS.keep {s : Sw} {S T S' : Nat → Prop} {W W' : World} {m : Nat → Option Value} {u : Nat} {st : Value} (h : EntS s S W m u st) (k : Keep T W W') (hs : ∀ b, S b → (∃ cs t fz, W.heap[b]? = some (.cells cs t fz)) → T b) (hs' : ∀ b, S b → S' b) : EntS s S' W' m u st := by
  obtain ⟨la, ln, lc, c, g, u', h1, h2, h3, h4, h5⟩ := h
  exact ⟨la, ln, lc, c, g, u', h1, (h2.keep k hs).mono hs', h3, h4, h5⟩
/-- Kept where the map's own block is kept too. -/
theorem Fnd.keep {s : Sw} {S T S' : Nat → Prop} {W W' : World} {bM N : Nat} {m : Nat → Option Value} (h : Fnd s S W bM N m) (k : Keep T W W') (hs : ∀ b, S b → T b) (hb : T bM) (hs' : ∀ b, S b → S' b) : Fnd s S' W' bM N m :=
  ⟨h.map.keep k hb, h.cnt, fun u st hu hst => (h.ent u st hu hst).keep k (fun b hb _ => hs b hb) hs'⟩
/-- One thing more is known. -/
theorem Fnd.put {s : Sw} {S : Nat → Prop} {W W' : World} {bM N : Nat} {m : Nat → Option Value} {u : Nat} {st : Value} (hn : s.n ≤ 8) (h : Fnd s S W bM N m) (hu : u < 2 ^ s.n) (hm : m u = none) (hw : Fm W' bM (N + 1) (fun z => if z = u then some st else m z)) (k : Keep (fun b => b < W.heap.size ∧ b ≠ bM) W W') (hS : ∀ b, S b → b < W.heap.size) (he : EntS s S W' (fun z => if z = u then some st else m z) u st) : Fnd s S W' bM (N + 1) (fun z => if z = u then some st else m z) := by
  have hu' : u < 256 := Nat.lt_of_lt_of_le hu (Nat.le_trans (Nat.pow_le_pow_right (by omega) hn) (by decide))
  obtain ⟨es, clock, hmap⟩ := h.map.isMap
  refine ⟨hw, ?_, fun x st' hx hst => ?_⟩
  · have := cnt_upd (l := fun x => (m x).isSome) (i := u) (by rw [hm]; rfl) 256
    rw [if_pos hu'] at this
    have e : updB (fun x => (m x).isSome) u = fun x => (if x = u then some st else m x).isSome := by
      funext x
      unfold updB
      split <;> rfl
    rw [e] at this
    have := h.cnt
    omega
  · by_cases e : x = u
    · subst e
      simp only [if_true] at hst
      cases hst
      exact he
    · simp only [if_neg e] at hst
      refine ((h.ent x st' hx hst).keep k (fun b hb hc => ⟨hS b hb, fun q => ?_⟩) (fun _ h => h)).more (fun z st2 hz => ?_)
      · subst q
        obtain ⟨cs, t, fz, hc⟩ := hc
        rw [hmap] at hc
        cases hc
      · by_cases e2 : z = u
        · subst e2; rw [hm] at hz; cases hz
        · simp only [if_neg e2]; exact hz
theorem Fnd.lt {s : Sw} {S : Nat → Prop} {W : World} {bM N : Nat} {m : Nat → Option Value} (h : Fnd s S W bM N m) : bM < W.heap.size := by
  obtain ⟨es, clock, hmap⟩ := h.map.isMap
  exact (Array.getElem?_eq_some_iff.1 hmap).1
theorem Fnd.room {s : Sw} {S : Nat → Prop} {W : World} {bM N : Nat} {m : Nat → Option Value} (h : Fnd s S W bM N m) : N ≤ 256 := by have := h.cnt; omega
/-- What search gives. -/
def SPost (s : Sw) (S : Nat → Prop) (bM u : Nat) (m : Nat → Option Value) (W : World) (e : Ending) (W' : World) : Prop :=
  ∃ v N' m', e = .returned (.int .i64 v) ∧ Opt s (Ub u) v ∧ Fnd s (fun b => S b ∨ (W.heap.size ≤ b ∧ b < W'.heap.size)) W' bM N' m' ∧ (∀ x st, m x = some st → m' x = some st) ∧ (∀ x, m x = none → (m' x).isSome = true → ∀ j, u.testBit j = true → x.testBit j = true) ∧ (u = 2 ^ s.n - 1 ∨ (m' u).isSome = true) ∧ Keep (fun b => b < W.heap.size ∧ b ≠ bM) W W'
/-- Lists lie as they lay where no block of cells was touched. -/
theorem Ints.frame {w W' : World} {a : Option Addr} {n c : Nat} {l : List Int} (h : Ints w a n c l) (hsz : w.heap.size ≤ W'.heap.size) (hf : ∀ b, b < w.heap.size → (∃ cs t fz, w.heap[b]? = some (.cells cs t fz)) → W'.heap[b]? = w.heap[b]?) : Ints W' a n c l := by
  obtain ⟨h1, h2, h3, h4⟩ := h
  refine ⟨h1, h2, h3, ?_⟩
  rcases h4 with h4 | ⟨b, off, e, hlt, hc⟩
  · exact .inl h4
  · by_cases hn : n = 0
    · exact .inl hn
    · have hcell : ∃ cs t fz, w.heap[b]? = some (.cells cs t fz) := by
        have := hc 0 (by omega)
        unfold World.cell? at this
        split at this
        · rename_i cs t fz hh; exact ⟨cs, t, fz, hh⟩
        · cases this
      exact .inr ⟨b, off, e, Nat.lt_of_lt_of_le hlt hsz, fun j hj => (World.cell?_of_block (a := ⟨b, off + j, none⟩) (hf b hlt hcell)).trans (hc j hj)⟩
theorem Lsts.frame {w W' : World} {a : Option Addr} {n c : Nat} {l : List Sl} (h : Lsts w a n c l) (hsz : w.heap.size ≤ W'.heap.size) (hf : ∀ b, b < w.heap.size → (∃ cs t fz, w.heap[b]? = some (.cells cs t fz)) → W'.heap[b]? = w.heap[b]?) : Lsts W' a n c l := by
  obtain ⟨h1, h2, h3, h4, h5⟩ := h
  refine ⟨h1, h2, h3, fun x hx => (h4 x hx).frame hsz hf, ?_⟩
  rcases h5 with h5 | ⟨b, off, e, hlt, hc⟩
  · exact .inl h5
  · by_cases hn : n = 0
    · exact .inl hn
    · have hcell : ∃ cs t fz, w.heap[b]? = some (.cells cs t fz) := by
        have := hc 0 (by omega)
        unfold World.cell? at this
        split at this
        · rename_i cs t fz hh; exact ⟨cs, t, fz, hh⟩
        · cases this
      exact .inr ⟨b, off, e, Nat.lt_of_lt_of_le hlt hsz, fun j hj => (World.cell?_of_block (a := ⟨b, off + j, none⟩) (hf b hlt hcell)).trans (hc j hj)⟩
end Go.Proofs.YtffnhflbhckhbaaDoor
