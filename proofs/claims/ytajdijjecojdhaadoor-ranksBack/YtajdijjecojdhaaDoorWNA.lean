import Derived.Test.YtajdijjecojdhaaDoorWG1
import Derived.Test.YtajdijjecojdhaaDoorWCC
namespace Go.Proofs.YtajdijjecojdhaaDoor
open Go.RowKit
/-- One thing more onto a row. -/
theorem run_append_elt (w : World) (t ty e : TypeId) (i0 : TypeInfo) (z : Value) (sz bytes : Nat) (ht : Tryd.prog.underlying t = some (.slice e)) (hi : Tryd.prog.info? e = some i0) (hz0 : i0.zero = some z) (hz1 : i0.size = sz) (hz2 : i0.bytes = bytes) (hzs : z.cells.size = sz) (hsz : 0 < sz)
    (base : Nat) (v : Value) (n : Nat) (xs : List Value) (hown : w.ownsRow base e sz v n xs) (g c : Nat) (news : List Value) (hl : news.length = sz) (hnews : ∀ j u, news[j]? = some u → w.cell? ((⟨g, 0, none⟩ : Addr).add j) = some u) (hone : ∀ u ∈ news, u.oneCell' = true)
    (hsm : n ≤ 10000) (hby : bytes ≤ 1000) (hbase : base ≤ w.heap.size) :
    ∃ v' w', (Builtin.append_ #[t, t] ty #[v, .slice (some ⟨g, 0, none⟩) 1 c]).run Tryd.prog w = .ok v' w' ∧ w'.ownsRow base e sz v' (n + 1) (xs ++ news) ∧ w.grownBy w' v.ownBlock ∧ (v'.ownBlock = v.ownBlock ∨ v'.ownBlock = some w.heap.size) := by
  have hm1 : (n + 1) * bytes ≤ 10001 * 1000 := Nat.mul_le_mul (by omega) hby
  obtain ⟨v', w', hr, ho, hg, _⟩ := run_append_own (P := Tryd.prog) w base t ty e i0 z sz bytes ht hi hz0 hz1 hz2 hzs hsz v n xs hown ⟨g, 0, none⟩ 1 c news (by omega) hnews hone (by unfold maxLen; omega) (by omega) hbase
  refine ⟨v', w', hr, ho, hg, ?_⟩
  rcases hown.2 with ⟨rfl, rfl⟩ | ⟨g', cap, cur, rfl, hbg, hgg, hnc, hcm, hcs, htake⟩
  · have hr2 := run_append_nil (P := Tryd.prog) w t ty e i0 z ht hi hz0 ⟨g, 0, none⟩ 1 c news (by rw [hz1]; omega) hnews (by omega) (by omega) (by rw [hz2]; omega)
    rw [hr] at hr2
    injection hr2 with e1 _
    rw [e1]
    exact .inr rfl
  · by_cases hroom : n + 1 ≤ cap
    · have hr2 := run_append_room (P := Tryd.prog) w t ty e i0 ht hi g' n cap cur hgg ⟨g, 0, none⟩ 1 c news (by rw [hz1]; omega) hnews hone hroom (by
        rw [hz1, hcs, hl]
        have := Nat.mul_le_mul_right sz hroom
        rw [Nat.add_mul] at this
        omega)
      rw [hr] at hr2
      injection hr2 with e1 _
      rw [e1]
      exact .inl rfl
    · have holds : ∀ j u, xs[j]? = some u → w.cell? ((⟨g', 0, none⟩ : Addr).add j) = some u := hown.cells (g := g') rfl
      have hr2 := run_append_grow (P := Tryd.prog) w t ty e i0 z ht hi hz0 ⟨g', 0, none⟩ n cap xs (by rw [hz1]; exact hown.1) holds ⟨g, 0, none⟩ 1 c news (by rw [hz1]; omega) hnews (by omega) (by omega) (by rw [hz2]; exact growslice_fits (by omega) (by omega))
      rw [hr] at hr2
      injection hr2 with e1 _
      rw [e1]
      exact .inr rfl
theorem upV_append_elt {K : Value → World → Prop} (w : World) {o : Oper} {ev : Operand → Value} (s x : Operand) (t e : TypeId) (i0 : TypeInfo) (z : Value) (sz bytes : Nat)
    (ho : o.op = .call { callee := .builtin .append, args := #[s, x], argTypes := #[t, t] }) (ht : Tryd.prog.underlying t = some (.slice e)) (hi : Tryd.prog.info? e = some i0) (hz0 : i0.zero = some z) (hz1 : i0.size = sz) (hz2 : i0.bytes = bytes) (hzs : z.cells.size = sz) (hsz : 0 < sz)
    (base : Nat) (v : Value) (n : Nat) (xs : List Value) (hs : ev s = v) (hown : w.ownsRow base e sz v n xs) (g c : Nat) (news : List Value) (hx : ev x = .slice (some ⟨g, 0, none⟩) 1 c) (hl : news.length = sz) (hnews : ∀ j u, news[j]? = some u → w.cell? ((⟨g, 0, none⟩ : Addr).add j) = some u) (hone : ∀ u ∈ news, u.oneCell' = true)
    (hsm : n ≤ 10000) (hby : bytes ≤ 1000) (hbase : base ≤ w.heap.size)
    (hK : ∀ v' w', w'.ownsRow base e sz v' (n + 1) (xs ++ news) → w.grownBy w' v.ownBlock → (v'.ownBlock = v.ownBlock ∨ v'.ownBlock = some w.heap.size) → K v' w') : upV Tryd.prog K ((execOp ev o).run Tryd.prog w) := by
  obtain ⟨v', w', hr, h2, h3, h4⟩ := run_append_elt w t o.type e i0 z sz bytes ht hi hz0 hz1 hz2 hzs hsz base v n xs hown g c news hl hnews hone hsm hby hbase
  unfold execOp
  simp only [ho, resolve, invoke, builtin, Sem.run_bind, Sem.run_pure, Result.andThen_ok, List.map_toArray, List.map_cons, List.map_nil, hs, hx, hr]
  exact hK v' w' h2 h3 h4
/-- A block of this type. -/
def TB (w : World) (e : TypeId) (b : Nat) : Prop := ∃ arr fz, w.heap[b]? = some (.cells arr e fz)
theorem TB.lt {w : World} {e : TypeId} {b : Nat} (h : TB w e b) : b < w.heap.size := by
  obtain ⟨arr, fz, h⟩ := h
  exact (Array.getElem?_eq_some_iff.1 h).1
theorem TB.ne {w : World} {e e' : TypeId} {b b' : Nat} (h : TB w e b) (h' : TB w e' b') (hn : e ≠ e') : b ≠ b' := by
  obtain ⟨arr, fz, h⟩ := h
  obtain ⟨arr', fz', h'⟩ := h'
  intro q
  subst q
  rw [h] at h'
  cases h'
  exact hn rfl
theorem own_tb {w : World} {base : Nat} {e : TypeId} {sz : Nat} {v : Value} {n : Nat} {xs : List Value} (h : w.ownsRow base e sz v n xs) {g : Nat} (hg : v.ownBlock = some g) : TB w e g := by
  rcases h.2 with ⟨rfl, _⟩ | ⟨g', cap, cur, rfl, hb, hgg, -⟩
  · cases hg
  · cases hg
    exact ⟨_, _, hgg⟩
theorem own_apart {w : World} {base base' : Nat} {e e' : TypeId} {sz sz' : Nat} {v v' : Value} {n n' : Nat} {xs xs' : List Value} (h : w.ownsRow base e sz v n xs) (h' : w.ownsRow base' e' sz' v' n' xs') (hn : e ≠ e') : v.ownBlock = none ∨ v.ownBlock ≠ v'.ownBlock := by
  rcases hv : v.ownBlock with _ | q
  · exact .inl rfl
  · right
    intro q'
    exact (own_tb h hv).ne (own_tb h' q'.symm) hn rfl
theorem TB.kept {w w' : World} {e e' : TypeId} {b base sz n : Nat} {v : Value} {xs : List Value} (h : TB w e b) (ho : w.ownsRow base e' sz v n xs) (hn : e ≠ e') (hg : w.grownBy w' v.ownBlock) : w'.heap[b]? = w.heap[b]? :=
  hg.block b h.lt (fun q => h.ne (own_tb ho q.symm) hn rfl)
/-- A slice of strings, in a block of strings. -/
def In9 (w : World) (a : Option Addr) (n c : Nat) (l : List ByteArray) : Prop := Strz w a n c l ∧ (n = 0 ∨ ∃ b o, a = some ⟨b, o, none⟩ ∧ TB w 9 b)
theorem Strz.block {w w' : World} {a : Option Addr} {n c : Nat} {l : List ByteArray} (h : Strz w a n c l) (hs : w.heap.size ≤ w'.heap.size) (hb : n = 0 ∨ ∃ b o, a = some ⟨b, o, none⟩ ∧ w'.heap[b]? = w.heap[b]?) : Strz w' a n c l := by
  obtain ⟨h1, h2, h3, h4, h5⟩ := h
  refine ⟨h1, h2, h3, h4, ?_⟩
  rcases h5 with h5 | ⟨b, off, e, hlt, hc⟩
  · exact .inl h5
  · rcases hb with hb | ⟨b', o', e', hb⟩
    · exact .inl hb
    · rw [e] at e'
      cases e'
      refine .inr ⟨b, off, e, Nat.lt_of_lt_of_le hlt hs, fun j hj => ?_⟩
      rw [World.cell?_of_block (a := ⟨b, off + j, none⟩) hb]
      exact hc j hj
theorem In9.block {w w' : World} {a : Option Addr} {n c : Nat} {l : List ByteArray} (h : In9 w a n c l) (hs : w.heap.size ≤ w'.heap.size) (hb : ∀ b, TB w 9 b → w'.heap[b]? = w.heap[b]?) : In9 w' a n c l := by
  obtain ⟨h1, h2⟩ := h
  rcases h2 with h2 | ⟨b, o, e, ht⟩
  · exact ⟨h1.block hs (.inl h2), .inl h2⟩
  · have := hb b ht
    refine ⟨h1.block hs (.inr ⟨b, o, e, this⟩), .inr ⟨b, o, e, ?_⟩⟩
    obtain ⟨arr, fz, q⟩ := ht
    exact ⟨arr, fz, this.trans q⟩
theorem In9.later {w w' : World} {a : Option Addr} {n c : Nat} {l : List ByteArray} (h : In9 w a n c l) (hb : Below w.heap.size w w') : In9 w' a n c l := h.block hb.size (fun b ht => hb.block b ht.lt)
theorem In9.kept {w w' : World} {a : Option Addr} {n c : Nat} {l : List ByteArray} {e' : TypeId} {base sz k : Nat} {v : Value} {xs : List Value} (h : In9 w a n c l) (ho : w.ownsRow base e' sz v k xs) (hn : 9 ≠ e') (hg : w.grownBy w' v.ownBlock) : In9 w' a n c l := h.block hg.size (fun _ ht => ht.kept ho hn hg)
theorem In9.set {w : World} {a : Option Addr} {n c : Nat} {l : List ByteArray} {g o : Nat} {u : Value} {e' : TypeId} (h : In9 w a n c l) (hg : TB w e' g) (hn : 9 ≠ e') : In9 (w.setCell ⟨g, o, none⟩ u) a n c l := h.block (by simp) (fun b ht => Below.heap_setCell _ _ _ _ (by show b ≠ g; exact ht.ne hg hn))
/-- A line that was taken. -/
structure Ln where
  side : Nat
  place : Nat
  wa : Option Addr
  wn : Nat
  wc : Nat
  ws : List ByteArray
def lnF (x : Ln) : List Value := [.int .i64 (x.side : Int), .int .i64 (x.place : Int), .slice x.wa x.wn x.wc]
def lnFlat (l : List Ln) : List Value := l.flatMap lnF
theorem lnFlat_length (l : List Ln) : (lnFlat l).length = l.length * 3 := by
  induction l with
  | nil => rfl
  | cons g l ih => simp [lnFlat, lnF] at ih ⊢; omega
theorem lnFlat_snoc (l : List Ln) (x : Ln) : lnFlat (l ++ [x]) = lnFlat l ++ lnF x := by simp [lnFlat]
theorem info64 : (Tryd.prog.info? 64).map (fun i => (i.zero, i.size, i.bytes)) = some (some (.agg #[.int .i64 0, .int .i64 0, .slice none 0 0]), 3, 40) := by kernel_rfl
theorem flat_snoc (l : List Ag) (x : Ag) : flat (l ++ [x]) = flat l ++ [.string x.name, .int .i64 x.room, .slice x.la x.ln x.lc] := by simp [flat]
def RowN (lo : Nat) (w : World) (v : Value) (n : Nat) (NL : List Ln) : Prop := w.ownsRow lo 64 3 v n (lnFlat NL) ∧ ∀ x ∈ NL, In9 w x.wa x.wn x.wc x.ws
def pickB (b : Bool) (x y : Value) : Value := if b then x else y
theorem own_set {w : World} {base : Nat} {e : TypeId} {sz : Nat} {v : Value} {n : Nat} {xs : List Value} {g o : Nat} {u : Value} (h : w.ownsRow base e sz v n xs) (hg : g < base) : (w.setCell ⟨g, o, none⟩ u).ownsRow base e sz v n xs := by
  refine ⟨h.1, ?_⟩
  rcases h.2 with q | ⟨g', cap, cur, q, hb, hh, h1, h2, h3, h4⟩
  · exact .inl q
  · refine .inr ⟨g', cap, cur, q, hb, ?_, h1, h2, h3, h4⟩
    rw [Below.heap_setCell _ _ _ _ (by show g' ≠ g; omega)]
    exact hh
theorem alloc_later (w : World) (o : Obj) : Below w.heap.size w (w.alloc o) := by go_grown
theorem cell_alloc {w : World} {o : Obj} {p : Addr} {u : Value} (h : w.cell? p = some u) : (w.alloc o).cell? p = some u := (World.grownBy_alloc w o none).cell h (by simp)
def Ap (va vb : Value) : Prop := vb.ownBlock = none ∨ vb.ownBlock ≠ va.ownBlock
theorem Ap.sym {va vb : Value} (h : Ap va vb) : Ap vb va := by
  unfold Ap at *
  rcases hv : va.ownBlock with _ | q
  · exact .inl rfl
  · right
    rcases h with h | h
    · rw [h]; exact fun e => by cases e
    · rw [hv] at h; exact fun e => h e.symm
theorem Ap.next {w : World} {base e sz k : Nat} {va va' vb : Value} {xs : List Value} (h : Ap va vb) (hb : w.ownsRow base e sz vb k xs) (h' : va'.ownBlock = va.ownBlock ∨ va'.ownBlock = some w.heap.size) : Ap va' vb := by
  rcases h' with h' | h'
  · unfold Ap at *; rw [h']; exact h
  · unfold Ap
    rcases hv : vb.ownBlock with _ | q
    · exact .inl rfl
    · right
      rw [h']
      intro e
      cases e
      have := (hb.lt _ hv).2
      omega
end Go.Proofs.YtajdijjecojdhaaDoor
