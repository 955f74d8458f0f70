import Derived.Test.YtbcchbhchfdbiaaWA
namespace Go.Proofs.Ytbcchbhchfdbiaa
open Go.RowKit
/-- The place of the first of the greatest. -/
def mst (u : Nat → Int) : Nat → Nat
  | 0 => 0
  | k + 1 => if u (mst u k) < u k then k else mst u k
theorem mst_lt {u : Nat → Int} : ∀ k, 1 ≤ k → mst u k < k := by
  intro k
  induction k with
  | zero => intro h; omega
  | succ k ih =>
    intro _
    rw [mst]
    by_cases c : u (mst u k) < u k
    · rw [if_pos c]; omega
    · rw [if_neg c]
      by_cases e : k = 0
      · subst e; show 0 < 1; omega
      · have := ih (by omega); omega
theorem mst_yes {u : Nat → Int} {k : Nat} (h : u (mst u k) < u k) : mst u (k + 1) = k := by rw [mst, if_pos h]
theorem mst_no {u : Nat → Int} {k : Nat} (h : ¬ u (mst u k) < u k) : mst u (k + 1) = mst u k := by rw [mst, if_neg h]
theorem mst_spec {u : Nat → Int} : ∀ k, (∀ j, j < k → u j ≤ u (mst u k)) ∧ ∀ j, j < mst u k → u j < u (mst u k) := by
  intro k
  induction k with
  | zero => exact ⟨fun j hj => by omega, fun j hj => by have : mst u 0 = 0 := rfl; omega⟩
  | succ k ih =>
    obtain ⟨h1, h2⟩ := ih
    by_cases c : u (mst u k) < u k
    · rw [mst_yes c]
      refine ⟨fun j hj => ?_, fun j hj => by have := h1 j hj; omega⟩
      by_cases e : j = k
      · subst e; exact Int.le_refl _
      · have := h1 j (by omega); omega
    · rw [mst_no c]
      refine ⟨fun j hj => ?_, h2⟩
      by_cases e : j = k
      · subst e; omega
      · exact h1 j (by omega)
set_option maxRecDepth 100000 in
set_option maxHeartbeats 4000000 in
theorem most_any (a : Option Addr) (n c : Nat) (L : List Sl) (who : Nat) (w : World) (h : Lsts w a n c L) (hn1 : 1 ≤ n) (hw : ∀ j, j < n → who < (slAt L j).ln) :
    Calls Try.prog 27 #[.slice a n c, .int .i64 who] w fun e w' => e = .returned (.int .i64 (mst (fun j => nth (slAt L j).ints who) n : Nat)) ∧ Below w.heap.size w w' := by
  have h1 := h.2.1
  have h2 := h.2.2.1
  unfold maxLen at h2
  obtain ⟨b, off, rfl, hb, hcell⟩ := h.cellAt hn1
  have HC : Hid (∀ W, Below w.heap.size w W → ∀ j, j < n → W.cell? ⟨b, off + j, none⟩ = some (.slice (slAt L j).la (slAt L j).ln (slAt L j).lc)) := fun W hW j hj => by rw [hW.cell (p := ⟨b, off + j, none⟩) hb, hcell j hj]
  have HI : Hid (∀ W, Below w.heap.size w W → ∀ j, j < n → ∃ bb oo, (slAt L j).la = some ⟨bb, oo, none⟩ ∧ W.cell? ⟨bb, oo + who, none⟩ = some (.int .i64 (nth (slAt L j).ints who)) ∧ who < (slAt L j).ln ∧ (slAt L j).ln ≤ (slAt L j).lc ∧ (slAt L j).lc ≤ 9223372036854775807) := fun W hW j hj => by
    have q := (h.mem (k := j) hj).later hW
    have hwj := hw j hj
    obtain ⟨bb, oo, e1, -, e3⟩ := q.nth (by omega)
    have r := q.2.2.1
    unfold maxLen at r
    exact ⟨bb, oo, e1, e3 who hwj, hwj, q.2.1, by omega⟩
  clear h hcell hw
  generalize hu : (fun j => nth (slAt L j).ints who) = u
  have HU : Hid (∀ j, nth (slAt L j).ints who = u j) := fun j => by rw [← hu]
  clear hu
  go_enter Try.func27, Try.ntmps27
  go_wp2
  go_loopw [10, 5, 6, 7] (fun i x _ _ wr => Hid (Below w.heap.size w wr) ∧ ∃ k : Nat, k ≤ n ∧ i = .int .i64 k ∧ x = .int .i64 (mst u k : Nat)) (fun i _ _ _ _ => n - (intOf i).toNat)
  case atStart => exact ⟨Below.refl _ _, 0, Nat.zero_le _, rfl, rfl⟩
  case round =>
    obtain ⟨HB, k, hk, rfl, rfl⟩ := hrel
    by_cases hlt : k < n
    · have hml : mst u k < n := by
        by_cases e : k = 0
        · subst e; show 0 < n; omega
        · have := mst_lt (u := u) k (by omega); omega
      have c1 := unhide HC _ (unhide HB) k hlt
      have c2 := unhide HC _ (unhide HB) _ hml
      obtain ⟨b1, o1, e1, y1, z1, z2, z3⟩ := unhide HI _ (unhide HB) k hlt
      obtain ⟨b2, o2, e2, y2, z4, z5, z6⟩ := unhide HI _ (unhide HB) _ hml
      rw [e1] at c1
      rw [e2] at c2
      rw [unhide HU] at y1 y2
      have HY := hide (fun q => mst_yes (u := u) (k := k) q)
      have HN := hide (fun q => mst_no (u := u) (k := k) q)
      generalize mst u k = m at *
      generalize (slAt L k).ln = l1 at *
      generalize (slAt L k).lc = l2 at *
      generalize (slAt L m).ln = l3 at *
      generalize (slAt L m).lc = l4 at *
      clear e1 e2
      by_cases hc : u m < u k
      · have HR := hide (unhide HY hc)
        clear HY HN
        generalize u m = p at *
        generalize u k = r at *
        go_wp2_with fail
        go_quiet (fail)
        go_wp2
        go_roundw
        case rel => exact ⟨(unhide HB).trans ((below_drewN _ _ _).mono (unhide HB).size), k + 1, by omega, by go_num, by rw [unhide HR]⟩
        case measure => simp [intOf]; omega
      · have HR := hide (unhide HN hc)
        clear HY HN
        generalize u m = p at *
        generalize u k = r at *
        go_wp2_with fail
        go_quiet (fail)
        go_wp2
        go_roundw
        case rel => exact ⟨(unhide HB).trans ((below_drewN _ _ _).mono (unhide HB).size), k + 1, by omega, by go_num, by rw [unhide HR]⟩
        case measure => simp [intOf]; omega
    · obtain rfl : n = k := by omega
      go_wp2
      go_ret
      exact ⟨rfl, HB⟩
end Go.Proofs.Ytbcchbhchfdbiaa
namespace Go.Proofs.Ytbcchbhchfdbiaa
open Go.RowKit
/-- A node: whose it is, its kids, what all get there. -/
structure Nd where
  pl : Int
  k : Sl
  p : Sl
def ndNone : Nd := ⟨0, slNone, slNone⟩
def ndAt (L : List Nd) (j : Nat) : Nd := L[j]?.getD ndNone
def ndV (d : Nd) : Value := .agg #[.int .i64 d.pl, d.k.val, d.p.val]
theorem ndAt_mem {L : List Nd} {j : Nat} (h : j < L.length) : ndAt L j ∈ L := by
  unfold ndAt
  rw [List.getElem?_eq_getElem h]
  exact List.getElem_mem h
def SlIn (w : World) (s : Sl) : Prop := Ints w s.la s.ln s.lc s.ints
theorem SlIn.later {w w' : World} {s : Sl} (h : SlIn w s) (hb : Below w.heap.size w w') : SlIn w' s := Ints.later h hb
/-- A slice of nodes as it lies: three cells a node. -/
def Nodes (w : World) (a : Option Addr) (n c : Nat) (L : List Nd) : Prop :=
  n = L.length ∧ n ≤ c ∧ c ≤ maxLen ∧ (∀ d ∈ L, SlIn w d.k ∧ SlIn w d.p) ∧
  (n = 0 ∨ ∃ b off, a = some ⟨b, off, none⟩ ∧ b < w.heap.size ∧ ∀ j, j < n →
    w.cell? ⟨b, off + j * 3, none⟩ = some (.int .i64 (ndAt L j).pl) ∧ w.cell? ⟨b, off + j * 3 + 1, none⟩ = some (.slice (ndAt L j).k.la (ndAt L j).k.ln (ndAt L j).k.lc) ∧
    w.cell? ⟨b, off + j * 3 + 2, none⟩ = some (.slice (ndAt L j).p.la (ndAt L j).p.ln (ndAt L j).p.lc))
theorem Nodes.later {w w' : World} {a : Option Addr} {n c : Nat} {L : List Nd} (h : Nodes w a n c L) (hb : Below w.heap.size w w') : Nodes w' a n c L := by
  obtain ⟨hn, hc, hm, hg, h⟩ := h
  refine ⟨hn, hc, hm, fun g m => ⟨(hg g m).1.later hb, (hg g m).2.later hb⟩, ?_⟩
  rcases h with h0 | ⟨b, off, rfl, hlt, hcell⟩
  · exact Or.inl h0
  · refine Or.inr ⟨b, off, rfl, Nat.lt_of_lt_of_le hlt hb.size, fun j hj => ?_⟩
    obtain ⟨h1, h2, h3⟩ := hcell j hj
    exact ⟨(hb.cell (p := ⟨b, off + j * 3, none⟩) hlt).trans h1, (hb.cell (p := ⟨b, off + j * 3 + 1, none⟩) hlt).trans h2, (hb.cell (p := ⟨b, off + j * 3 + 2, none⟩) hlt).trans h3⟩
theorem Nodes.mem {w : World} {a : Option Addr} {n c : Nat} {L : List Nd} (h : Nodes w a n c L) {j : Nat} (hj : j < n) : SlIn w (ndAt L j).k ∧ SlIn w (ndAt L j).p := h.2.2.2.1 _ (ndAt_mem (by have := h.1; omega))
theorem Nodes.cellAt {w : World} {a : Option Addr} {n c : Nat} {L : List Nd} (h : Nodes w a n c L) (hn : 0 < n) : ∃ b off, a = some ⟨b, off, none⟩ ∧ b < w.heap.size ∧ ∀ wr, Below w.heap.size w wr → ∀ j, j < n →
    wr.cell? ⟨b, off + j * 3, none⟩ = some (.int .i64 (ndAt L j).pl) ∧ wr.cell? ⟨b, off + j * 3 + 1, none⟩ = some (.slice (ndAt L j).k.la (ndAt L j).k.ln (ndAt L j).k.lc) ∧
    wr.cell? ⟨b, off + j * 3 + 2, none⟩ = some (.slice (ndAt L j).p.la (ndAt L j).p.ln (ndAt L j).p.lc) := by
  rcases h.2.2.2.2 with h0 | ⟨b, off, e, hlt, hcell⟩
  · omega
  · refine ⟨b, off, e, hlt, fun wr hb j hj => ?_⟩
    obtain ⟨h1, h2, h3⟩ := hcell j hj
    exact ⟨(hb.cell (p := ⟨b, off + j * 3, none⟩) hlt).trans h1, (hb.cell (p := ⟨b, off + j * 3 + 1, none⟩) hlt).trans h2, (hb.cell (p := ⟨b, off + j * 3 + 2, none⟩) hlt).trans h3⟩
/-- A tree as TreeOf numbers its nodes: those of node i are s i, .., s (i + 1) - 1. -/
structure BT (P n : Nat) (L : List Nd) (s : Nat → Nat) : Prop where
  len : L.length = n
  P1 : 1 ≤ P
  P5 : P ≤ 5
  n1 : 1 ≤ n
  n40 : n ≤ 40
  s0 : s 0 = 1
  sn : s n = n
  sS : ∀ i, i < n → s (i + 1) = s i + (ndAt L i).k.ln
  pos : ∀ i, i < n → i < s i
  kid : ∀ i, i < n → ∀ j, j < (ndAt L i).k.ln → nth (ndAt L i).k.ints j = ((s i + j : Nat) : Int)
  k5 : ∀ i, i < n → (ndAt L i).k.ln ≤ 5
  ender : ∀ i, i < n → (ndAt L i).k.ln = 0 → (ndAt L i).pl = 0 ∧ (ndAt L i).p.ln = P ∧ ∀ j, j < P → -999 ≤ nth (ndAt L i).p.ints j ∧ nth (ndAt L i).p.ints j ≤ 999
  mover : ∀ i, i < n → 0 < (ndAt L i).k.ln → 0 ≤ (ndAt L i).pl ∧ (ndAt L i).pl < P ∧ (ndAt L i).p.ln = 0
section
variable {P n : Nat} {L : List Nd} {s : Nat → Nat}
theorem BT.mono (h : BT P n L s) : ∀ d i, i + d ≤ n → s i ≤ s (i + d)
  | 0, i, _ => Nat.le_refl _
  | d + 1, i, hd => by
    have h1 := h.mono d i (by omega)
    have h2 := h.sS (i + d) (by omega)
    rw [show i + (d + 1) = i + d + 1 by omega, h2]
    omega
theorem BT.s_le (h : BT P n L s) {i : Nat} (hi : i ≤ n) : s i ≤ n := by
  have := h.mono (n - i) i (by omega)
  rw [show i + (n - i) = n by omega, h.sn] at this
  exact this
/-- A kid's number. -/
theorem BT.kid_lt (h : BT P n L s) {i j : Nat} (hi : i < n) (hj : j < (ndAt L i).k.ln) : i < s i + j ∧ s i + j < n := by
  have h1 := h.pos i hi
  have h2 := h.sS i hi
  have h3 := h.s_le (i := i + 1) (by omega)
  omega
end
def tV (P : Int) (a : Option Addr) (n c : Nat) : Value := .agg #[.int .i64 P, .slice a n c]
/-- The box in which a function has laid the tree, in a later world. -/
theorem tbox {w : World} (P : Int) (a : Option Addr) (n c : Nat) : ∃ W, w.alloc (.cells #[.int .i64 P, .slice a n c] 24) = W ∧ Below w.heap.size w W ∧ w.heap.size < W.heap.size ∧ (∀ wr, Below W.heap.size W wr → wr.cell? ⟨w.heap.size, 0, none⟩ = some (.int .i64 P) ∧ wr.cell? ⟨w.heap.size, 1, none⟩ = some (.slice a n c)) := by
  refine ⟨_, rfl, by go_grown, by simp, fun wr hb => ⟨(hb.cell (p := ⟨w.heap.size, 0, none⟩) (by simp)).trans (by simp [World.cell?_alloc_at]), (hb.cell (p := ⟨w.heap.size, 1, none⟩) (by simp)).trans (by simp [World.cell?_alloc_at])⟩⟩
end Go.Proofs.Ytbcchbhchfdbiaa
namespace Go.Proofs.Ytbcchbhchfdbiaa
open Go.RowKit
def nV (pl : Int) (ka : Option Addr) (kn kc : Nat) (qa : Option Addr) (qn qc : Nat) : Value := .agg #[.int .i64 pl, .slice ka kn kc, .slice qa qn qc]
def endB (P pl : Int) (kn qn : Nat) : Bool := decide (kn = 0) && decide (pl = 0) && decide ((qn : Int) = P)
def movB (P pl : Int) (kn qn : Nat) : Bool := decide (0 < kn) && decide (kn ≤ 5) && decide (0 ≤ pl) && decide (pl < P) && decide (qn = 0)
theorem isEnd_any (P pl : Int) (ka : Option Addr) (kn kc : Nat) (qa : Option Addr) (qn qc : Nat) (w : World) (h1 : kn ≤ 2 ^ 63 - 1) :
    Calls Try.prog 47 #[nV pl ka kn kc qa qn qc, .int .i64 P] w fun e w' => e = .returned (.bool (endB P pl kn qn)) ∧ Below w.heap.size w w' := by
  have hbW : Below w.heap.size w (w.alloc (.cells #[.int .i64 pl, .slice ka kn kc, .slice qa qn qc] 51)) := by go_grown
  unfold nV endB
  by_cases c1 : kn = 0
  · by_cases c2 : pl = 0
    · by_cases c3 : (qn : Int) = P
      · have d3 : ((qn : Int) == P) = true := by simp [c3]
        have hr : (decide (kn = 0) && decide (pl = 0) && decide ((qn : Int) = P)) = true := by simp [c1, c2, c3]
        rw [hr]
        subst c1 c2
        clear c3 hr
        go_enter Try.func47, Try.ntmps47
        go_wp2
        go_ret
        exact ⟨rfl, hbW⟩
      · have d3 : ((qn : Int) == P) = false := by simp [c3]
        have hr : (decide (kn = 0) && decide (pl = 0) && decide ((qn : Int) = P)) = false := by simp [c1, c2, c3]
        rw [hr]
        subst c1 c2
        clear c3 hr
        go_enter Try.func47, Try.ntmps47
        go_wp2
        go_ret
        exact ⟨rfl, hbW⟩
    · have d2 : (pl == 0) = false := by simp [c2]
      have hr : (decide (kn = 0) && decide (pl = 0) && decide ((qn : Int) = P)) = false := by simp [c1, c2]
      rw [hr]
      subst c1
      clear c2 hr
      go_enter Try.func47, Try.ntmps47
      go_wp2
      go_ret
      exact ⟨rfl, hbW⟩
  · have d1 : ((kn : Int) == 0) = false := by simp [c1]
    have hr : (decide (kn = 0) && decide (pl = 0) && decide ((qn : Int) = P)) = false := by simp [c1]
    rw [hr]
    clear c1 hr
    go_enter Try.func47, Try.ntmps47
    go_wp2
    go_ret
    exact ⟨rfl, hbW⟩
set_option maxHeartbeats 1000000 in
theorem isMove_any (P pl : Int) (ka : Option Addr) (kn kc : Nat) (qa : Option Addr) (qn qc : Nat) (w : World) (h1 : kn ≤ 2 ^ 63 - 1) (h2 : qn ≤ 2 ^ 63 - 1) :
    Calls Try.prog 48 #[nV pl ka kn kc qa qn qc, .int .i64 P] w fun e w' => e = .returned (.bool (movB P pl kn qn)) ∧ Below w.heap.size w w' := by
  have hbW : Below w.heap.size w (w.alloc (.cells #[.int .i64 pl, .slice ka kn kc, .slice qa qn qc] 51)) := by go_grown
  unfold nV
  obtain ⟨r, hr⟩ : ∃ r, r = movB P pl kn qn := ⟨_, rfl⟩
  rw [← hr]
  unfold movB at hr
  by_cases c1 : 0 < kn
  · by_cases c2 : kn ≤ 5
    · by_cases c3 : 0 ≤ pl
      · by_cases c4 : pl < P
        · by_cases c5 : qn = 0
          · have hr2 : r = true := by rw [hr]; simp [c1, c2, c3, c4, c5]
            subst hr2
            subst c5
            clear hr
            have d3 : decide (0 ≤ pl) = true := by simp [c3]
            have d4 : decide (pl < P) = true := by simp [c4]
            clear c3 c4
            go_enter Try.func48, Try.ntmps48
            go_wp2
            go_ret
            exact ⟨rfl, hbW⟩
          · have hr2 : r = false := by rw [hr]; simp [c5]
            subst hr2
            have d5 : ((qn : Int) == 0) = false := by simp [c5]
            clear hr c5
            have d3 : decide (0 ≤ pl) = true := by simp [c3]
            have d4 : decide (pl < P) = true := by simp [c4]
            clear c3 c4
            go_enter Try.func48, Try.ntmps48
            go_wp2
            go_ret
            exact ⟨rfl, hbW⟩
        · have hr2 : r = false := by rw [hr]; simp [c4]
          subst hr2
          have d4 : decide (pl < P) = false := by simp [c4]
          have d3 : decide (0 ≤ pl) = true := by simp [c3]
          clear hr c4 c3
          go_enter Try.func48, Try.ntmps48
          go_wp2
          go_ret
          exact ⟨rfl, hbW⟩
      · have hr2 : r = false := by rw [hr]; simp [c3]
        subst hr2
        have d3 : decide (0 ≤ pl) = false := by simp [c3]
        clear hr c3
        go_enter Try.func48, Try.ntmps48
        go_wp2
        go_ret
        exact ⟨rfl, hbW⟩
    · have hr2 : r = false := by rw [hr]; simp [c2]
      subst hr2
      have c2' : 5 < kn := by omega
      clear hr c2
      go_enter Try.func48, Try.ntmps48
      go_wp2
      go_ret
      exact ⟨rfl, hbW⟩
  · obtain rfl : kn = 0 := by omega
    have hr2 : r = false := by rw [hr]; simp
    subst hr2
    clear hr c1
    go_enter Try.func48, Try.ntmps48
    go_wp2
    go_ret
    exact ⟨rfl, hbW⟩
/-- What is said of a node. -/
def badP (x : Int) : Bool := decide (x < -999) || decide (999 < x)
theorem badP_yes {x : Int} (h : x < -999 ∨ 999 < x) : badP x = true := by unfold badP; simp; omega
theorem badP_no {x : Int} (h : ¬ (x < -999 ∨ 999 < x)) : badP x = false := by unfold badP; simp; omega
theorem any_yes {p : Int → Bool} {l : List Int} {k : Nat} (hk : k < l.length) (h : p (l[k]?.getD 0) = true) : l.any p = true := by
  rw [List.getElem?_eq_getElem hk] at h
  exact List.any_eq_true.2 ⟨l[k], List.getElem_mem hk, h⟩
theorem any_no {p : Int → Bool} {l : List Int} (h : ∀ q, q < l.length → p (l[q]?.getD 0) = false) : l.any p = false := by
  rw [List.any_eq_false]
  intro x hx
  obtain ⟨j, hj, e⟩ := List.getElem_of_mem hx
  have := h j hj
  rw [List.getElem?_eq_getElem hj, e] at this
  simp at this
  simp [this]
/-- The kid ahead of one, or the node itself. -/
def ahd (at' : Int) (l : List Int) : Nat → Int
  | 0 => at'
  | j + 1 => nth l j
def BadKid (n at' : Int) (l : List Int) (j : Nat) : Prop := nth l j ≤ ahd at' l j ∨ n ≤ nth l j
open Classical in
noncomputable def nodeE (P n at' : Int) (d : Nd) : Int :=
  if endB P d.pl d.k.ln d.p.ln = false ∧ movB P d.pl d.k.ln d.p.ln = false then 1 else if d.p.ints.any badP = true then 9 else if ∃ j, j < d.k.ints.length ∧ BadKid n at' d.k.ints j then 8 else 0
theorem nodeE_1 {P n a : Int} {d : Nd} (h1 : endB P d.pl d.k.ln d.p.ln = false) (h2 : movB P d.pl d.k.ln d.p.ln = false) : nodeE P n a d = 1 := by unfold nodeE; rw [if_pos ⟨h1, h2⟩]
theorem nodeE_9 {P n a : Int} {d : Nd} (h : ¬ (endB P d.pl d.k.ln d.p.ln = false ∧ movB P d.pl d.k.ln d.p.ln = false)) (h2 : d.p.ints.any badP = true) : nodeE P n a d = 9 := by unfold nodeE; rw [if_neg h, if_pos h2]
theorem nodeE_8 {P n a : Int} {d : Nd} (h : ¬ (endB P d.pl d.k.ln d.p.ln = false ∧ movB P d.pl d.k.ln d.p.ln = false)) (h2 : d.p.ints.any badP = false) {j : Nat} (hj : j < d.k.ints.length) (hb : BadKid n a d.k.ints j) : nodeE P n a d = 8 := by unfold nodeE; rw [if_neg h, if_neg (by rw [h2]; decide), if_pos ⟨j, hj, hb⟩]
theorem nodeE_0 {P n a : Int} {d : Nd} (h : ¬ (endB P d.pl d.k.ln d.p.ln = false ∧ movB P d.pl d.k.ln d.p.ln = false)) (h2 : d.p.ints.any badP = false) (h3 : ∀ j, j < d.k.ints.length → ¬ BadKid n a d.k.ints j) : nodeE P n a d = 0 := by
  unfold nodeE
  rw [if_neg h, if_neg (by rw [h2]; decide), if_neg]
  rintro ⟨j, hj, hb⟩
  exact h3 j hj hb
end Go.Proofs.Ytbcchbhchfdbiaa
namespace Go.Proofs.Ytbcchbhchfdbiaa
open Go.RowKit
set_option maxRecDepth 100000 in
set_option maxHeartbeats 4000000 in
theorem mayNode_any (P : Nat) (a : Option Addr) (n c : Nat) (at' : Nat) (d : Nd) (w : World) (hk : SlIn w d.k) (hq : SlIn w d.p) :
    Calls Try.prog 28 #[tV P a n c, .int .i64 at', nV d.pl d.k.la d.k.ln d.k.lc d.p.la d.p.ln d.p.lc] w fun e w' => e = .returned (.int .i64 (nodeE P n at' d)) ∧ Below w.heap.size w w' := by
  obtain ⟨pl, ⟨ka, kn, kc, kids⟩, ⟨qa, qn, qc, pay⟩⟩ := d
  have R1 := hide (fun x y => nodeE_1 (P := (P : Int)) (n := (n : Int)) (a := (at' : Int)) (d := ⟨pl, ⟨ka, kn, kc, kids⟩, ⟨qa, qn, qc, pay⟩⟩) x y)
  have R9 := hide (fun x y => nodeE_9 (P := (P : Int)) (n := (n : Int)) (a := (at' : Int)) (d := ⟨pl, ⟨ka, kn, kc, kids⟩, ⟨qa, qn, qc, pay⟩⟩) x y)
  have R8 := hide (fun x y j hj => nodeE_8 (P := (P : Int)) (n := (n : Int)) (a := (at' : Int)) (d := ⟨pl, ⟨ka, kn, kc, kids⟩, ⟨qa, qn, qc, pay⟩⟩) x y (j := j) hj)
  have R0 := hide (fun x y z => nodeE_0 (P := (P : Int)) (n := (n : Int)) (a := (at' : Int)) (d := ⟨pl, ⟨ka, kn, kc, kids⟩, ⟨qa, qn, qc, pay⟩⟩) x y z)
  generalize nodeE (P : Int) (n : Int) (at' : Int) ⟨pl, ⟨ka, kn, kc, kids⟩, ⟨qa, qn, qc, pay⟩⟩ = E at *
  unfold SlIn at hk hq
  simp only at hk hq R1 R9 R8 R0
  have k1 := hk.2.1
  have k2 := hk.2.2.1
  have q1 := hq.2.1
  have q2 := hq.2.2.1
  unfold maxLen at k2 q2
  have HKL : Hid (kn = kids.length) := hk.1
  have HQL : Hid (qn = pay.length) := hq.1
  have hbW : Below w.heap.size w ((w.alloc (.cells #[.int .i64 P, .slice a n c] 24)).alloc (.cells #[.int .i64 pl, .slice ka kn kc, .slice qa qn qc] 51)) := by go_grown
  obtain ⟨W, hW⟩ : ∃ W, (w.alloc (.cells #[.int .i64 (P : Int), .slice a n c] 24)).alloc (.cells #[.int .i64 pl, .slice ka kn kc, .slice qa qn qc] 51) = W := ⟨_, rfl⟩
  have HB : Hid (∀ wr, Below W.heap.size W wr → wr.cell? ⟨w.heap.size, 0, none⟩ = some (.int .i64 P) ∧ wr.cell? ⟨w.heap.size, 1, none⟩ = some (.slice a n c) ∧ wr.cell? ⟨w.heap.size + 1, 0, none⟩ = some (.int .i64 pl) ∧ wr.cell? ⟨w.heap.size + 1, 1, none⟩ = some (.slice ka kn kc) ∧ wr.cell? ⟨w.heap.size + 1, 2, none⟩ = some (.slice qa qn qc)) := fun wr hb => by
    have hs : W.heap.size = w.heap.size + 2 := by rw [← hW]; simp
    refine ⟨(hb.cell (p := ⟨w.heap.size, 0, none⟩) (by show w.heap.size < _; omega)).trans ?_, (hb.cell (p := ⟨w.heap.size, 1, none⟩) (by show w.heap.size < _; omega)).trans ?_, (hb.cell (p := ⟨w.heap.size + 1, 0, none⟩) (by show w.heap.size + 1 < _; omega)).trans ?_, (hb.cell (p := ⟨w.heap.size + 1, 1, none⟩) (by show w.heap.size + 1 < _; omega)).trans ?_, (hb.cell (p := ⟨w.heap.size + 1, 2, none⟩) (by show w.heap.size + 1 < _; omega)).trans ?_⟩ <;> rw [← hW] <;> simp [World.cell?_alloc_past, World.cell?_alloc_at]
  rw [hW] at hbW
  have HW := hide hW
  have HBT := hide (fun (wr : World) (hb : Below W.heap.size W wr) => Below.trans hbW (hb.mono hbW.size))
  have HKW := hide (hk.later hbW)
  have HQW := hide (hq.later hbW)
  have CE : Hid (∀ wr, Calls Try.prog 47 #[nV pl ka kn kc qa qn qc, .int .i64 (P : Int)] wr fun e w' => e = .returned (.bool (endB P pl kn qn)) ∧ Below wr.heap.size wr w') := fun wr => isEnd_any P pl ka kn kc qa qn qc wr (by omega)
  have CM : Hid (∀ wr, Calls Try.prog 48 #[nV pl ka kn kc qa qn qc, .int .i64 (P : Int)] wr fun e w' => e = .returned (.bool (movB P pl kn qn)) ∧ Below wr.heap.size wr w') := fun wr => isMove_any P pl ka kn kc qa qn qc wr (by omega) (by omega)
  obtain ⟨w0, w1, v0, v1, v2⟩ := unhide HB W (Below.refl _ _)
  clear hk hq hW hbW
  unfold tV nV at *
  go_enter Try.func28, Try.ntmps28
  go_wp2_with fail
  rw [unhide HW]
  go_wp2_with fail
  refine (unhide CE W).mono ?_
  rintro e w2 ⟨rfl, hb2⟩
  have HB2 := hide hb2
  clear hb2 w0 w1 v0 v1 v2
  obtain ⟨w0, w1, v0, v1, v2⟩ := unhide HB _ (unhide HB2)
  cases he : endB P pl kn qn with
  | true =>
    have HNX : Hid (¬ (endB P pl kn qn = false ∧ movB P pl kn qn = false)) := fun h => by rw [he] at h; cases h.1
    have HBQ := HB2
    clear he
    have HN : Hid (¬ (endB P pl kn qn = false ∧ movB P pl kn qn = false)) := HNX
    have R9 := hide (unhide R9 (unhide HN))
    have R8 := hide (unhide R8 (unhide HN))
    have R0 := hide (unhide R0 (unhide HN))
    have HBX := hide (unhide HBT _ (unhide HBQ))
    clear HN R1 CE CM
    go_wp2
    go_loop [27, 8] (fun i _ => ∃ k : Nat, k ≤ qn ∧ i = .int .i64 k ∧ ∀ q, q < k → badP (pay[q]?.getD 0) = false) (fun i _ => qn - (intOf i).toNat)
    case atStart => exact ⟨0, Nat.zero_le _, rfl, fun q hq => absurd hq (Nat.not_lt_zero _)⟩
    case round =>
      obtain ⟨k, hk, rfl, hall⟩ := hrel
      have HA := hide hall
      clear hall
      by_cases hlt : k < qn
      · obtain ⟨qb, qo, eqa, hqb, hqc⟩ := ((unhide HQW).later (unhide HBQ)).cellAt (by omega)
        subst eqa
        have hx := hqc k hlt
        clear hqc
        by_cases hb : pay[k]?.getD 0 < -999 ∨ 999 < pay[k]?.getD 0
        · have HR := hide (unhide R9 (any_yes (by have := unhide HQL; omega) (badP_yes hb)))
          generalize pay[k]?.getD 0 = x at *
          by_cases hb1 : x < -999
          · clear hb
            go_wp2
            go_ret
            exact ⟨ret_int (unhide HR).symm, unhide HBX⟩
          · have hb1' : -999 ≤ x := by omega
            have hb2 : 999 < x := by omega
            clear hb hb1
            go_wp2
            go_ret
            exact ⟨ret_int (unhide HR).symm, unhide HBX⟩
        · have HR : Hid (∀ q, q < k + 1 → badP (pay[q]?.getD 0) = false) := fun q hq => by
            by_cases e : q = k
            · rw [e]; exact badP_no hb
            · exact unhide HA q (by omega)
          generalize pay[k]?.getD 0 = x at *
          have hb1' : -999 ≤ x := by omega
          have hb2 : x ≤ 999 := by omega
          clear hb
          go_wp2
          exact ⟨⟨k + 1, by omega, by go_num, unhide HR⟩, by simp [intOf]; omega⟩
      · obtain rfl : qn = k := by omega
        have hna : pay.any badP = false := any_no (fun q hq => unhide HA q (by have := unhide HQL; omega))
        have R8 := hide (unhide R8 hna)
        have R0 := hide (unhide R0 hna)
        clear hna R9
        go_wp2
        go_loop [42, 9, 11] (fun i h _ => ∃ k : Nat, k ≤ kn ∧ i = .int .i64 k ∧ h = .int .i64 (ahd at' kids k) ∧ ∀ j, j < k → ¬ BadKid n at' kids j) (fun i _ _ => kn - (intOf i).toNat)
        case atStart => exact ⟨0, Nat.zero_le _, rfl, rfl, fun q hq => absurd hq (Nat.not_lt_zero _)⟩
        case round =>
          obtain ⟨k, hk, rfl, rfl, hall⟩ := hrel
          have HA := hide hall
          clear hall
          by_cases hlt : k < kn
          · obtain ⟨kb, ko, eka, hkb, hkc⟩ := ((unhide HKW).later (unhide HBQ)).nth (by omega)
            subst eka
            have hx := hkc k hlt
            clear hkc
            have hah : ahd at' kids (k + 1) = nth kids k := rfl
            by_cases hb : BadKid n at' kids k
            · have HR := hide (unhide R8 k (by have := unhide HKL; omega) hb)
              unfold BadKid at hb
              generalize nth kids k = x at *
              generalize ahd at' kids k = y at *
              by_cases hb1 : x ≤ y
              · have hd1 : decide (x ≤ y) = true := by simp [hb1]
                clear hb hb1
                go_wp2
                go_ret
                exact ⟨ret_int (unhide HR).symm, unhide HBX⟩
              · have hd1 : decide (x ≤ y) = false := by simp; omega
                have hd2 : decide ((n : Int) ≤ x) = true := by simp; omega
                clear hb hb1
                go_wp2
                go_ret
                exact ⟨ret_int (unhide HR).symm, unhide HBX⟩
            · have HR : Hid (∀ j, j < k + 1 → ¬ BadKid n at' kids j) := fun j hj => by
                by_cases e : j = k
                · rw [e]; exact hb
                · exact unhide HA j (by omega)
              unfold BadKid at hb
              have HAH := hide hah
              clear hah
              generalize nth kids k = x at *
              generalize ahd at' kids k = y at *
              have hd1 : decide (x ≤ y) = false := by simp; omega
              have hd2 : decide ((n : Int) ≤ x) = false := by simp; omega
              clear hb
              go_wp2
              exact ⟨⟨k + 1, by omega, by go_num, by rw [unhide HAH], unhide HR⟩, by simp [intOf]; omega⟩
          · obtain rfl : kn = k := by omega
            have HR := hide (unhide R0 (fun j hj => unhide HA j (by have := unhide HKL; omega)))
            go_wp2
            go_ret
            exact ⟨ret_int (unhide HR).symm, unhide HBX⟩
  | false =>
    have CM1 := hide (unhide CM w2)
    go_wp2_with fail
    refine (unhide CM1).mono ?_
    rintro e w3 ⟨rfl, hb3⟩
    have HB3 := hide ((unhide HB2).trans (hb3.mono (unhide HB2).size))
    clear hb3 w0 w1 v0 v1 v2 CM1
    obtain ⟨w0, w1, v0, v1, v2⟩ := unhide HB _ (unhide HB3)
    cases hm : movB P pl kn qn with
    | true =>
      have HNX : Hid (¬ (endB P pl kn qn = false ∧ movB P pl kn qn = false)) := fun h => by rw [hm] at h; cases h.2
      have HBQ := HB3
      clear he hm HB2
      have HN : Hid (¬ (endB P pl kn qn = false ∧ movB P pl kn qn = false)) := HNX
      have R9 := hide (unhide R9 (unhide HN))
      have R8 := hide (unhide R8 (unhide HN))
      have R0 := hide (unhide R0 (unhide HN))
      have HBX := hide (unhide HBT _ (unhide HBQ))
      clear HN R1 CE CM
      go_wp2
      go_loop [27, 8] (fun i _ => ∃ k : Nat, k ≤ qn ∧ i = .int .i64 k ∧ ∀ q, q < k → badP (pay[q]?.getD 0) = false) (fun i _ => qn - (intOf i).toNat)
      case atStart => exact ⟨0, Nat.zero_le _, rfl, fun q hq => absurd hq (Nat.not_lt_zero _)⟩
      case round =>
        obtain ⟨k, hk, rfl, hall⟩ := hrel
        have HA := hide hall
        clear hall
        by_cases hlt : k < qn
        · obtain ⟨qb, qo, eqa, hqb, hqc⟩ := ((unhide HQW).later (unhide HBQ)).cellAt (by omega)
          subst eqa
          have hx := hqc k hlt
          clear hqc
          by_cases hb : pay[k]?.getD 0 < -999 ∨ 999 < pay[k]?.getD 0
          · have HR := hide (unhide R9 (any_yes (by have := unhide HQL; omega) (badP_yes hb)))
            generalize pay[k]?.getD 0 = x at *
            by_cases hb1 : x < -999
            · clear hb
              go_wp2
              go_ret
              exact ⟨ret_int (unhide HR).symm, unhide HBX⟩
            · have hb1' : -999 ≤ x := by omega
              have hb2 : 999 < x := by omega
              clear hb hb1
              go_wp2
              go_ret
              exact ⟨ret_int (unhide HR).symm, unhide HBX⟩
          · have HR : Hid (∀ q, q < k + 1 → badP (pay[q]?.getD 0) = false) := fun q hq => by
              by_cases e : q = k
              · rw [e]; exact badP_no hb
              · exact unhide HA q (by omega)
            generalize pay[k]?.getD 0 = x at *
            have hb1' : -999 ≤ x := by omega
            have hb2 : x ≤ 999 := by omega
            clear hb
            go_wp2
            exact ⟨⟨k + 1, by omega, by go_num, unhide HR⟩, by simp [intOf]; omega⟩
        · obtain rfl : qn = k := by omega
          have hna : pay.any badP = false := any_no (fun q hq => unhide HA q (by have := unhide HQL; omega))
          have R8 := hide (unhide R8 hna)
          have R0 := hide (unhide R0 hna)
          clear hna R9
          go_wp2
          go_loop [42, 9, 11] (fun i h _ => ∃ k : Nat, k ≤ kn ∧ i = .int .i64 k ∧ h = .int .i64 (ahd at' kids k) ∧ ∀ j, j < k → ¬ BadKid n at' kids j) (fun i _ _ => kn - (intOf i).toNat)
          case atStart => exact ⟨0, Nat.zero_le _, rfl, rfl, fun q hq => absurd hq (Nat.not_lt_zero _)⟩
          case round =>
            obtain ⟨k, hk, rfl, rfl, hall⟩ := hrel
            have HA := hide hall
            clear hall
            by_cases hlt : k < kn
            · obtain ⟨kb, ko, eka, hkb, hkc⟩ := ((unhide HKW).later (unhide HBQ)).nth (by omega)
              subst eka
              have hx := hkc k hlt
              clear hkc
              have hah : ahd at' kids (k + 1) = nth kids k := rfl
              by_cases hb : BadKid n at' kids k
              · have HR := hide (unhide R8 k (by have := unhide HKL; omega) hb)
                unfold BadKid at hb
                generalize nth kids k = x at *
                generalize ahd at' kids k = y at *
                by_cases hb1 : x ≤ y
                · have hd1 : decide (x ≤ y) = true := by simp [hb1]
                  clear hb hb1
                  go_wp2
                  go_ret
                  exact ⟨ret_int (unhide HR).symm, unhide HBX⟩
                · have hd1 : decide (x ≤ y) = false := by simp; omega
                  have hd2 : decide ((n : Int) ≤ x) = true := by simp; omega
                  clear hb hb1
                  go_wp2
                  go_ret
                  exact ⟨ret_int (unhide HR).symm, unhide HBX⟩
              · have HR : Hid (∀ j, j < k + 1 → ¬ BadKid n at' kids j) := fun j hj => by
                  by_cases e : j = k
                  · rw [e]; exact hb
                  · exact unhide HA j (by omega)
                unfold BadKid at hb
                have HAH := hide hah
                clear hah
                generalize nth kids k = x at *
                generalize ahd at' kids k = y at *
                have hd1 : decide (x ≤ y) = false := by simp; omega
                have hd2 : decide ((n : Int) ≤ x) = false := by simp; omega
                clear hb
                go_wp2
                exact ⟨⟨k + 1, by omega, by go_num, by rw [unhide HAH], unhide HR⟩, by simp [intOf]; omega⟩
            · obtain rfl : kn = k := by omega
              have HR := hide (unhide R0 (fun j hj => unhide HA j (by have := unhide HKL; omega)))
              go_wp2
              go_ret
              exact ⟨ret_int (unhide HR).symm, unhide HBX⟩
    | false =>
      have HR := hide (unhide R1 he hm)
      have HBX := hide (unhide HBT _ (unhide HB3))
      clear he hm
      go_wp2
      go_ret
      exact ⟨ret_int (unhide HR).symm, unhide HBX⟩
end Go.Proofs.Ytbcchbhchfdbiaa
