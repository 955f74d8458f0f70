import Derived.Test.YtbcchbhchfdbiaaC
namespace Go.Proofs.Ytbcchbhchfdbiaa
open Go.RowKit
def nV (pl : Int) (ka : Option Addr) (kn kc : Nat) (qa : Option Addr) (qn qc : Nat) : Value := .agg #[.int .i64 pl, .slice ka kn kc, .slice qa qn qc]
def endB (P pl : Int) (kn qn : Nat) : Bool := decide (kn = 0) && decide (pl = 0) && decide ((qn : Int) = P)
def movB (P pl : Int) (kn qn : Nat) : Bool := decide (0 < kn) && decide (kn ≤ 5) && decide (0 ≤ pl) && decide (pl < P) && decide (qn = 0)
theorem isEnd_any (P pl : Int) (ka : Option Addr) (kn kc : Nat) (qa : Option Addr) (qn qc : Nat) (w : World) (h1 : kn ≤ 2 ^ 63 - 1) :
    Calls Try.prog 47 #[nV pl ka kn kc qa qn qc, .int .i64 P] w fun e w' => e = .returned (.bool (endB P pl kn qn)) ∧ Below w.heap.size w w' := by
  have hbW : Below w.heap.size w (w.alloc (.cells #[.int .i64 pl, .slice ka kn kc, .slice qa qn qc] 51)) := by go_grown
  unfold nV endB
  by_cases c1 : kn = 0
  · by_cases c2 : pl = 0
    · by_cases c3 : (qn : Int) = P
      · have d3 : ((qn : Int) == P) = true := by simp [c3]
        have hr : (decide (kn = 0) && decide (pl = 0) && decide ((qn : Int) = P)) = true := by simp [c1, c2, c3]
        rw [hr]
        subst c1 c2
        clear c3 hr
        go_enter Try.func47, Try.ntmps47
        go_wp2
        go_ret
        exact ⟨rfl, hbW⟩
      · have d3 : ((qn : Int) == P) = false := by simp [c3]
        have hr : (decide (kn = 0) && decide (pl = 0) && decide ((qn : Int) = P)) = false := by simp [c1, c2, c3]
        rw [hr]
        subst c1 c2
        clear c3 hr
        go_enter Try.func47, Try.ntmps47
        go_wp2
        go_ret
        exact ⟨rfl, hbW⟩
    · have d2 : (pl == 0) = false := by simp [c2]
      have hr : (decide (kn = 0) && decide (pl = 0) && decide ((qn : Int) = P)) = false := by simp [c1, c2]
      rw [hr]
      subst c1
      clear c2 hr
      go_enter Try.func47, Try.ntmps47
      go_wp2
      go_ret
      exact ⟨rfl, hbW⟩
  · have d1 : ((kn : Int) == 0) = false := by simp [c1]
    have hr : (decide (kn = 0) && decide (pl = 0) && decide ((qn : Int) = P)) = false := by simp [c1]
    rw [hr]
    clear c1 hr
    go_enter Try.func47, Try.ntmps47
    go_wp2
    go_ret
    exact ⟨rfl, hbW⟩
set_option maxHeartbeats 1000000 in
theorem isMove_any (P pl : Int) (ka : Option Addr) (kn kc : Nat) (qa : Option Addr) (qn qc : Nat) (w : World) (h1 : kn ≤ 2 ^ 63 - 1) (h2 : qn ≤ 2 ^ 63 - 1) :
    Calls Try.prog 48 #[nV pl ka kn kc qa qn qc, .int .i64 P] w fun e w' => e = .returned (.bool (movB P pl kn qn)) ∧ Below w.heap.size w w' := by
  have hbW : Below w.heap.size w (w.alloc (.cells #[.int .i64 pl, .slice ka kn kc, .slice qa qn qc] 51)) := by go_grown
  unfold nV
  obtain ⟨r, hr⟩ : ∃ r, r = movB P pl kn qn := ⟨_, rfl⟩
  rw [← hr]
  unfold movB at hr
  by_cases c1 : 0 < kn
  · by_cases c2 : kn ≤ 5
    · by_cases c3 : 0 ≤ pl
      · by_cases c4 : pl < P
        · by_cases c5 : qn = 0
          · have hr2 : r = true := by rw [hr]; simp [c1, c2, c3, c4, c5]
            subst hr2
            subst c5
            clear hr
            have d3 : decide (0 ≤ pl) = true := by simp [c3]
            have d4 : decide (pl < P) = true := by simp [c4]
            clear c3 c4
            go_enter Try.func48, Try.ntmps48
            go_wp2
            go_ret
            exact ⟨rfl, hbW⟩
          · have hr2 : r = false := by rw [hr]; simp [c5]
            subst hr2
            have d5 : ((qn : Int) == 0) = false := by simp [c5]
            clear hr c5
            have d3 : decide (0 ≤ pl) = true := by simp [c3]
            have d4 : decide (pl < P) = true := by simp [c4]
            clear c3 c4
            go_enter Try.func48, Try.ntmps48
            go_wp2
            go_ret
            exact ⟨rfl, hbW⟩
        · have hr2 : r = false := by rw [hr]; simp [c4]
          subst hr2
          have d4 : decide (pl < P) = false := by simp [c4]
          have d3 : decide (0 ≤ pl) = true := by simp [c3]
          clear hr c4 c3
          go_enter Try.func48, Try.ntmps48
          go_wp2
          go_ret
          exact ⟨rfl, hbW⟩
      · have hr2 : r = false := by rw [hr]; simp [c3]
        subst hr2
        have d3 : decide (0 ≤ pl) = false := by simp [c3]
        clear hr c3
        go_enter Try.func48, Try.ntmps48
        go_wp2
        go_ret
        exact ⟨rfl, hbW⟩
    · have hr2 : r = false := by rw [hr]; simp [c2]
      subst hr2
      have c2' : 5 < kn := by omega
      clear hr c2
      go_enter Try.func48, Try.ntmps48
      go_wp2
      go_ret
      exact ⟨rfl, hbW⟩
  · obtain rfl : kn = 0 := by omega
    have hr2 : r = false := by rw [hr]; simp
    subst hr2
    clear hr c1
    go_enter Try.func48, Try.ntmps48
    go_wp2
    go_ret
    exact ⟨rfl, hbW⟩
/-- What is said of a node. -/
def badP (x : Int) : Bool := decide (x < -999) || decide (999 < x)
theorem badP_yes {x : Int} (h : x < -999 ∨ 999 < x) : badP x = true := by unfold badP; simp; omega
theorem badP_no {x : Int} (h : ¬ (x < -999 ∨ 999 < x)) : badP x = false := by unfold badP; simp; omega
theorem any_yes {p : Int → Bool} {l : List Int} {k : Nat} (hk : k < l.length) (h : p (l[k]?.getD 0) = true) : l.any p = true := by
  rw [List.getElem?_eq_getElem hk] at h
  exact List.any_eq_true.2 ⟨l[k], List.getElem_mem hk, h⟩
theorem any_no {p : Int → Bool} {l : List Int} (h : ∀ q, q < l.length → p (l[q]?.getD 0) = false) : l.any p = false := by
  rw [List.any_eq_false]
  intro x hx
  obtain ⟨j, hj, e⟩ := List.getElem_of_mem hx
  have := h j hj
  rw [List.getElem?_eq_getElem hj, e] at this
  simp at this
  simp [this]
/-- The kid ahead of one, or the node itself. -/
def ahd (at' : Int) (l : List Int) : Nat → Int
  | 0 => at'
  | j + 1 => nth l j
def BadKid (n at' : Int) (l : List Int) (j : Nat) : Prop := nth l j ≤ ahd at' l j ∨ n ≤ nth l j
open Classical in
noncomputable def nodeE (P n at' : Int) (d : Nd) : Int :=
  if endB P d.pl d.k.ln d.p.ln = false ∧ movB P d.pl d.k.ln d.p.ln = false then 1 else if d.p.ints.any badP = true then 9 else if ∃ j, j < d.k.ints.length ∧ BadKid n at' d.k.ints j then 8 else 0
theorem nodeE_1 {P n a : Int} {d : Nd} (h1 : endB P d.pl d.k.ln d.p.ln = false) (h2 : movB P d.pl d.k.ln d.p.ln = false) : nodeE P n a d = 1 := by unfold nodeE; rw [if_pos ⟨h1, h2⟩]
theorem nodeE_9 {P n a : Int} {d : Nd} (h : ¬ (endB P d.pl d.k.ln d.p.ln = false ∧ movB P d.pl d.k.ln d.p.ln = false)) (h2 : d.p.ints.any badP = true) : nodeE P n a d = 9 := by unfold nodeE; rw [if_neg h, if_pos h2]
theorem nodeE_8 {P n a : Int} {d : Nd} (h : ¬ (endB P d.pl d.k.ln d.p.ln = false ∧ movB P d.pl d.k.ln d.p.ln = false)) (h2 : d.p.ints.any badP = false) {j : Nat} (hj : j < d.k.ints.length) (hb : BadKid n a d.k.ints j) : nodeE P n a d = 8 := by unfold nodeE; rw [if_neg h, if_neg (by rw [h2]; decide), if_pos ⟨j, hj, hb⟩]
theorem nodeE_0 {P n a : Int} {d : Nd} (h : ¬ (endB P d.pl d.k.ln d.p.ln = false ∧ movB P d.pl d.k.ln d.p.ln = false)) (h2 : d.p.ints.any badP = false) (h3 : ∀ j, j < d.k.ints.length → ¬ BadKid n a d.k.ints j) : nodeE P n a d = 0 := by
  unfold nodeE
  rw [if_neg h, if_neg (by rw [h2]; decide), if_neg]
  rintro ⟨j, hj, hb⟩
  exact h3 j hj hb
end Go.Proofs.Ytbcchbhchfdbiaa
