import Derived.Test.YtodbnjainpjkcaaJ
namespace Go.Proofs.Ytodbnjainpjkcaa
open Go.RowKit
/-- A number for a place, or for nobody. -/
def optI : Option Nat → Int
  | none => -1
  | some k => k
def wideP (lL : List Ag) (k : Nat) : Bool := decide (1 < (agAt lL k).room)
def notOneP (lL : List Ag) (k : Nat) : Bool := decide (¬ (agAt lL k).room = 1)
def wideE (o : Option Nat) : Int := if o.isSome = true then 9 else 0
def matchE (lL lR : List Ag) : Int := if mayE lL lR = 0 then wideE (firstFrom (wideP lL) lL.length 0) else mayE lL lR
def outP (nR : Nat) (ws : List Int) (k : Nat) : Bool := decide (ws[k]?.getD 0 < -1) || decide ((nR : Int) ≤ ws[k]?.getD 0)
def overP (lR : List Ag) (ws : List Int) (r : Nat) : Bool := decide ((agAt lR r).room < (ws.count (r : Int) : Int))
def overE (o : Option Nat) : Int := if o.isSome = true then 2 else 0
def outE (o : Option Nat) (y : Int) : Int := if o.isSome = true then 8 else y
def mayBeE (lL lR : List Ag) (ws : List Int) : Int :=
  if ws.length = lL.length then outE (firstFrom (outP lR.length ws) ws.length 0) (overE (firstFrom (overP lR ws) lR.length 0)) else 7
def withE (lL lR : List Ag) (ws : List Int) : Int := if matchE lL lR = 0 then mayBeE lL lR ws else matchE lL lR
def unwP (lL lR : List Ag) (ws : List Int) (l : Nat) : Bool := decide (¬ ws[l]?.getD 0 = -1) && !likeB lL lR l (ws[l]?.getD 0).toNat
def unwD (lL lR : List Ag) (ws : List Int) (l : Nat) : Bool := decide (0 ≤ ws[l]?.getD 0) && !likeB lL lR l (ws[l]?.getD 0).toNat
def rowOf (P : Nat → Nat → Bool) (nR l : Nat) : Option Nat := firstFrom (P l) nR 0
def twoOf (P : Nat → Nat → Bool) (nL nR : Nat) : Option Nat := firstFrom (fun l => (rowOf P nR l).isSome) nL 0
def twoR (P : Nat → Nat → Bool) (nL nR : Nat) : Int := match twoOf P nL nR with | none => -1 | some l => optI (rowOf P nR l)
/-- All have room. -/
theorem may_room {all : List Ag} {nL nR : Nat} : ∀ d k, all.length - k = d → mayFrom all nL nR k = 0 → ∀ i, k ≤ i → i < all.length → 1 ≤ (agAt all i).room := by
  intro d
  induction d with
  | zero => intro k hk _ i h1 h2; omega
  | succ d ih =>
    intro k hk h i h1 h2
    rw [mayFrom_step (by omega)] at h
    by_cases hz : agE (agAt all k) (all.take k) (if k < nL then (nR : Int) else nL) = 0
    · rw [if_pos hz] at h
      by_cases hi : i = k
      · subst hi
        unfold agE at hz
        by_cases c1 : nameB (agAt all i).name = false
        · rw [if_pos c1] at hz; omega
        rw [if_neg c1] at hz
        by_cases c2 : 0 ≤ aidxFrom (all.take i) (agAt all i).name 0
        · rw [if_pos c2] at hz; omega
        rw [if_neg c2] at hz
        by_cases c3 : (agAt all i).room < 1 ∨ 4 < (agAt all i).room
        · rw [if_pos c3] at hz; omega
        omega
      · exact ih (k + 1) (by omega) h i (by omega) h2
    · rw [if_neg hz] at h
      exact absurd h hz
theorem may_six {lL lR : List Ag} (h : mayE lL lR = 0) : lL.length ≤ 6 ∧ lR.length ≤ 6 := by
  unfold mayE at h
  by_cases c : 6 < lL.length ∨ 6 < lR.length
  · rw [if_pos c] at h; omega
  · omega
theorem agAt_left {lL lR : List Ag} {k : Nat} (h : k < lL.length) : agAt (lL ++ lR) k = agAt lL k := by
  unfold agAt
  rw [List.getElem?_append_left h]
theorem agAt_right {lL lR : List Ag} {k : Nat} : agAt (lL ++ lR) (lL.length + k) = agAt lR k := by
  unfold agAt
  rw [List.getElem?_append_right (by omega)]
  congr 2
  omega
theorem room_left {lL lR : List Ag} (h : mayE lL lR = 0) {k : Nat} (hk : k < lL.length) : 1 ≤ (agAt lL k).room := by
  have h' := h
  unfold mayE at h'
  rw [if_neg (by have := may_six h; omega)] at h'
  have := may_room _ 0 rfl h' k (Nat.zero_le _) (by rw [List.length_append]; omega)
  rwa [agAt_left hk] at this
theorem room_right {lL lR : List Ag} (h : mayE lL lR = 0) {k : Nat} (hk : k < lR.length) : 1 ≤ (agAt lR k).room := by
  have h' := h
  unfold mayE at h'
  rw [if_neg (by have := may_six h; omega)] at h'
  have := may_room _ 0 rfl h' (lL.length + k) (Nat.zero_le _) (by rw [List.length_append]; omega)
  rwa [agAt_right] at this
theorem match_may {lL lR : List Ag} (h : matchE lL lR = 0) : mayE lL lR = 0 := by
  unfold matchE at h
  by_cases c : mayE lL lR = 0
  · exact c
  · rw [if_neg c] at h; exact absurd h c
theorem match_d (lL lR : List Ag) (h : mayE lL lR = 0) : firstFrom (notOneP lL) lL.length 0 = firstFrom (wideP lL) lL.length 0 := by
  refine firstFrom_ext (fun i hi => ?_)
  have := room_left h hi
  unfold notOneP wideP
  by_cases c : (agAt lL i).room = 1
  · rw [decide_eq_false (by omega), decide_eq_false (by omega)]
  · rw [decide_eq_true c, decide_eq_true (by omega)]
theorem isSome_none {o : Option Nat} (h : ¬ o.isSome = true) : o = none := by
  cases o with
  | none => rfl
  | some k => exact absurd rfl h
/-- What it means that it may be. -/
theorem mayBe_ok {lL lR : List Ag} {ws : List Int} (h : mayBeE lL lR ws = 0) : ws.length = lL.length ∧ (∀ k, k < ws.length → -1 ≤ ws[k]?.getD 0 ∧ ws[k]?.getD 0 < lR.length) := by
  unfold mayBeE at h
  by_cases c : ws.length = lL.length
  · rw [if_pos c] at h
    refine ⟨c, fun k hk => ?_⟩
    unfold outE at h
    by_cases c2 : (firstFrom (outP lR.length ws) ws.length 0).isSome = true
    · rw [if_pos c2] at h; omega
    · have := firstFrom_none (isSome_none c2) hk
      unfold outP at this
      rw [Bool.or_eq_false_iff] at this
      have h1 := of_decide_eq_false this.1
      have h2 := of_decide_eq_false this.2
      omega
  · rw [if_neg c] at h; omega
theorem unw_d {lL lR : List Ag} {ws : List Int} (h : mayBeE lL lR ws = 0) : firstFrom (unwD lL lR ws) ws.length 0 = firstFrom (unwP lL lR ws) ws.length 0 := by
  refine firstFrom_ext (fun i hi => ?_)
  have := (mayBe_ok h).2 i hi
  unfold unwD unwP
  by_cases c : ws[i]?.getD 0 = -1
  · rw [decide_eq_false (by omega), decide_eq_false (by omega)]
  · rw [decide_eq_true (by omega), decide_eq_true c]
theorem unw_none {lL lR : List Ag} {ws : List Int} (h : firstFrom (unwP lL lR ws) ws.length 0 = none) {k : Nat} (hk : k < ws.length) (hne : ws[k]?.getD 0 ≠ -1) : likeB lL lR k (ws[k]?.getD 0).toNat = true := by
  have := firstFrom_none h hk
  unfold unwP at this
  rw [decide_eq_true hne, Bool.true_and] at this
  simpa using this
theorem row_ext {P Q : Nat → Nat → Bool} {nR l : Nat} (h : ∀ r, r < nR → P l r = Q l r) : rowOf P nR l = rowOf Q nR l := firstFrom_ext h
theorem two_ext {P Q : Nat → Nat → Bool} {nL nR : Nat} (h : ∀ l, l < nL → ∀ r, r < nR → P l r = Q l r) : twoOf P nL nR = twoOf Q nL nR :=
  firstFrom_ext (fun l hl => by rw [row_ext (h l hl)])
theorem firstFrom_lt {P : Nat → Bool} {n m : Nat} (h : firstFrom P n 0 = some m) : m < n := by
  rcases firstFrom_spec P n _ 0 rfl with ⟨h1, _⟩ | ⟨q, _, h2, _, h4, _⟩
  · rw [h] at h1; cases h1
  · rw [h] at h4; cases h4; exact h2
theorem twoR_ext {P Q : Nat → Nat → Bool} {nL nR : Nat} (h : ∀ l, l < nL → ∀ r, r < nR → P l r = Q l r) : twoR P nL nR = twoR Q nL nR := by
  unfold twoR
  rw [two_ext h]
  cases hq : twoOf Q nL nR with
  | none => rfl
  | some l => exact congrArg optI (row_ext (h l (firstFrom_lt hq)))
/-- The two walks over all pairs say the same. -/
theorem bad_would_all {lL lR : List Ag} {ws : List Int} (hm : matchE lL lR = 0) (hb : mayBeE lL lR ws = 0) (hu : firstFrom (unwP lL lR ws) ws.length 0 = none) :
    ∀ l, l < lL.length → ∀ r, r < lR.length → badB lL lR ws l r = wouldB lL lR ws l r := by
  intro l hl r hr
  obtain ⟨h1, h2⟩ := mayBe_ok hb
  exact bad_would lL lR ws l r (by omega) (room_right (match_may hm) hr) (fun k hk => (h2 k hk).1) (fun k hk hne => unw_none hu hk hne)
end Go.Proofs.Ytodbnjainpjkcaa
