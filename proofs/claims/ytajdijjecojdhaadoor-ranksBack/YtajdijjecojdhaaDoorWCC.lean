import Derived.Test.YtajdijjecojdhaaDoorWG4
import Derived.BigQuiet
namespace Go.Proofs.YtajdijjecojdhaaDoor
open Go.RowKit
def numB (x : ByteArray) : Bool := if h : 0 < x.size then digFrom x 0 && (decide (x.size = 1) || decide (x[0].toNat ≠ 48)) else false
def roomV (x : ByteArray) : Option Int := if h : 0 < x.size then (if x.size = 1 ∧ 49 ≤ x[0].toNat ∧ x[0].toNat ≤ 52 then some ((x[0].toNat : Int) - 48) else none) else none
theorem room_num {x : ByteArray} (h : numB x = true) :
    (Lib.atoiAll x.data.toList = .range ∧ roomV x = none) ∨ ∃ u : Nat, Lib.atoiAll x.data.toList = .ok (u : Int) ∧ ((1 ≤ u ∧ u ≤ 4 ∧ roomV x = some (u : Int)) ∨ (¬ (1 ≤ u ∧ u ≤ 4) ∧ roomV x = none)) := by
  unfold numB at h
  split at h
  · rename_i h0
    rw [Bool.and_eq_true] at h
    have hd := h.1
    have hm := dig_mem hd
    have hl : x.data.toList.length = x.size := by simp
    have he : x.data.toList[0]? = some x[0] := by
      rw [List.getElem?_eq_getElem (by omega)]; rfl
    have hrn : x.size ≠ 1 → roomV x = none := fun h1 => by unfold roomV; rw [dif_pos h0, if_neg (by omega)]
    rcases atoi_num hd h0 with hr | ⟨u, ho, hp⟩
    · refine Or.inl ⟨hr, hrn fun e1 => ?_⟩
      have : ∃ c, x.data.toList = [c] := by
        generalize x.data.toList = l at *
        match l with
        | [] => simp at hl; omega
        | [c] => exact ⟨c, rfl⟩
        | c :: d :: r => simp at hl; omega
      obtain ⟨c, hc⟩ := this
      have hcm := hm c (by rw [hc]; simp)
      rw [hc] at hr
      unfold Lib.atoiAll at hr
      simp only [] at hr
      rw [if_neg (by omega), Lib.parseMag, if_neg (by simp), pu_one hcm] at hr
      simp only [] at hr
      rw [if_neg (by omega), if_neg (by omega)] at hr
      cases hr
    · refine Or.inr ⟨u, ho, ?_⟩
      generalize hll : x.data.toList = l at *
      match l with
      | [] => simp at hl; omega
      | [c] =>
        have hcm := hm c (by simp)
        rw [pu_one hcm] at hp
        injection hp with hp
        have hx0 : x[0] = c := by simpa using he.symm
        have h1 : x.size = 1 := by simpa using hl.symm
        unfold roomV
        rw [dif_pos h0, hx0]
        by_cases hq : 1 ≤ u ∧ u ≤ 4
        · refine Or.inl ⟨hq.1, hq.2, ?_⟩
          rw [if_pos ⟨h1, by omega, by omega⟩]
          congr 1
          omega
        · refine Or.inr ⟨hq, ?_⟩
          rw [if_neg (by omega)]
      | c :: d :: r =>
        have hcm := hm c (by simp)
        have h1 : x.size ≠ 1 := by simp at hl; omega
        have hx0 : x[0] = c := by simpa using he.symm
        have hn : c.toNat ≠ 48 := by
          have := h.2
          rw [Bool.or_eq_true, decide_eq_true_eq, decide_eq_true_eq, hx0] at this
          rcases this with e | e
          · exact absurd e h1
          · exact e
        have := pu_two hcm hn hp
        exact Or.inr ⟨by omega, hrn h1⟩
  · cases h
/-- What the reader leans on of the package's variables. -/
def Glob (w : World) : Prop := (∃ m, w.cell? ⟨0, 0, none⟩ = some (.int .i64 m)) ∧ ∃ ev, w.cell? ⟨5, 0, none⟩ = some ev ∧ (ev = .nilIface ∨ ∃ te pe, ev = .iface te pe)
theorem Glob.later {w w' : World} (h : Glob w) (hb : Below w.heap.size w w') : Glob w' := by
  obtain ⟨⟨m, h1⟩, ev, h2, h3⟩ := h
  exact ⟨⟨m, (hb.cell (p := ⟨0, 0, none⟩) (World.block_lt_of_cell? w _ h1)).trans h1⟩, ev, (hb.cell (p := ⟨5, 0, none⟩) (World.block_lt_of_cell? w _ h2)).trans h2, h3⟩
theorem isNumB_any (s : ByteArray) (w : World) (hs : s.size ≤ maxLen) (h1 : 0 < s.size) :
    Calls Tryd.prog 67 #[.string s] w fun e w' => e = .returned (.bool (numB s)) ∧ w' = w := by
  unfold numB
  rw [dif_pos h1]
  exact isNumber_any s w hs h1
theorem below_bytes (w : World) (e : TypeId) (s : ByteArray) : Below w.heap.size w (Lib.bytesWorld w e s) :=
  ⟨rfl, rfl, rfl, by rw [Lib.bytesWorld_size]; omega, fun j hj => Lib.bytesWorld_at_old w e s j hj⟩
theorem atoi_ok (s : ByteArray) (hs : s.size ≤ 281474976710656) (v : Int) (h : Lib.atoiAll s.data.toList = .ok v) (w : World) :
    Calls Tryd.prog 68 #[.string s] w fun e w' => e = .returned (.tuple #[.int .i64 v, .nilIface]) ∧ Below w.heap.size w w' := by
  refine (Tryd.strconv_Atoi_ok s (by omega) v h w).mono ?_
  rintro e w' ⟨rfl, rfl | ⟨t, rfl⟩⟩
  · exact ⟨rfl, Below.refl _ _⟩
  · exact ⟨rfl, below_bytes w 5 t⟩
theorem atoi_range (s : ByteArray) (hs : s.size ≤ 281474976710656) (h : Lib.atoiAll s.data.toList = .range) (w : World) (hg : Glob w) :
    Calls Tryd.prog 68 #[.string s] w fun e w' => ∃ N, e = .returned (.tuple #[.int .i64 (Lib.atoiSat s.data.toList), .iface 141 (.pointer (some ⟨N, 0, none⟩))]) ∧ Below w.heap.size w w' := by
  obtain ⟨_, ev, h1, h2⟩ := hg
  refine (Tryd.strconv_Atoi_range s hs h ev w h1 h2).mono ?_
  rintro e w' ⟨N, rfl, _, _, hb⟩
  exact ⟨N, rfl, hb⟩
/-- What 'takeRoom' takes. -/
def roomP : List ByteArray → Except Int (Int × List ByteArray)
  | [] => .ok (1, [])
  | x :: t => if (x.toList == [58]) = true then .ok (1, x :: t) else if numB x = true then (match roomV x with | some r => .ok (r, t) | none => .error 9) else .error 3
theorem takeRoom_nil (a : Option Addr) (c : Nat) (w : World) :
    Calls Tryd.prog 50 #[.slice a 0 c] w fun e w' => e = .returned (.tuple #[.int .i64 1, .slice a 0 c]) ∧ w' = w := by
  go_enter Tryd.func50, Tryd.ntmps50
  go_wp2
  go_ret2
  exact ⟨rfl, rfl⟩
theorem takeRoom_colon (b off n c : Nat) (x : ByteArray) (w : World) (h0 : w.cell? ⟨b, off, none⟩ = some (.string x)) (hx : (x.toList == [58]) = true) :
    Calls Tryd.prog 50 #[.slice (some ⟨b, off, none⟩) (n + 1) (c + 1)] w fun e w' => e = .returned (.tuple #[.int .i64 1, .slice (some ⟨b, off, none⟩) (n + 1) (c + 1)]) ∧ w' = w := by
  go_enter Tryd.func50, Tryd.ntmps50
  go_wp2
  go_ret2
  exact ⟨rfl, rfl⟩
set_option maxRecDepth 100000 in
set_option maxHeartbeats 1000000 in
theorem takeRoom_nonum (b off n c : Nat) (x : ByteArray) (w : World) (h0 : w.cell? ⟨b, off, none⟩ = some (.string x)) (hx : (x.toList == [58]) = false) (hs : x.size ≤ maxLen) (h1 : 0 < x.size) (hnum : numB x = false) :
    Calls Tryd.prog 50 #[.slice (some ⟨b, off, none⟩) (n + 1) (c + 1)] w fun e w' => e = .panicked [{ v := thrown 3, recovered := false }] ∧ w' = w := by
  go_enter Tryd.func50, Tryd.ntmps50
  go_wp2_with fail
  refine (isNumB_any x _ hs h1).mono ?_
  rintro e w1 ⟨rfl, hw1⟩
  subst hw1
  go_wp2_with fail
  refine (need_no 3 _).mono ?_
  rintro e w2 ⟨rfl, hw2⟩
  subst hw2
  go_wp2
  exact ⟨rfl, rfl, rfl⟩
set_option maxRecDepth 100000 in
set_option maxHeartbeats 1000000 in
theorem takeRoom_range (b off n c : Nat) (x : ByteArray) (w : World) (hb : b < w.heap.size) (h0 : w.cell? ⟨b, off, none⟩ = some (.string x)) (hx : (x.toList == [58]) = false) (hs : x.size ≤ 281474976710656) (h1 : 0 < x.size) (hnum : numB x = true)
    (hr : Lib.atoiAll x.data.toList = .range) (hg : Glob w) :
    Calls Tryd.prog 50 #[.slice (some ⟨b, off, none⟩) (n + 1) (c + 1)] w fun e w' => e = .panicked [{ v := thrown 9, recovered := false }] ∧ Below w.heap.size w w' := by
  go_enter Tryd.func50, Tryd.ntmps50
  go_wp2_with fail
  refine (isNumB_any x _ (by unfold maxLen; omega) h1).mono ?_
  rintro e w1 ⟨rfl, hw1⟩
  subst hw1
  go_wp2_with fail
  refine (need_yes 3 _).mono ?_
  rintro e w2 ⟨rfl, hw2⟩
  subst hw2
  go_wp2_with fail
  refine (atoi_range x hs hr _ hg).mono ?_
  rintro e w3 ⟨N, rfl, hb3⟩
  go_wp2_with fail
  refine (need_no 9 _).mono ?_
  rintro e w4 ⟨rfl, hw4⟩
  subst hw4
  go_wp2
  exact ⟨rfl, rfl, hb3⟩
set_option maxRecDepth 100000 in
set_option maxHeartbeats 1000000 in
theorem takeRoom_ok (b off n c : Nat) (x : ByteArray) (u : Nat) (w : World) (hm : c + 1 ≤ 9223372036854775807) (hc : n ≤ c) (hb : b < w.heap.size) (h0 : w.cell? ⟨b, off, none⟩ = some (.string x)) (hx : (x.toList == [58]) = false) (hs : x.size ≤ 281474976710656) (h1 : 0 < x.size) (hnum : numB x = true)
    (hr : Lib.atoiAll x.data.toList = .ok (u : Int)) (h4 : 1 ≤ u ∧ u ≤ 4) :
    Calls Tryd.prog 50 #[.slice (some ⟨b, off, none⟩) (n + 1) (c + 1)] w fun e w' => (∃ a', (n = 0 ∨ a' = some ⟨b, off + 1, none⟩) ∧ e = .returned (.tuple #[.int .i64 u, .slice a' n c])) ∧ Below w.heap.size w w' := by
  have g1 : (1 : Int) ≤ (u : Int) := by omega
  have g2 : (u : Int) ≤ 4 := by omega
  go_enter Tryd.func50, Tryd.ntmps50
  go_wp2_with fail
  refine (isNumB_any x _ (by unfold maxLen; omega) h1).mono ?_
  rintro e w1 ⟨rfl, hw1⟩
  subst hw1
  go_wp2_with fail
  refine (need_yes 3 _).mono ?_
  rintro e w2 ⟨rfl, hw2⟩
  subst hw2
  go_wp2_with fail
  refine (atoi_ok x hs _ hr _).mono ?_
  rintro e w3 ⟨rfl, hb3⟩
  go_wp2_with fail
  refine (need_yes 9 _).mono ?_
  rintro e w4 ⟨rfl, hw4⟩
  subst hw4
  by_cases hc0 : c = 0
  · obtain rfl : n = 0 := by omega
    subst hc0
    go_wp2
    go_quiet (fail)
    go_wp2
    go_ret2
    exact ⟨⟨_, rfl⟩, hb3.trans (below_drewN _ _ _)⟩
  · go_wp2
    go_quiet (fail)
    go_wp2
    go_ret2
    exact ⟨⟨_, Or.inr rfl, rfl⟩, hb3.trans (below_drewN _ _ _)⟩
set_option maxRecDepth 100000 in
set_option maxHeartbeats 1000000 in
theorem takeRoom_value (b off n c : Nat) (x : ByteArray) (u : Nat) (w : World) (hb : b < w.heap.size) (h0 : w.cell? ⟨b, off, none⟩ = some (.string x)) (hx : (x.toList == [58]) = false) (hs : x.size ≤ 281474976710656) (h1 : 0 < x.size) (hnum : numB x = true)
    (hr : Lib.atoiAll x.data.toList = .ok (u : Int)) (h4 : ¬ (1 ≤ u ∧ u ≤ 4)) :
    Calls Tryd.prog 50 #[.slice (some ⟨b, off, none⟩) (n + 1) (c + 1)] w fun e w' => e = .panicked [{ v := thrown 9, recovered := false }] ∧ Below w.heap.size w w' := by
  have H4 := hide h4
  clear h4
  by_cases g1 : (1 : Int) ≤ (u : Int)
  · have g2 : decide ((u : Int) ≤ 4) = false := decide_eq_false (by have := unhide H4; omega)
    go_enter Tryd.func50, Tryd.ntmps50
    go_wp2_with fail
    refine (isNumB_any x _ (by unfold maxLen; omega) h1).mono ?_
    rintro e w1 ⟨rfl, hw1⟩
    subst hw1
    go_wp2_with fail
    refine (need_yes 3 _).mono ?_
    rintro e w2 ⟨rfl, hw2⟩
    subst hw2
    go_wp2_with fail
    refine (atoi_ok x hs _ hr _).mono ?_
    rintro e w3 ⟨rfl, hb3⟩
    go_wp2_with fail
    refine (need_no 9 _).mono ?_
    rintro e w4 ⟨rfl, hw4⟩
    subst hw4
    go_wp2
    exact ⟨rfl, rfl, hb3⟩
  · go_enter Tryd.func50, Tryd.ntmps50
    go_wp2_with fail
    refine (isNumB_any x _ (by unfold maxLen; omega) h1).mono ?_
    rintro e w1 ⟨rfl, hw1⟩
    subst hw1
    go_wp2_with fail
    refine (need_yes 3 _).mono ?_
    rintro e w2 ⟨rfl, hw2⟩
    subst hw2
    go_wp2_with fail
    refine (atoi_ok x hs _ hr _).mono ?_
    rintro e w3 ⟨rfl, hb3⟩
    go_wp2_with fail
    refine (need_no 9 _).mono ?_
    rintro e w4 ⟨rfl, hw4⟩
    subst hw4
    go_wp2
    exact ⟨rfl, rfl, hb3⟩
theorem takeRoom_anyB (a : Option Addr) (n c : Nat) (l : List ByteArray) (w : World) (h : Strz w a n c l) (hne : ∀ x ∈ l, 0 < x.size ∧ x.size ≤ 281474976710656) (hg : Glob w) :
    Calls Tryd.prog 50 #[.slice a n c] w fun e w' => Below w.heap.size w w' ∧
      ((∃ k, roomP l = .error k ∧ e = .panicked [{ v := thrown k, recovered := false }]) ∨ (∃ r t a' n' c', roomP l = .ok (r, t) ∧ e = .returned (.tuple #[.int .i64 r, .slice a' n' c']) ∧ Strz w a' n' c' t ∧ SameB a a' n')) := by
  have h' := h
  obtain ⟨hn, hc, hm, hs, hh⟩ := h
  unfold maxLen at hm
  cases n with
  | zero =>
    obtain rfl : l = [] := List.eq_nil_of_length_eq_zero hn.symm
    refine (takeRoom_nil a c w).mono ?_
    rintro e w' ⟨rfl, rfl⟩
    exact ⟨Below.refl _ _, Or.inr ⟨1, [], a, 0, c, rfl, rfl, h', Or.inl rfl⟩⟩
  | succ n =>
    obtain ⟨x, t, rfl⟩ := cons_of_len hn
    rcases hh with h0 | ⟨b, off, rfl, hlt, hcell⟩
    · omega
    obtain ⟨c, rfl⟩ : ∃ d, c = d + 1 := ⟨c - 1, by omega⟩
    have hx0 : w.cell? ⟨b, off, none⟩ = some (.string x) := hcell 0 (by omega)
    obtain ⟨hx1, hx2⟩ := hne x (List.mem_cons_self ..)
    cases hx : (x.toList == [58]) with
    | true =>
      refine (takeRoom_colon b off n c x w hx0 hx).mono ?_
      rintro e w' ⟨rfl, rfl⟩
      exact ⟨Below.refl _ _, Or.inr ⟨1, x :: t, _, _, _, by simp [roomP, hx], rfl, h', Or.inr ⟨b, off, off, rfl, rfl⟩⟩⟩
    | false =>
      cases hnum : numB x with
      | false =>
        refine (takeRoom_nonum b off n c x w hx0 hx (by unfold maxLen; omega) hx1 hnum).mono ?_
        rintro e w' ⟨rfl, rfl⟩
        exact ⟨Below.refl _ _, Or.inl ⟨3, by simp [roomP, hx, hnum], rfl⟩⟩
      | true =>
        rcases room_num hnum with ⟨hr, hb⟩ | ⟨u, hr, ⟨g1, g2, hb⟩ | ⟨g1, hb⟩⟩
        · refine (takeRoom_range b off n c x w hlt hx0 hx hx2 hx1 hnum hr hg).mono ?_
          rintro e w' ⟨rfl, hbw⟩
          exact ⟨hbw, Or.inl ⟨9, by simp [roomP, hx, hnum, hb], rfl⟩⟩
        · refine (takeRoom_ok b off n c x u w hm (by omega) hlt hx0 hx hx2 hx1 hnum hr ⟨g1, g2⟩).mono ?_
          rintro e w' ⟨⟨a', ha, rfl⟩, hbw⟩
          exact ⟨hbw, Or.inr ⟨u, t, a', n, c, by simp [roomP, hx, hnum, hb], rfl, h'.rest a' ha, ha.imp id (fun e => ⟨b, off, off + 1, rfl, e⟩)⟩⟩
        · refine (takeRoom_value b off n c x u w hlt hx0 hx hx2 hx1 hnum hr g1).mono ?_
          rintro e w' ⟨rfl, hbw⟩
          exact ⟨hbw, Or.inl ⟨9, by simp [roomP, hx, hnum, hb], rfl⟩⟩
theorem takeRoom_any (a : Option Addr) (n c : Nat) (l : List ByteArray) (w : World) (h : Strz w a n c l) (hne : ∀ x ∈ l, 0 < x.size ∧ x.size ≤ 281474976710656) (hg : Glob w) :
    Calls Tryd.prog 50 #[.slice a n c] w fun e w' => Below w.heap.size w w' ∧
      ((∃ k, roomP l = .error k ∧ e = .panicked [{ v := thrown k, recovered := false }]) ∨ (∃ r t a' n' c', roomP l = .ok (r, t) ∧ e = .returned (.tuple #[.int .i64 r, .slice a' n' c']) ∧ Strz w a' n' c' t)) := by
  refine (takeRoom_anyB a n c l w h hne hg).mono ?_
  rintro e w' ⟨hw, hk | ⟨r, t, a', n', c', h1, h2, h3, -⟩⟩
  · exact ⟨hw, .inl hk⟩
  · exact ⟨hw, .inr ⟨r, t, a', n', c', h1, h2, h3⟩⟩
end Go.Proofs.YtajdijjecojdhaaDoor
