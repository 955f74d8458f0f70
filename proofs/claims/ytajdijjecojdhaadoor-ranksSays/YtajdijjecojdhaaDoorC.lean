import Derived.Test.YtajdijjecojdhaaDoorB
namespace Go.Proofs.YtajdijjecojdhaaDoor
open Go.RowKit
theorem hide {p : Prop} (h : p) : Hid p := h
theorem unhide {p : Prop} (h : Hid p) : p := h
def likesFuel (l : List Int) (others : Int) : Nat → Nat → Int
  | 0, _ => 0
  | f + 1, k => if l[k]?.getD 0 < 0 ∨ others ≤ l[k]?.getD 0 then 8 else if 0 ≤ idxFrom (l.take k) (l[k]?.getD 0) 0 then 6 else likesFuel l others f (k + 1)
def likesFrom (l : List Int) (others : Int) (k : Nat) : Int := likesFuel l others (l.length - k) k
theorem likesFrom_step {l : List Int} {o : Int} {k : Nat} (h : k < l.length) : likesFrom l o k = if l[k]?.getD 0 < 0 ∨ o ≤ l[k]?.getD 0 then 8 else if 0 ≤ idxFrom (l.take k) (l[k]?.getD 0) 0 then 6 else likesFrom l o (k+1) := by
  unfold likesFrom
  rw [show l.length - k = (l.length - (k + 1)) + 1 by omega, likesFuel]
theorem likesFrom_who {l : List Int} {o : Int} {k : Nat} (h : k < l.length) (e : l[k]?.getD 0 < 0 ∨ o ≤ l[k]?.getD 0) : likesFrom l o k = 8 := by
  rw [likesFrom_step h, if_pos e]
theorem likesFrom_dbl {l : List Int} {o : Int} {k : Nat} (h : k < l.length) (e : ¬ (l[k]?.getD 0 < 0 ∨ o ≤ l[k]?.getD 0)) (d : 0 ≤ idxFrom (l.take k) (l[k]?.getD 0) 0) : likesFrom l o k = 6 := by
  rw [likesFrom_step h, if_neg e, if_pos d]
theorem likesFrom_on {l : List Int} {o : Int} {k : Nat} (h : k < l.length) (e : ¬ (l[k]?.getD 0 < 0 ∨ o ≤ l[k]?.getD 0)) (d : ¬ 0 ≤ idxFrom (l.take k) (l[k]?.getD 0) 0) : likesFrom l o k = likesFrom l o (k+1) := by
  rw [likesFrom_step h, if_neg e, if_neg d]
theorem likesFrom_end {l : List Int} {o : Int} {k : Nat} (h : ¬ k < l.length) : likesFrom l o k = 0 := by
  unfold likesFrom
  rw [show l.length - k = 0 by omega, likesFuel]
def agE (g : Ag) (ahead : List Ag) (others : Int) : Int :=
  if nameB g.name = false then 1 else if 0 ≤ aidxFrom ahead g.name 0 then 6 else if g.room < 1 ∨ 4 < g.room then 9 else likesFrom g.likes others 0
theorem Ints.take {w : World} {a : Option Addr} {n c : Nat} {l : List Int} (h : Ints w a n c l) (k : Nat) (hk : k ≤ n) : Ints w a k c (l.take k) := by
  obtain ⟨hn, hc, hm, h⟩ := h
  refine ⟨by simp; omega, by omega, hm, ?_⟩
  rcases h with h0 | ⟨b, off, rfl, hlt, hcell⟩
  · exact Or.inl (by omega)
  · refine Or.inr ⟨b, off, rfl, hlt, fun j hj => ?_⟩
    rw [hcell j (by omega), List.getElem?_take, if_pos hj]
set_option maxHeartbeats 1000000 in
theorem maySome_any (la : Option Addr) (ln lc : Nat) (likes : List Int) (o : Int) (w : World) (hl : Ints w la ln lc likes) :
    Calls Tryd.prog 43 #[.slice la ln lc, .int .i64 o] w fun e w' => e = .returned (.int .i64 (likesFrom likes o 0)) ∧ w' = w := by
  have hl0 := hl
  obtain ⟨hn', hc', hm', hrow⟩ := hl
  unfold maxLen at hm'
  have HN := hide hn'
  clear hn'
  rcases hrow with hz | ⟨b, off, rfl, hb, hcell⟩
  · subst hz
    go_enter Tryd.func43, Tryd.ntmps43
    go_wp2
    refine wp_loop_rounds 1 ?_
    rw [rounds_succ]
    go_wp2
    go_ret
    exact ⟨ret_int (by rw [likesFrom_end (by have := unhide HN; omega)]), rfl⟩
  go_enter Tryd.func43, Tryd.ntmps43
  go_wp2
  go_loop [9, 5, 6] (fun i _ _ => ∃ k : Nat, k ≤ ln ∧ i = .int .i64 k ∧ likesFrom likes o 0 = likesFrom likes o k) (fun i _ _ => ln - (intOf i).toNat)
  case atStart => exact ⟨0, Nat.zero_le _, rfl, rfl⟩
  case round =>
    obtain ⟨k, hk, rfl, hn⟩ := hrel
    have HI := hide hn
    clear hn
    by_cases hlt : k < ln
    · have hck : w.cell? ⟨b, off + k, none⟩ = some (.int .i64 (likes[k]?.getD 0)) := hcell k hlt
      have hlen : k < likes.length := by have := unhide HN; omega
      have HL := hide hlen
      clear hlen
      by_cases he : likes[k]?.getD 0 < 0 ∨ o ≤ likes[k]?.getD 0
      · have HE := hide (likesFrom_who (unhide HL) he)
        rcases he with he | he
        · go_wp2
          go_ret
          exact ⟨ret_int (by rw [unhide HI, unhide HE]), rfl⟩
        · by_cases he2 : likes[k]?.getD 0 < 0
          · go_wp2
            go_ret
            exact ⟨ret_int (by rw [unhide HI, unhide HE]), rfl⟩
          · go_wp2
            go_ret
            exact ⟨ret_int (by rw [unhide HI, unhide HE]), rfl⟩
      · have he1 : ¬ likes[k]?.getD 0 < 0 := by omega
        have he2 : ¬ o ≤ likes[k]?.getD 0 := by omega
        by_cases hd : 0 ≤ idxFrom (likes.take k) (likes[k]?.getD 0) 0
        · have HE := hide (likesFrom_dbl (unhide HL) he hd)
          clear he
          go_wp2_with (go_at_call 63; refine (contains_any _ k lc (likes.take k) _ _ (hl0.take k hk)).mono ?_; rintro e w' ⟨rfl, rfl⟩)
          go_ret
          exact ⟨ret_int (by rw [unhide HI, unhide HE]), rfl⟩
        · have HE := hide (likesFrom_on (unhide HL) he hd)
          have hd' : idxFrom (likes.take k) (likes[k]?.getD 0) 0 < 0 := by omega
          clear he
          go_wp2_with (go_at_call 63; refine (contains_any _ k lc (likes.take k) _ _ (hl0.take k hk)).mono ?_; rintro e w' ⟨rfl, rfl⟩)
          refine ⟨⟨k+1, by omega, by go_num, by rw [unhide HI, unhide HE]⟩, by simp [intOf]; omega⟩
    · go_wp2
      go_ret
      exact ⟨ret_int (by rw [unhide HI, likesFrom_end (by have := unhide HN; omega)]), rfl⟩
set_option maxHeartbeats 1000000 in
theorem mayAgent_any (nm : ByteArray) (room : Int) (la : Option Addr) (ln lc : Nat) (likes : List Int) (a : Option Addr) (n c : Nat) (l : List Ag) (o : Int) (w : World) (h : Ags w a n c l) (hl : Ints w la ln lc likes) (hs : nm.size ≤ maxLen) :
    Calls Tryd.prog 20 #[.agg #[.string nm, .int .i64 room, .slice la ln lc], .slice a n c, .int .i64 o] w fun e w' => e = .returned (.int .i64 (agE ⟨nm, room, la, ln, lc, likes⟩ l o)) ∧ Below w.heap.size w w' := by
  have hbw : Below w.heap.size w (w.alloc (.cells #[.string nm, .int .i64 room, .slice la ln lc] 27)) := by go_grown
  have hl1 := hl.later hbw
  have h1 := h.later hbw
  cases hn : nameB nm with
  | false =>
    go_enter Tryd.func20, Tryd.ntmps20
    go_wp2_with (go_at_call 41; refine (isName_any nm _ hs).mono ?_; rintro e w' ⟨rfl, rfl⟩)
    go_ret
    exact ⟨ret_int (by simp [agE, hn]), hbw⟩
  | true =>
  by_cases hp : 0 ≤ aidxFrom l nm 0
  · have HP : Hid (0 ≤ aidxFrom l nm 0) := hp
    go_enter Tryd.func20, Tryd.ntmps20
    go_wp2_with (first | (go_at_call 41; refine (isName_any nm _ hs).mono ?_; rintro e w' ⟨rfl, rfl⟩) | (go_at_call 42; refine (placeN_any a n c l nm _ h1).mono ?_; rintro e w1 ⟨rfl, hb1⟩))
    go_ret
    exact ⟨ret_int (by simp [agE, hn, hp]), hbw.trans (hb1.mono hbw.size)⟩
  have HP : Hid (¬ 0 ≤ aidxFrom l nm 0) := hp
  have hp' : aidxFrom l nm 0 < 0 := by omega
  by_cases hr : room < 1 ∨ 4 < room
  · have HR : Hid (room < 1 ∨ 4 < room) := hr
    have hfin : agE ⟨nm, room, la, ln, lc, likes⟩ l o = 9 := by simp [agE, hn, hp, hr]
    have HF := hide hfin
    clear hfin hr hp
    rcases HR.out with hr | hr
    · go_enter Tryd.func20, Tryd.ntmps20
      go_wp2_with (first | (go_at_call 41; refine (isName_any nm _ hs).mono ?_; rintro e w' ⟨rfl, rfl⟩) | (go_at_call 42; refine (placeN_any a n c l nm _ h1).mono ?_; rintro e w1 ⟨rfl, hb1⟩; have q1 := hb1.cell (p := ⟨w.heap.size, 1, none⟩) (by simp)))
      go_ret
      exact ⟨ret_int (by rw [unhide HF]), hbw.trans (hb1.mono hbw.size)⟩
    · have hr2 : ¬ room < 1 := by omega
      go_enter Tryd.func20, Tryd.ntmps20
      go_wp2_with (first | (go_at_call 41; refine (isName_any nm _ hs).mono ?_; rintro e w' ⟨rfl, rfl⟩) | (go_at_call 42; refine (placeN_any a n c l nm _ h1).mono ?_; rintro e w1 ⟨rfl, hb1⟩; have q1 := hb1.cell (p := ⟨w.heap.size, 1, none⟩) (by simp)))
      go_ret
      exact ⟨ret_int (by rw [unhide HF]), hbw.trans (hb1.mono hbw.size)⟩
  have hr1 : ¬ room < 1 := by omega
  have hr2 : ¬ 4 < room := by omega
  have hfin : agE ⟨nm, room, la, ln, lc, likes⟩ l o = likesFrom likes o 0 := by simp [agE, hn, hp, hr1, hr2]
  have HF := hide hfin
  clear hfin hr hp
  have hd0 : decide (0 ≤ aidxFrom l nm 0) = false := by simpa using hp'
  have hd1 : decide (room < 1) = false := by simpa using hr1
  have hd2 : decide (4 < room) = false := by simpa using hr2
  go_enter Tryd.func20, Tryd.ntmps20
  go_wp2_with (first | (go_at_call 41; refine (isName_any nm _ hs).mono ?_; rintro e w' ⟨rfl, rfl⟩) | (go_at_call 42; refine (placeN_any a n c l nm _ h1).mono ?_; rintro e w1 ⟨rfl, hb1⟩; have q1 := hb1.cell (p := ⟨w.heap.size, 1, none⟩) (by simp); have q2 := hb1.cell (p := ⟨w.heap.size, 2, none⟩) (by simp)))
  have hbb : Below w.heap.size w w1 := hbw.trans (hb1.mono hbw.size)
  refine (maySome_any la ln lc likes o w1 (hl.later hbb)).mono ?_
  rintro e w2 ⟨rfl, hw2⟩
  subst w2
  go_wp2
  go_ret
  exact ⟨ret_int (by rw [unhide HF]), hbb⟩
end Go.Proofs.YtajdijjecojdhaaDoor
