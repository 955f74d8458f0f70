import Derived.Test.YtfphgbdpchdohaaA
namespace Go.Proofs.Ytfphgbdpchdohaa
open Go.RowKit
set_option maxHeartbeats 1000000 in
theorem maySome_any (la : Option Addr) (ln lc : Nat) (likes : List Int) (o : Int) (w : World) (hl : Ints w la ln lc likes) :
    Calls Try.prog 47 #[.slice la ln lc, .int .i64 o] w fun e w' => e = .returned (.int .i64 (likesFrom likes o 0)) ∧ w' = w := by
  have hl0 := hl
  obtain ⟨hn', hc', hm', hrow⟩ := hl
  unfold maxLen at hm'
  have HN := hide hn'
  clear hn'
  rcases hrow with hz | ⟨b, off, rfl, hb, hcell⟩
  · subst hz
    go_enter Try.func47, Try.ntmps47
    go_wp2
    refine wp_loop_rounds 1 ?_
    rw [rounds_succ]
    go_wp2
    go_ret
    exact ⟨ret_int (by rw [likesFrom_end (by have := unhide HN; omega)]), rfl⟩
  go_enter Try.func47, Try.ntmps47
  go_wp2
  go_loop [9, 5, 6] (fun i _ _ => ∃ k : Nat, k ≤ ln ∧ i = .int .i64 k ∧ likesFrom likes o 0 = likesFrom likes o k) (fun i _ _ => ln - (intOf i).toNat)
  case atStart => exact ⟨0, Nat.zero_le _, rfl, rfl⟩
  case round =>
    obtain ⟨k, hk, rfl, hn⟩ := hrel
    have HI := hide hn
    clear hn
    by_cases hlt : k < ln
    · have hck : w.cell? ⟨b, off + k, none⟩ = some (.int .i64 (likes[k]?.getD 0)) := hcell k hlt
      have hlen : k < likes.length := by have := unhide HN; omega
      have HL := hide hlen
      clear hlen
      by_cases he : likes[k]?.getD 0 < 0 ∨ o ≤ likes[k]?.getD 0
      · have HE := hide (likesFrom_who (unhide HL) he)
        rcases he with he | he
        · go_wp2
          go_ret
          exact ⟨ret_int (by rw [unhide HI, unhide HE]), rfl⟩
        · by_cases he2 : likes[k]?.getD 0 < 0
          · go_wp2
            go_ret
            exact ⟨ret_int (by rw [unhide HI, unhide HE]), rfl⟩
          · go_wp2
            go_ret
            exact ⟨ret_int (by rw [unhide HI, unhide HE]), rfl⟩
      · have he1 : ¬ likes[k]?.getD 0 < 0 := by omega
        have he2 : ¬ o ≤ likes[k]?.getD 0 := by omega
        by_cases hd : 0 ≤ idxFrom (likes.take k) (likes[k]?.getD 0) 0
        · have HE := hide (likesFrom_dbl (unhide HL) he hd)
          clear he
          go_wp2_with (go_at_call 61; refine (contains_any _ k lc (likes.take k) _ _ (hl0.take k hk)).mono ?_; rintro e w' ⟨rfl, rfl⟩)
          go_ret
          exact ⟨ret_int (by rw [unhide HI, unhide HE]), rfl⟩
        · have HE := hide (likesFrom_on (unhide HL) he hd)
          have hd' : idxFrom (likes.take k) (likes[k]?.getD 0) 0 < 0 := by omega
          clear he
          go_wp2_with (go_at_call 61; refine (contains_any _ k lc (likes.take k) _ _ (hl0.take k hk)).mono ?_; rintro e w' ⟨rfl, rfl⟩)
          refine ⟨⟨k+1, by omega, by go_num, by rw [unhide HI, unhide HE]⟩, by simp [intOf]; omega⟩
    · go_wp2
      go_ret
      exact ⟨ret_int (by rw [unhide HI, likesFrom_end (by have := unhide HN; omega)]), rfl⟩
set_option maxHeartbeats 1000000 in
theorem some_any (la : Option Addr) (ln lc : Nat) (likes : List Int) (o : Int) (w : World) (hl : Ints w la ln lc likes) :
    Calls Try.prog 46 #[.slice la ln lc, .int .i64 o] w fun e w' => e = .returned (.int .i64 (likesFrom likes o 0)) ∧ w' = w := by
  have hl0 := hl
  obtain ⟨hn', hc', hm', hrow⟩ := hl
  unfold maxLen at hm'
  have HN := hide hn'
  clear hn'
  rcases hrow with hz | ⟨b, off, rfl, hb, hcell⟩
  · subst hz
    go_enter Try.func46, Try.ntmps46
    go_wp2
    refine wp_loop_rounds 1 ?_
    rw [rounds_succ]
    go_wp2
    go_ret
    exact ⟨ret_int (by rw [likesFrom_end (by have := unhide HN; omega)]), rfl⟩
  go_enter Try.func46, Try.ntmps46
  go_wp2
  go_loop [5, 6] (fun i _ => ∃ k : Nat, k ≤ ln ∧ i = .int .i64 k ∧ likesFrom likes o 0 = likesFrom likes o k) (fun i _ => ln - (intOf i).toNat)
  case atStart => exact ⟨0, Nat.zero_le _, rfl, rfl⟩
  case round =>
    obtain ⟨k, hk, rfl, hn⟩ := hrel
    have HI := hide hn
    clear hn
    by_cases hlt : k < ln
    · have hck : w.cell? ⟨b, off + k, none⟩ = some (.int .i64 (likes[k]?.getD 0)) := hcell k hlt
      have hlen : k < likes.length := by have := unhide HN; omega
      have hit := idx_take likes k hlen
      have HL := hide hlen
      clear hlen
      by_cases he : likes[k]?.getD 0 < 0 ∨ o ≤ likes[k]?.getD 0
      · have HE := hide (likesFrom_who (unhide HL) he)
        clear hit
        rcases he with he | he
        · go_wp2
          go_ret
          exact ⟨ret_int (by rw [unhide HI, unhide HE]), rfl⟩
        · by_cases he2 : likes[k]?.getD 0 < 0
          · go_wp2
            go_ret
            exact ⟨ret_int (by rw [unhide HI, unhide HE]), rfl⟩
          · go_wp2
            go_ret
            exact ⟨ret_int (by rw [unhide HI, unhide HE]), rfl⟩
      · have he1 : ¬ likes[k]?.getD 0 < 0 := by omega
        have he2 : ¬ o ≤ likes[k]?.getD 0 := by omega
        by_cases hd : idxFrom likes (likes[k]?.getD 0) 0 < k
        · have HE := hide (likesFrom_dbl (unhide HL) he (hit.2 hd))
          clear he hit
          go_wp2_with (go_at_call 54; refine (place_any _ ln lc likes _ _ hl0).mono ?_; rintro e w' ⟨rfl, rfl⟩)
          go_ret
          exact ⟨ret_int (by rw [unhide HI, unhide HE]), rfl⟩
        · have HE := hide (likesFrom_on (unhide HL) he (fun h => hd (hit.1 h)))
          have hd' : (k : Int) ≤ idxFrom likes (likes[k]?.getD 0) 0 := by omega
          clear he hit
          go_wp2_with (go_at_call 54; refine (place_any _ ln lc likes _ _ hl0).mono ?_; rintro e w' ⟨rfl, rfl⟩)
          refine ⟨⟨k+1, by omega, by go_num, by rw [unhide HI, unhide HE]⟩, by simp [intOf]; omega⟩
    · go_wp2
      go_ret
      exact ⟨ret_int (by rw [unhide HI, likesFrom_end (by have := unhide HN; omega)]), rfl⟩
/-- T1 of an order of n. -/
def ordE (l : List Int) (n : Int) : Int := if (l.length : Int) = n then likesFrom l n 0 else 7
theorem ordersMay_any (la : Option Addr) (ln lc : Nat) (likes : List Int) (o : Int) (w : World) (hl : Ints w la ln lc likes) :
    Calls Try.prog 22 #[.slice la ln lc, .int .i64 o] w fun e w' => e = .returned (.int .i64 (ordE likes o)) ∧ w' = w := by
  have hn := hide hl.1
  by_cases h : (ln : Int) = o
  · subst h
    go_enter Try.func22, Try.ntmps22
    go_wp2_with (go_at_call 47; refine (maySome_any _ ln lc likes _ _ hl).mono ?_; rintro e w' ⟨rfl, rfl⟩)
    go_ret
    exact ⟨ret_int (by unfold ordE; rw [if_pos (by have := unhide hn; omega)]), rfl⟩
  · go_enter Try.func22, Try.ntmps22
    go_wp2
    go_ret
    exact ⟨ret_int (by unfold ordE; rw [if_neg (by have := unhide hn; omega)]), rfl⟩
theorem orderOf_any (la : Option Addr) (ln lc : Nat) (likes : List Int) (o : Int) (w : World) (hl : Ints w la ln lc likes) :
    Calls Try.prog 21 #[.slice la ln lc, .int .i64 o] w fun e w' => e = .returned (.int .i64 (ordE likes o)) ∧ w' = w := by
  have hn := hide hl.1
  by_cases h : (ln : Int) = o
  · subst h
    go_enter Try.func21, Try.ntmps21
    go_wp2_with (go_at_call 46; refine (some_any _ ln lc likes _ _ hl).mono ?_; rintro e w' ⟨rfl, rfl⟩)
    go_ret
    exact ⟨ret_int (by unfold ordE; rw [if_pos (by have := unhide hn; omega)]), rfl⟩
  · go_enter Try.func21, Try.ntmps21
    go_wp2
    go_ret
    exact ⟨ret_int (by unfold ordE; rw [if_neg (by have := unhide hn; omega)]), rfl⟩
end Go.Proofs.Ytfphgbdpchdohaa
