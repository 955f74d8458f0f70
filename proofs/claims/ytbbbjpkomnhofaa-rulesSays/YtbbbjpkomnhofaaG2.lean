import Derived.Test.YtbbbjpkomnhofaaG
namespace Go.Proofs.Ytbbbjpkomnhofaa
open Go.RowKit Go.Shelf
attribute [local go_sem] Oper.semAt_some
/-- All lies, in order. -/
def allF : List (Fin 432) := List.finRange 432
def Come2 (pre : List (Fin 432)) (k : Nat) : Prop := pre = allF.take k
theorem allF_len : allF.length = 432 := by simp [allF]
theorem allF_at (x : Fin 432) : allF[x.val]? = some x := by simp [allF]
theorem Come2.snoc {pre : List (Fin 432)} {x : Fin 432} (h : Come2 pre x.val) : Come2 (pre ++ [x]) (x.val + 1) := by
  unfold Come2 at *
  rw [List.take_add_one, allF_at, h]
  rfl
set_option maxRecDepth 100000 in
set_option maxHeartbeats 2000000 in
theorem lies_stops2 (n : Nat) (hn : 1 ≤ n) (w : World) :
    SeqStopsK Fence.wide n Try.prog 40 #[] liEnc KeepsWalks (fun xs => xs = allF) (fun pre => ∃ x : Fin 432, pre = allF.take (x.val + 1)) 432 w := fun l J Jx W _ _ _ hY h0 => by
  refine callsIn_of_wp Try.func40 rfl trivial ?_ rfl
  simp only [Try.ntmps40, List.size_toArray, List.length_cons, List.length_nil, Nat.reduceAdd, Nat.reduceSub, Array.replicate_succ, Array.replicate_zero, List.push_toArray, List.append_toArray, List.nil_append, List.cons_append]
  have HY : Hid (∀ (a b p q : Nat), a < 6 → b < 6 → p < 2 → q < 6 → ∀ pre W1, J pre W1 → Come2 pre (liN a b p q) → YieldAt Fence.wide (n - 1) Try.prog l #[.agg #[.int .i64 (a : Int), .int .i64 (b : Int), .int .i64 (p : Int), .int .i64 (q : Int)]] W1 fun e W' =>
      (e = .returned (.bool true) ∧ ∃ pre', J pre' W' ∧ Come2 pre' (liN a b p q + 1)) ∨ (e = .returned (.bool false) ∧ ∃ pre', Jx pre' W' ∧ ∃ x : Fin 432, pre' = allF.take (x.val + 1))) := fun a b p q ha hb hp hq pre W1 hj hc => by
    have hlt : liN a b p q < 432 := by unfold liN; omega
    have := hY pre ⟨liN a b p q, hlt⟩ W1 hj (by rw [hc]; rw [List.length_take, allF_len]; omega)
    have e : liEnc ⟨liN a b p q, hlt⟩ = #[.agg #[.int .i64 (a : Int), .int .i64 (b : Int), .int .i64 (p : Int), .int .i64 (q : Int)]] := by
      unfold liEnc liN
      rw [show (72 * a + 12 * b + 6 * p + q) / 72 = a by omega, show (72 * a + 12 * b + 6 * p + q) / 12 % 6 = b by omega, show (72 * a + 12 * b + 6 * p + q) / 6 % 2 = p by omega, show (72 * a + 12 * b + 6 * p + q) % 6 = q by omega]
    rw [e] at this
    obtain ⟨fn, tmps, assign, body, hy, hR⟩ := this
    refine ⟨fn, tmps, assign, body, hy, hR.mono ?_⟩
    rintro e W' (⟨rfl, h1, _⟩ | ⟨rfl, h1⟩)
    · exact .inl ⟨rfl, _, h1, Come2.snoc (x := ⟨liN a b p q, hlt⟩) hc⟩
    · exact .inr ⟨rfl, _, h1, ⟨liN a b p q, hlt⟩, Come2.snoc (x := ⟨liN a b p q, hlt⟩) hc⟩
  clear hY
  gi_wp2
  gi_loopw [6] (fun i wr => ∃ (a : Nat) (pre : List (Fin 432)), a ≤ 6 ∧ i = .int .i64 (a : Int) ∧ Come2 pre (liN a 0 0 0) ∧ J pre wr) (fun i _ => 6 - (intOf i).toNat)
  case atStart => exact ⟨0, [], by omega, rfl, by simp [Come2, liN], h0⟩
  case round =>
    obtain ⟨a, pre, ha, rfl, hc, hj⟩ := hrel
    by_cases hla : a < 6
    · have h0 : Hid (Come2 pre (liN a 0 0 0) ∧ J pre wr) := ⟨hc, hj⟩
      clear hc hj
      gi_wp2
      rw [show decide ((a : Int) < 6) = true by simp; omega]
      gi_loopw [9] (fun i wr => ∃ (b : Nat) (pre : List (Fin 432)), b ≤ 6 ∧ i = .int .i64 (b : Int) ∧ Come2 pre (liN a b 0 0) ∧ J pre wr) (fun i _ => 6 - (intOf i).toNat)
      case atStart => exact ⟨0, pre, by omega, rfl, unhide h0⟩
      case round =>
        clear h0
        obtain ⟨b, pre, hb, rfl, hc, hj⟩ := hrel
        by_cases hlb : b < 6
        · have h0 : Hid (Come2 pre (liN a b 0 0) ∧ J pre wr) := ⟨hc, hj⟩
          clear hc hj
          gi_wp2
          rw [show decide ((b : Int) < 6) = true by simp; omega]
          gi_loopw [12] (fun i wr => ∃ (p : Nat) (pre : List (Fin 432)), p ≤ 2 ∧ i = .int .i64 (p : Int) ∧ Come2 pre (liN a b p 0) ∧ J pre wr) (fun i _ => 2 - (intOf i).toNat)
          case atStart => exact ⟨0, pre, by omega, rfl, unhide h0⟩
          case round =>
            clear h0
            obtain ⟨p, pre, hp, rfl, hc, hj⟩ := hrel
            by_cases hlp : p < 2
            · have h0 : Hid (Come2 pre (liN a b p 0) ∧ J pre wr) := ⟨hc, hj⟩
              clear hc hj
              gi_wp2
              rw [show decide ((p : Int) < 2) = true by simp; omega]
              gi_loopw [15] (fun i wr => ∃ (q : Nat) (pre : List (Fin 432)), q ≤ 6 ∧ i = .int .i64 (q : Int) ∧ Come2 pre (liN a b p q) ∧ J pre wr) (fun i _ => 6 - (intOf i).toNat)
              case atStart => exact ⟨0, pre, by omega, rfl, unhide h0⟩
              case round =>
                clear h0
                obtain ⟨q, pre, hq, rfl, hc, hj⟩ := hrel
                by_cases hlq : q < 6
                · obtain ⟨fn, tmps, assign, body, hy, hR⟩ := unhide HY a b p q hla hlb hlp hlq pre wr hj hc
                  have HR := hide hR
                  clear hR hc hj
                  gi_wp2
                  refine (unhide HR).mono ?_
                  rintro e W' (⟨rfl, pre', h1, h2⟩ | ⟨rfl, pre', h1, h2⟩)
                  · have HJ := hide (And.intro h1 h2)
                    clear h1 h2
                    gi_wp2
                    go_roundw
                    case rel => exact ⟨q + 1, pre', by omega, by go_num, (unhide HJ).2, (unhide HJ).1⟩
                    case measure => simp [intOf]; omega
                  · gi_wp2
                    refine bodyPost_ret (results_none rfl _ _ _) rfl ?_
                    exact ⟨⟨_, rfl⟩, .inr ⟨pre', h2, h1⟩⟩
                · obtain rfl : q = 6 := by omega
                  gi_wp2
                  go_roundw
                  case rel => exact ⟨p + 1, pre, by omega, by go_num, by rw [show liN a b (p + 1) 0 = liN a b p 6 by unfold liN; omega]; exact hc, hj⟩
                  case measure => simp [intOf]; omega
            · obtain rfl : p = 2 := by omega
              gi_wp2
              go_roundw
              case rel => exact ⟨b + 1, pre, by omega, by go_num, by rw [show liN a (b + 1) 0 0 = liN a b 2 0 by unfold liN; omega]; exact hc, hj⟩
              case measure => simp [intOf]; omega
        · obtain rfl : b = 6 := by omega
          gi_wp2
          go_roundw
          case rel => exact ⟨a + 1, pre, by omega, by go_num, by rw [show liN (a + 1) 0 0 0 = liN a 6 0 0 by unfold liN; omega]; exact hc, hj⟩
          case measure => simp [intOf]; omega
    · obtain rfl : a = 6 := by omega
      gi_wp2
      go_end0
      exact ⟨⟨_, rfl⟩, .inl ⟨pre, by rw [hc, List.take_of_length_le (by rw [allF_len]; unfold liN; omega)], hj⟩⟩
end Go.Proofs.Ytbbbjpkomnhofaa
