import Derived.Test.YtbbbjpkomnhofaaGD
namespace Go.Proofs.Ytbbbjpkomnhofaa
open Go.RowKit Go.Shelf
attribute [local go_sem] Oper.semAt_some
/-- Two things, both ways round. -/
abbrev Pr := { p : Nat × Nat // p.1 < 3 ∧ p.2 < 3 ∧ p.1 ≠ p.2 }
def p1 (x : Pr) : Int := (x.1.1 : Int)
def p2 (x : Pr) : Int := (x.1.2 : Int)
def prEnc (x : Pr) : Array Value := #[.int .i64 (p1 x), .int .i64 (p2 x)]
/-- All pairs ahead of (x, y) have come. -/
def CameP (pre : List Pr) (x y : Nat) : Prop := pre.length ≤ 3 * x + y ∧ ∀ p : Pr, (p.1.1 < x ∨ p.1.1 = x ∧ p.1.2 < y) → p ∈ pre
set_option maxRecDepth 100000 in
set_option maxHeartbeats 2000000 in
theorem pairs_stops (n : Nat) (hn : 1 ≤ n) (w : World) :
    SeqStopsK Fence.wide n Try.prog 38 #[] prEnc KeepsWalks (fun xs => ∀ x : Pr, x ∈ xs) (fun _ => True) 9 w := fun l J Jx W _ _ _ hY h0 => by
  refine callsIn_of_wp Try.func38 rfl trivial ?_ rfl
  simp only [Try.ntmps38, List.size_toArray, List.length_cons, List.length_nil, Nat.reduceAdd, Nat.reduceSub, Array.replicate_succ, Array.replicate_zero, List.push_toArray, List.append_toArray, List.nil_append, List.cons_append]
  have HY : Hid (∀ (x y : Nat), x < 3 → y < 3 → x ≠ y → ∀ pre W1, J pre W1 → CameP pre x y → YieldAt Fence.wide (n - 1) Try.prog l #[.int .i64 (x : Int), .int .i64 (y : Int)] W1 fun e W' =>
      (e = .returned (.bool true) ∧ ∃ pre', J pre' W' ∧ CameP pre' x (y + 1)) ∨ (e = .returned (.bool false) ∧ ∃ pre', Jx pre' W')) := fun x y hx hy hxy pre W1 hj hc => by
    have := hY pre ⟨(x, y), hx, hy, hxy⟩ W1 hj (by have := hc.1; omega)
    have e : prEnc ⟨(x, y), hx, hy, hxy⟩ = #[.int .i64 (x : Int), .int .i64 (y : Int)] := rfl
    rw [e] at this
    obtain ⟨fn, tmps, assign, body, hy', hR⟩ := this
    refine ⟨fn, tmps, assign, body, hy', hR.mono ?_⟩
    rintro e W' (⟨rfl, h1, _⟩ | ⟨rfl, h1⟩)
    · refine .inl ⟨rfl, _, h1, by simp; have := hc.1; omega, fun p hp => ?_⟩
      by_cases e : p.1.1 = x ∧ p.1.2 = y
      · rw [List.mem_append]
        refine .inr ?_
        simp only [List.mem_singleton]
        exact Subtype.ext (Prod.ext e.1 e.2)
      · rw [List.mem_append]
        exact .inl (hc.2 p (by omega))
    · exact .inr ⟨rfl, _, h1⟩
  clear hY
  gi_wp2
  gi_loopw [4] (fun i wr => ∃ (x : Nat) (pre : List Pr), x ≤ 3 ∧ i = .int .i64 (x : Int) ∧ CameP pre x 0 ∧ J pre wr) (fun i _ => 3 - (intOf i).toNat)
  case atStart => exact ⟨0, [], by omega, rfl, ⟨by simp, fun p hp => by omega⟩, h0⟩
  case round =>
    obtain ⟨x, pre, hx, rfl, hc, hj⟩ := hrel
    by_cases hlx : x < 3
    · have h0 : Hid (CameP pre x 0 ∧ J pre wr) := ⟨hc, hj⟩
      clear hc hj
      gi_wp2
      rw [show decide ((x : Int) < 3) = true by simp; omega]
      gi_loopw [7] (fun i wr => ∃ (y : Nat) (pre : List Pr), y ≤ 3 ∧ i = .int .i64 (y : Int) ∧ CameP pre x y ∧ J pre wr) (fun i _ => 3 - (intOf i).toNat)
      case atStart => exact ⟨0, pre, by omega, rfl, unhide h0⟩
      case round =>
        clear h0
        obtain ⟨y, pre, hy, rfl, hc, hj⟩ := hrel
        by_cases hly : y < 3
        · by_cases hxy : x = y
          · subst hxy
            gi_wp2
            refine ⟨fun _ h => (by cases h), ?_⟩
            gi_wp2
            go_roundw
            case rel => exact ⟨x + 1, pre, by omega, by go_num, ⟨by have := hc.1; omega, fun p hp => hc.2 p (by have := p.2.2.2; omega)⟩, hj⟩
            case measure => simp [intOf]; omega
          · obtain ⟨fn, tmps, assign, body, hy', hR⟩ := unhide HY x y hlx hly hxy pre wr hj hc
            have HR := hide hR
            have hne : ((x : Int) == (y : Int)) = false := by simp; omega
            clear hR hc hj
            gi_wp2
            refine (unhide HR).mono ?_
            rintro e W' (⟨rfl, pre', h1, h2⟩ | ⟨rfl, pre', h1⟩)
            · have HJ := hide (And.intro h1 h2)
              clear h1 h2
              gi_wp2
              go_roundw
              case rel => exact ⟨y + 1, pre', by omega, by go_num, (unhide HJ).2, (unhide HJ).1⟩
              case measure => simp [intOf]; omega
            · gi_wp2
              refine bodyPost_ret (results_none rfl _ _ _) rfl ?_
              exact ⟨⟨_, rfl⟩, .inr ⟨pre', trivial, h1⟩⟩
        · obtain rfl : y = 3 := by omega
          gi_wp2
          go_roundw
          case rel => exact ⟨x + 1, pre, by omega, by go_num, ⟨by have := hc.1; omega, fun p hp => hc.2 p (by have := p.2.2.1; omega)⟩, hj⟩
          case measure => simp [intOf]; omega
    · obtain rfl : x = 3 := by omega
      gi_wp2
      go_end0
      exact ⟨⟨_, rfl⟩, .inl ⟨pre, fun p => hc.2 p (by have := p.2.1; omega), hj⟩⟩
set_option maxRecDepth 100000 in
theorem pairs_any (w : World) : Calls Try.prog 27 #[] w fun e w' => e = .returned (.func (.func 38) #[] #[]) ∧ w' = w := by
  go_enter Try.func27, Try.ntmps27
  go_wp2
  go_ret
  exact ⟨rfl, rfl⟩
end Go.Proofs.Ytbbbjpkomnhofaa
