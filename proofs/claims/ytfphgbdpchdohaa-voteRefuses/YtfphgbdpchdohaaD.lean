import Derived.Test.YtfphgbdpchdohaaC
namespace Go.Proofs.Ytfphgbdpchdohaa
open Go.RowKit
def two (v : Value) (e : Int) : Value := .tuple #[v, .int .i64 e]
set_option maxHeartbeats 1000000 in
theorem pairs_err (x : Int) (a : Option Addr) (n c : Nat) (l : List Bal) (w : World) (h : Bals w a n c l) (hz : ¬ voteE x l = 0) :
    Calls Try.prog 17 #[.int .i64 x, .slice a n c] w fun e w' => e = .returned (two (.slice none 0 0) (voteE x l)) ∧ Below w.heap.size w w' := by
  have hzb : (voteE x l != 0) = true := by simpa using hz
  have HZ := hide hz
  clear hz
  go_enter Try.func17, Try.ntmps17
  go_wp2_with (go_at_call 7; refine (may_any x a n c l _ h).mono ?_; rintro e w1 ⟨rfl, hb1⟩)
  go_ret2
  exact ⟨rfl, hb1⟩
set_option maxHeartbeats 1000000 in
theorem score_err (x : Int) (a : Option Addr) (n c : Nat) (l : List Bal) (w : World) (h : Bals w a n c l) (f : Value) (hz : ¬ voteE x l = 0) :
    Calls Try.prog 36 #[.int .i64 x, .slice a n c, f] w fun e w' => e = .returned (two (.slice none 0 0) (voteE x l)) ∧ Below w.heap.size w w' := by
  have hzb : (voteE x l != 0) = true := by simpa using hz
  have HZ := hide hz
  clear hz
  go_enter Try.func36, Try.ntmps36
  go_wp2_with (go_at_call 7; refine (may_any x a n c l _ h).mono ?_; rintro e w1 ⟨rfl, hb1⟩)
  go_ret2
  exact ⟨rfl, hb1⟩
set_option maxHeartbeats 1000000 in
theorem runoff_err (x : Int) (a : Option Addr) (n c : Nat) (l : List Bal) (w : World) (h : Bals w a n c l) (hz : ¬ voteE x l = 0) :
    Calls Try.prog 15 #[.int .i64 x, .slice a n c] w fun e w' => e = .returned (two (.slice none 0 0) (voteE x l)) ∧ Below w.heap.size w w' := by
  have hzb : (voteE x l != 0) = true := by simpa using hz
  have HZ := hide hz
  clear hz
  go_enter Try.func15, Try.ntmps15
  go_wp2_with (go_at_call 7; refine (may_any x a n c l _ h).mono ?_; rintro e w1 ⟨rfl, hb1⟩)
  go_ret2
  exact ⟨rfl, hb1⟩
set_option maxHeartbeats 1000000 in
theorem paths_err (x : Int) (a : Option Addr) (n c : Nat) (l : List Bal) (w : World) (h : Bals w a n c l) (hz : ¬ voteE x l = 0) :
    Calls Try.prog 18 #[.int .i64 x, .slice a n c] w fun e w' => e = .returned (two (.slice none 0 0) (voteE x l)) ∧ Below w.heap.size w w' := by
  have hzb : (voteE x l != 0) = true := by simpa using hz
  have HZ := hide hz
  clear hz
  go_enter Try.func18, Try.ntmps18
  go_wp2_with (go_at_call 17; refine (pairs_err x a n c l _ h (unhide HZ)).mono ?_; rintro e w1 ⟨rfl, hb1⟩; unfold two)
  go_ret2
  exact ⟨rfl, hb1⟩
set_option maxHeartbeats 1000000 in
theorem copeland_err (x : Int) (a : Option Addr) (n c : Nat) (l : List Bal) (w : World) (h : Bals w a n c l) (hz : ¬ voteE x l = 0) :
    Calls Try.prog 12 #[.int .i64 x, .slice a n c] w fun e w' => e = .returned (two (.slice none 0 0) (voteE x l)) ∧ Below w.heap.size w w' := by
  have hzb : (voteE x l != 0) = true := by simpa using hz
  have HZ := hide hz
  clear hz
  go_enter Try.func12, Try.ntmps12
  go_wp2_with (go_at_call 17; refine (pairs_err x a n c l _ h (unhide HZ)).mono ?_; rintro e w1 ⟨rfl, hb1⟩; unfold two)
  go_ret2
  exact ⟨rfl, hb1⟩
set_option maxHeartbeats 1000000 in
theorem smith_err (x : Int) (a : Option Addr) (n c : Nat) (l : List Bal) (w : World) (h : Bals w a n c l) (hz : ¬ voteE x l = 0) :
    Calls Try.prog 13 #[.int .i64 x, .slice a n c] w fun e w' => e = .returned (two (.slice none 0 0) (voteE x l)) ∧ Below w.heap.size w w' := by
  have hzb : (voteE x l != 0) = true := by simpa using hz
  have HZ := hide hz
  clear hz
  go_enter Try.func13, Try.ntmps13
  go_wp2_with (go_at_call 17; refine (pairs_err x a n c l _ h (unhide HZ)).mono ?_; rintro e w1 ⟨rfl, hb1⟩; unfold two)
  go_ret2
  exact ⟨rfl, hb1⟩
set_option maxHeartbeats 1000000 in
theorem condorcet_err (x : Int) (a : Option Addr) (n c : Nat) (l : List Bal) (w : World) (h : Bals w a n c l) (hz : ¬ voteE x l = 0) :
    Calls Try.prog 19 #[.int .i64 x, .slice a n c] w fun e w' => e = .returned (two (.int .i64 0) (voteE x l)) ∧ Below w.heap.size w w' := by
  have hzb : (voteE x l != 0) = true := by simpa using hz
  have HZ := hide hz
  clear hz
  go_enter Try.func19, Try.ntmps19
  go_wp2_with (go_at_call 17; refine (pairs_err x a n c l _ h (unhide HZ)).mono ?_; rintro e w1 ⟨rfl, hb1⟩; unfold two)
  go_ret2
  exact ⟨rfl, hb1⟩
set_option maxHeartbeats 1000000 in
theorem against_err (x : Int) (a : Option Addr) (n c : Nat) (l : List Bal) (w : World) (h : Bals w a n c l) (o : Value) (hz : ¬ voteE x l = 0) :
    Calls Try.prog 20 #[.int .i64 x, .slice a n c, o] w fun e w' => e = .returned (two (.int .i64 0) (voteE x l)) ∧ Below w.heap.size w w' := by
  have hzb : (voteE x l != 0) = true := by simpa using hz
  have HZ := hide hz
  clear hz
  go_enter Try.func20, Try.ntmps20
  go_wp2_with (go_at_call 17; refine (pairs_err x a n c l _ h (unhide HZ)).mono ?_; rintro e w1 ⟨rfl, hb1⟩; unfold two)
  go_ret2
  exact ⟨rfl, hb1⟩
set_option maxHeartbeats 1000000 in
theorem schulze_err (x : Int) (a : Option Addr) (n c : Nat) (l : List Bal) (w : World) (h : Bals w a n c l) (hz : ¬ voteE x l = 0) :
    Calls Try.prog 14 #[.int .i64 x, .slice a n c] w fun e w' => e = .returned (two (.slice none 0 0) (voteE x l)) ∧ Below w.heap.size w w' := by
  have hzb : (voteE x l != 0) = true := by simpa using hz
  have HZ := hide hz
  clear hz
  go_enter Try.func14, Try.ntmps14
  go_wp2_with (go_at_call 18; refine (paths_err x a n c l _ h (unhide HZ)).mono ?_; rintro e w1 ⟨rfl, hb1⟩; unfold two)
  go_ret2
  exact ⟨rfl, hb1⟩
set_option maxHeartbeats 1000000 in
theorem firsts_err (x : Int) (a : Option Addr) (n c : Nat) (l : List Bal) (w : World) (h : Bals w a n c l) (hz : ¬ voteE x l = 0) :
    Calls Try.prog 10 #[.int .i64 x, .slice a n c] w fun e w' => e = .returned (two (.slice none 0 0) (voteE x l)) ∧ Below w.heap.size w w' := by
  go_enter Try.func10, Try.ntmps10
  go_wp2_with (go_at_call 36; refine (score_err x a n c l _ h _ hz).mono ?_; rintro e w1 ⟨rfl, hb1⟩; unfold two)
  go_ret2
  exact ⟨rfl, hb1⟩
set_option maxHeartbeats 1000000 in
theorem borda_err (x : Int) (a : Option Addr) (n c : Nat) (l : List Bal) (w : World) (h : Bals w a n c l) (hz : ¬ voteE x l = 0) :
    Calls Try.prog 11 #[.int .i64 x, .slice a n c] w fun e w' => e = .returned (two (.slice none 0 0) (voteE x l)) ∧ Below w.heap.size w w' := by
  have hmf : ∀ (fn : Fn) (first cap : Array Value) (w : World), (Instr.makeFunc fn first cap).run Try.prog w = .ok (.func fn first cap) w := fun _ _ _ _ => rfl
  have hbA : Below w.heap.size w (w.alloc (.cells #[.int .i64 x] 3)) := by go_grown
  go_enter Try.func11, Try.ntmps11
  go_wp2_with (go_at_call 36; refine (score_err x a n c l _ (h.later hbA) _ hz).mono ?_; rintro e w1 ⟨rfl, hb1⟩; unfold two)
  go_ret2
  exact ⟨rfl, hbA.trans (hb1.mono hbA.size)⟩
set_option maxHeartbeats 1000000 in
theorem kemeny_err (x : Int) (a : Option Addr) (n c : Nat) (l : List Bal) (w : World) (h : Bals w a n c l) (hz : ¬ voteE x l = 0) :
    Calls Try.prog 16 #[.int .i64 x, .slice a n c] w fun e w' => e = .returned (two (.slice none 0 0) (voteE x l)) ∧ Below w.heap.size w w' := by
  have hzb : (voteE x l != 0) = true := by simpa using hz
  have HZ := hide hz
  clear hz
  go_enter Try.func16, Try.ntmps16
  go_wp2_with (go_at_call 17; refine (pairs_err x a n c l _ h (unhide HZ)).mono ?_; rintro e w1 ⟨rfl, hb1⟩; unfold two)
  go_ret2
  exact ⟨rfl, hb1.trans (Below.mono (show Below w1.heap.size w1 _ by go_grown) hb1.size)⟩
end Go.Proofs.Ytfphgbdpchdohaa
