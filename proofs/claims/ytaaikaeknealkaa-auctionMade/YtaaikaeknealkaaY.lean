import Derived.Test.YtaaikaeknealkaaV
import Derived.Test.YtaaikaeknealkaaBO
namespace Go.Proofs.Ytaaikaeknealkaa
open Go.RowKit
set_option maxRecDepth 100000 in
set_option maxHeartbeats 4000000 in
theorem auctionMade_any (ra : Option Addr) (rn rc : Nat) (raw : List Int) (x1 x2 : Int) (w : World) (h : Ints w ra rn rc raw) (hr : ∀ x ∈ raw, InR x) (h1 : InR x1) (h2 : InR x2) (hm : rn ≤ 140737488351232) :
    Calls Try.prog 4 #[.slice ra rn rc, .int .i64 x1, .int .i64 x2] w fun e w' => e = .returned (.bool true) ∧ Below w.heap.size w w' := by
  by_cases hbig : 256 < rn
  · clear h
    go_enter Try.func4, Try.ntmps4
    go_wp2
    go_ret
    exact ⟨rfl, Below.refl _ _⟩
  · have C1 := hide (pick_val x1 4 h1 (by omega) (by omega) w)
    have hp1 := pkN_lt x1 (show 0 < 4 by omega)
    generalize pkN x1 4 = p1 at *
    obtain ⟨N, hN⟩ : ∃ N, N = 1 + p1 := ⟨_, rfl⟩
    have zN : (1 : Int) + (p1 : Int) = (N : Int) := by omega
    have C2 := hide (pick_val x2 5 h2 (by omega) (by omega) w)
    have hp2 := pkN_lt x2 (show 0 < 5 by omega)
    generalize pkN x2 5 = it at *
    have C3 := bidsOf_any ra rn rc raw N it w h hr (by omega) (by omega) (by omega) (by omega)
    unfold bidV at C3
    have C3 := hide C3
    have CS := hide auctionShares_any
    unfold bidV at CS
    clear h hr hN
    go_enter Try.func4, Try.ntmps4
    go_wp2_with fail
    refine (unhide C1).mono ?_
    rintro e w2 ⟨rfl, hw2⟩
    subst w2
    go_wp2_with fail
    refine (unhide C2).mono ?_
    rintro e w2 ⟨rfl, hw2⟩
    subst w2
    go_wp2_with fail
    refine (unhide C3).mono ?_
    rintro e w2 ⟨a, c, L, rfl, hL, hG, hb2⟩
    have C4 := hide (unhide CS (it : Int) a N c L w2 hL (fun s hs' => by
      have := (hG s hs').1
      have := pow_le (show it ≤ 4 by omega)
      omega) (by omega))
    clear hG
    go_wp2_with fail
    refine (unhide C4).mono ?_
    rintro e w3 ⟨rfl, hb3⟩
    go_wp2
    go_ret
    exact ⟨rfl, hb2.trans (hb3.mono hb2.size)⟩
end Go.Proofs.Ytaaikaeknealkaa
