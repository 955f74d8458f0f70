import Derived.Test.YtodbnjainpjkcaaP3
import Derived.Test.YtodbnjainpjkcaaSS
import Derived.Test.YtodbnjainpjkcaaFT
namespace Go.Proofs.Ytodbnjainpjkcaa
open Go.RowKit
theorem mem_agAt {l : List Ag} {g : Ag} (h : g ∈ l) : ∃ j, j < l.length ∧ agAt l j = g := by
  obtain ⟨j, hj, e⟩ := List.getElem_of_mem h
  exact ⟨j, hj, by unfold agAt; rw [List.getElem?_eq_getElem hj, e]; rfl⟩
theorem made_small {c : UInt8} {l : List Ag} {n o : Nat} {one : Bool} (hn : n = l.length) (h : ∀ j, j < n → Made c j o one (agAt l j)) : Small l := fun g hg => by
  obtain ⟨j, hj, rfl⟩ := mem_agAt hg
  have hm := h j (by omega)
  have h1 := hm.ln
  rw [hm.name, nameOf_size]
  exact ⟨by omega, by omega⟩
set_option maxRecDepth 100000 in
set_option maxHeartbeats 1000000 in
/-- MATCHMADE'S WALK: whatever Sides makes, MatchFinds is true of it. -/
theorem made_any (a : Option Addr) (m c : Nat) (raw : List Int) (li ri : Int) (w : World) (h : Ints w a m c raw) (hr : ∀ x ∈ raw, InR x) (hli : InR li) (hri : InR ri) (hmx : m ≤ 140737488351232) :
    Calls Try.prog 3 #[.slice a m c, .int .i64 li, .int .i64 ri] w fun e w' => e = .returned (.bool true) ∧ Below w.heap.size w w' := by
  have HR := hide hr
  clear hr
  by_cases hbig : 256 < m
  · go_enter Try.func3, Try.ntmps3
    go_wp2
    go_ret
    exact ⟨rfl, Below.refl _ _⟩
  · go_enter Try.func3, Try.ntmps3
    go_wp2_with fail
    refine (sides_any a m c raw li ri 4 false w h (unhide HR) hli hri (by omega) (by omega) (by omega)).mono ?_
    rintro e w1 ⟨aL, nL, cL, lL, aR, nR, cR, lR, rfl, hL, hR, _, h1, _, h2, m1, m2, hb1⟩
    go_wp2_with fail
    refine (finds_any aL nL cL lL aR nR cR lR w1 hL hR (made_small hL.1 m1) (made_small hR.1 m2) (by omega) (by omega)).mono ?_
    rintro e w2 ⟨rfl, hb2⟩
    go_wp2
    go_ret
    exact ⟨rfl, hb1.trans (hb2.mono hb1.size)⟩
end Go.Proofs.Ytodbnjainpjkcaa
