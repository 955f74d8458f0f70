import Derived.Test.YtloandcndnmkhaaDD
namespace Go.Proofs.Ytloandcndnmkhaa
open Go.RowKit
theorem T3.apart23 {w : World} {base k : Nat} {v : Value} {xs : List Value} {b : Nat} {arr : Array Value} {fz : Nat × Nat} (ho : w.ownsRow base 23 1 v k xs) (h : w.heap[b]? = some (.cells arr 3 fz)) : some b ≠ v.ownBlock := by
  intro e
  have e := e.symm
  rcases ho.2 with ⟨rfl, _⟩ | ⟨g, cap, cur, rfl, _, hg, _⟩
  · cases e
  · have e2 : g = b := by simpa [Value.ownBlock] using e
    subst e2
    rw [hg] at h
    cases h
theorem T3.grown23 {w w' : World} {base k : Nat} {v : Value} {xs : List Value} {a : Option Addr} {n c : Nat} {l : List Int} (h : T3 w a n) (hI : Ints w a n c l) (ho : w.ownsRow base 23 1 v k xs) (hg : w.grownBy w' v.ownBlock) : T3 w' a n ∧ Ints w' a n c l := by
  rcases h with h | ⟨b, off, arr, fz, h1, h2⟩
  · exact ⟨Or.inl h, hI.1, hI.2.1, hI.2.2.1, Or.inl h⟩
  · have hlt := (Array.getElem?_eq_some_iff.1 h2).1
    have hb := hg.block b hlt (T3.apart23 ho h2)
    refine ⟨Or.inr ⟨b, off, arr, fz, h1, by rw [hb]; exact h2⟩, hI.1, hI.2.1, hI.2.2.1, ?_⟩
    rcases hI.2.2.2 with h0 | ⟨b', off', e, hlt', hc⟩
    · exact Or.inl h0
    · rw [h1] at e
      cases e
      exact Or.inr ⟨b, off, h1, Nat.lt_of_lt_of_le hlt hg.size, fun j hj => (World.cell?_of_block (a := ⟨b, off + j, none⟩) hb).trans (hc j hj)⟩
/-- A table as lists. -/
def rowsL (f : Nat → Nat → Int) (n k : Nat) : List (List Int) := (List.range k).map fun x => (List.range n).map (f x)
theorem rowsL_succ (f : Nat → Nat → Int) (n k : Nat) : rowsL f n (k + 1) = rowsL f n k ++ [(List.range n).map (f k)] := by simp [rowsL, List.range_succ]
def ListsPost (n : Nat) (rows : List (List Int)) (w : World) (e : Ending) (w' : World) : Prop := ∃ a c L, e = .returned (.slice a n c) ∧ Lsts w' a n c L ∧ lists L = rows ∧ Below w.heap.size w w'
set_option maxRecDepth 100000 in
set_option maxHeartbeats 4000000 in
theorem pairsR_any (n : Nat) (a : Option Addr) (m c : Nat) (l : List Bal) (w : World) (h : Bals w a m c l) (hg : Good n l) :
    Calls Try.prog 40 #[.int .i64 n, .slice a m c] w fun e w' => ListsPost n (rowsL (prf l l.length) n n) w e w' := by
  have hn6 := hg.2.1
  have CP := hide (fun W x y (hb : Below w.heap.size w W) => prefer_any n a m c l x y W (h.later hb) hg)
  clear h hg
  generalize prf l l.length = p at *
  go_enter Try.func40, Try.ntmps40
  go_wp2_with fail
  go_loopw [6, 5, 7, 8, 9] (fun i v _ _ _ wr => Below w.heap.size w wr ∧ ∃ (k : Nat) (L : List Sl), k ≤ n ∧ i = .int .i64 k ∧ wr.ownsRow w.heap.size 23 1 v k (slVals L) ∧ lists L = rowsL p n k ∧ (∀ s ∈ L, Ints wr s.la s.ln s.lc s.ints ∧ T3 wr s.la s.ln)) (fun i _ _ _ _ _ => n - (intOf i).toNat)
  case atStart => exact ⟨Below.refl _ _, 0, [], Nat.zero_le _, rfl, World.ownsRow_nil _ _ _ _, rfl, fun s hs => (by cases hs)⟩
  case round =>
    obtain ⟨hbr, k, L, hk, rfl, hown, hls, hL⟩ := hrel
    have HOWN := hide hown
    have HLS := hide hls
    have HL := hide hL
    clear hown hls hL
    by_cases hlt : k < n
    · go_wp2_with fail
      rename World => wq
      go_loopw [8, 7, 9] (fun i v _ wr => Below wq.heap.size wq wr ∧ ∃ t : Nat, t ≤ n ∧ i = .int .i64 t ∧ wr.ownsRow wq.heap.size 3 1 v t (intVals ((List.range t).map (p k)))) (fun i _ _ _ => n - (intOf i).toNat)
      case atStart => exact ⟨Below.refl _ _, 0, Nat.zero_le _, rfl, World.ownsRow_nil _ _ _ _⟩
      case round =>
        obtain ⟨hbr2, t, ht, rfl, hrow⟩ := hrel
        have HR := hide hrow
        clear hrow
        have hbb := hbr.trans (hbr2.mono hbr.size)
        by_cases hlt2 : t < n
        · have C := hide (unhide CP wr k t hbb)
          generalize hpv : p k t = pv at C
          have HPV := hide hpv
          clear hpv
          go_wp2_with (first | (go_at_call 59; refine (unhide C).mono ?_; rintro e w1 ⟨rfl, hw1⟩; subst w1) | (at_builtin; refine wpList_append_int _ rfl _ _ rfl wq.heap.size _ _ _ rfl ((unhide HR).alloc _) wr.heap.size pv rfl (by simp) (by omega) (by have := hbr2.size; simp; omega) ?_; intro v2 w2 ho2 hg2))
          go_roundw
          case rel =>
            have hb5 := (((Below.refl wq.heap.size wr).alloc hbr2.size (.cells #[.int .i64 pv] 3)).grown hg2 (by have := hbr2.size; simp; omega) (fun q hq => ((unhide HR).lt q hq).1))
            refine ⟨hbr2.trans hb5, t + 1, by omega, by go_num, ?_⟩
            rw [List.range_succ, List.map_append, intVals_append]
            show _root_.Go.World.ownsRow _ _ _ _ _ _ (_ ++ intVals [p k t])
            rw [unhide HPV]
            exact ho2
          case measure => simp [intOf]; omega
        · obtain rfl : n = t := by omega
          obtain ⟨a2, c2, hv2, hI2, _⟩ := Ints.of_owns (unhide HR) (by omega)
          have hT2 := T3.of_owns (by rw [hv2] at HR; exact unhide HR)
          subst hv2
          have hbA : Below wr.heap.size wr (wr.alloc (.cells #[.slice a2 n c2] 23)) := by go_grown
          have HI3 := hide (hI2.later hbA)
          have HT3 := hide (hT2.later hbA)
          have HO3 := hide (owns_later (unhide HOWN) (hbr2.trans (hbA.mono hbr2.size)))
          have HX := hide (show Lsts (wr.alloc (.cells #[.slice a2 n c2] 23)) (some ⟨wr.heap.size, 0, none⟩) 1 1 [⟨a2, n, c2, (List.range n).map (p k)⟩] from lsts_one (s := ⟨a2, n, c2, (List.range n).map (p k)⟩) (by simp) (unhide HI3))
          clear hI2 hT2
          go_wp2_with (at_builtin; refine wpList_append_lsts _ rfl _ _ rfl w.heap.size _ k L rfl (unhide HO3) _ 1 1 [⟨a2, n, c2, (List.range n).map (p k)⟩] rfl (unhide HX) (by omega) (by have := hbb.size; simp; omega) ?_; intro v4 w4 ho4 hg4)
          go_roundw
          case rel =>
            have hbA2 : Below wq.heap.size wq (wr.alloc (.cells #[.slice a2 n c2] 23)) := hbr2.trans (hbA.mono hbr2.size)
            have hbw : Below w.heap.size w (wr.alloc (.cells #[.slice a2 n c2] 23)) := hbb.trans (hbA.mono hbb.size)
            refine ⟨hbw.trans ((Below.refl w.heap.size _).grown hg4 hbw.size (fun q hq => ((unhide HO3).lt q hq).1)), k + 1, L ++ [⟨a2, n, c2, (List.range n).map (p k)⟩], by omega, by go_num, ho4, ?_, fun s hs => ?_⟩
            · rw [rowsL_succ, ← unhide HLS]; simp [lists]
            · rcases List.mem_append.1 hs with h | h
              · have h1 := unhide HL s h
                have := (h1.2.later hbA2).grown23 (h1.1.later hbA2) (unhide HO3) hg4
                exact ⟨this.2, this.1⟩
              · rw [List.mem_singleton] at h
                subst h
                have := (unhide HT3).grown23 (unhide HI3) (unhide HO3) hg4
                exact ⟨this.2, this.1⟩
          case measure => simp [intOf]; omega
    · obtain rfl : n = k := by omega
      obtain ⟨aa, cc, hv, hLL⟩ := Lsts.of_owns (unhide HOWN) (fun s hs => (unhide HL s hs).1)
      subst hv
      go_wp2_with fail
      go_ret
      exact ⟨aa, cc, L, rfl, hLL, unhide HLS, hbr⟩
end Go.Proofs.Ytloandcndnmkhaa
