import Derived.Test.YtnkeaaiangmfhaaE
namespace Go.Proofs.Ytnkeaaiangmfhaa
open Go.RowKit
theorem intVals_at (l : List Int) (j : Nat) (h : j < l.length) : (intVals l)[j]? = some (.int .i64 (l[j]?.getD 0)) := by
  unfold intVals
  rw [List.getElem?_map, List.getElem?_eq_getElem h]
  rfl
theorem Row.of_owns {W : World} {base : Nat} {v : Value} {n : Nat} {l : List Int} (h : W.ownsRow base 3 1 v n (intVals l)) :
    ∃ va cap, v = .slice va n cap ∧ n ≤ cap ∧ cap ≤ maxLen ∧ Row base W va n (fun j => l[j]?.getD 0) := by
  have hl : l.length = n := by have := h.1; rw [intVals_len] at this; omega
  have h0 := h
  rcases h.2 with ⟨rfl, rfl⟩ | ⟨g, cap, cur, rfl, hbg, hgg, hnc, hcm, hcs, htake⟩
  · exact ⟨none, 0, rfl, Nat.le_refl _, by unfold maxLen; omega, .inl rfl⟩
  · refine ⟨_, cap, rfl, hnc, hcm, .inr ⟨g, rfl, hbg, ?_, fun j hj => ?_, fun j hj => ?_⟩⟩
    · rcases Nat.lt_or_ge g W.heap.size with h' | h'
      · exact h'
      · rw [Array.getElem?_eq_none h'] at hgg; cases hgg
    · rw [h0.cellAt j (by omega), intVals_at l j (by omega)]
    · simp [World.frozen?, hgg]
theorem pick_len (c n : Nat) (hc : c ≤ 1000) (hn : 0 < n) (hm : n ≤ 1000) (w : World) :
    Calls Try.prog 5 #[.int .i64 c, .int .i64 n] w fun e w' => e = .returned (.int .i64 ((c % n : Nat) : Int)) ∧ w' = w := by
  have hnz : ((n : Int) == 0) = false := by simp; omega
  go_enter Try.func5, Try.ntmps5
  go_wp2
  go_ret
  refine ⟨ret_int ?_, rfl⟩
  simp
def VotPost (w : World) (e : Ending) (w' : World) : Prop := ∃ a n c vl, e = .returned (.slice a n c) ∧ Ints w' a n c vl ∧ Vot n vl ∧ Below w.heap.size w w'
set_option maxRecDepth 100000 in
set_option maxHeartbeats 4000000 in
theorem votesOf_any (a : Option Addr) (m c : Nat) (raw : List Int) (w : World) (h : Ints w a m c raw) (hr : ∀ x ∈ raw, InR x) (hm : m ≤ 64) :
    Calls Try.prog 4 #[.slice a m c] w fun e w' => VotPost w e w' := by
  have HR := hide hr
  have HI := hide h
  have HP := hide (fun W => pick_len m 6 (by omega) (by omega) (by omega) W)
  have hk6 : m % 6 < 6 := Nat.mod_lt _ (by omega)
  generalize m % 6 = q at *
  obtain ⟨N, hN⟩ : ∃ N, N = 1 + q := ⟨_, rfl⟩
  have z1 : (1 : Int) + (q : Int) = (N : Int) := by omega
  have hN6 : N ≤ 6 := by omega
  have hN1 : 0 < N := by omega
  clear hN hk6
  clear hr h
  go_enter Try.func4, Try.ntmps4
  go_wp2_with fail
  go_loopw [4, 3] (fun i v wr => Below w.heap.size w wr ∧ ∃ (k : Nat) (vl : List Int), k ≤ N ∧ i = .int .i64 k ∧ wr.ownsRow w.heap.size 3 1 v k (intVals vl) ∧ (∀ x ∈ vl, 0 ≤ x ∧ x ≤ 90000)) (fun i _ _ => N - (intOf i).toNat)
  case atStart => exact ⟨Below.refl _ _, 0, [], Nat.zero_le _, rfl, World.ownsRow_nil _ _ _ _, fun x hx => (by cases hx)⟩
  case round =>
    obtain ⟨hbr, k, vl, hk, rfl, hown, hvl⟩ := hrel
    by_cases hlt : k < N
    · have CA := hide (at_any a m c raw (k : Int) wr ((unhide HI).later hbr) (unhide HR) (by omega) (by omega) (by omega))
      have CB := hide (at_any a m c raw ((k : Int) + 1) wr ((unhide HI).later hbr) (unhide HR) (by omega) (by omega) (by omega))
      have HO := hide hown
      have HVL := hide hvl
      clear hown hvl
      go_wp2_with fail
      refine (unhide HP _).mono ?_
      rintro e w2 ⟨rfl, hw2⟩
      subst w2
      go_wp2_with fail
      refine (unhide CA).mono ?_
      rintro e w2 ⟨x, hx, rfl, hw2⟩
      subst w2
      go_wp2_with fail
      refine (pick_any x 3000 hx (by omega) (by omega) wr).mono ?_
      rintro e w2 ⟨p1, hp1, rfl, hw2⟩
      subst w2
      go_wp2_with fail
      refine (unhide CB).mono ?_
      rintro e w2 ⟨y, hy, rfl, hw2⟩
      subst w2
      go_wp2_with fail
      refine (pick_any y 30 hy (by omega) (by omega) wr).mono ?_
      rintro e w2 ⟨p2, hp2, rfl, hw2⟩
      subst w2
      have hmul : p1 * p2 ≤ 90000 := by
        have := Nat.mul_le_mul (show p1 ≤ 3000 by omega) (show p2 ≤ 30 by omega)
        omega
      obtain ⟨z, hz⟩ : ∃ z : Nat, z = p1 * p2 := ⟨_, rfl⟩
      have hzi : (p1 : Int) * (p2 : Int) = (z : Int) := by rw [hz]; simp
      have hzw : IntKind.i64.wrap (z : Int) = (z : Int) := wrap_in _ (by omega) (by omega)
      rw [← hz] at hmul
      clear hz
      go_wp2_with (at_builtin; refine wpList_append_int _ rfl _ _ rfl w.heap.size _ k _ rfl ((unhide HO).alloc _) wr.heap.size (z : Int) rfl (by simp) (by omega) (by have := hbr.size; simp; omega) ?_; intro v2 w2 ho2 hg2)
      go_roundw
      case rel =>
        have hb5 := (((Below.refl w.heap.size wr).alloc hbr.size (.cells #[.int .i64 (z : Int)] 3)).grown hg2 (by have := hbr.size; simp; omega) (fun q hq => ((unhide HO).lt q hq).1))
        refine ⟨hbr.trans hb5, k+1, vl ++ [(z : Int)], by omega, by go_num, ?_, fun x hx => ?_⟩
        · rw [intVals_append]
          exact ho2
        · rcases List.mem_append.1 hx with h | h
          · exact unhide HVL x h
          · rw [List.mem_singleton] at h; subst h; omega
      case measure => simp [intOf]; omega
    · obtain rfl : k = N := by omega
      obtain ⟨va, cap, hv, hc1, hc2, hR⟩ := Row.of_owns hown
      have hvn : vl.length = k := by have := hown.1; rw [intVals_len] at this; omega
      subst hv
      obtain ⟨g, hg, hgb, hgs, hgc, hgf⟩ := hR.resolve_left (by omega)
      subst hg
      have h0 : wr.cell? ⟨g, 0, none⟩ = some (.int .i64 (vl[0]?.getD 0)) := hgc 0 (by omega)
      have f0 := hgf 0 (by omega)
      have hx0 := hvl (vl[0]?.getD 0) (by rw [List.getElem?_eq_getElem (by omega)]; exact List.getElem_mem _)
      have HX : Hid (Row w.heap.size (wr.setCell ⟨g, 0, none⟩ (.int .i64 (vl[0]?.getD 0 + 1))) (some ⟨g, 0, none⟩) k (fun j => if j = 0 then vl[0]?.getD 0 + 1 else vl[j]?.getD 0)) :=
        hR.set (by omega) (fun j hj hj0 => (if_neg hj0).symm) (if_pos rfl).symm
      have HVL : Hid (Vot k ((List.range k).map fun j => if j = 0 then vl[0]?.getD 0 + 1 else vl[j]?.getD 0)) := by
        refine ⟨by omega, by omega, fun j hj => ?_, ?_⟩
        · rw [List.getElem?_map, List.getElem?_range hj]
          have hxj := hvl (vl[j]?.getD 0) (by rw [List.getElem?_eq_getElem (by omega)]; exact List.getElem_mem _)
          show (0 : Int) ≤ (if j = 0 then vl[0]?.getD 0 + 1 else vl[j]?.getD 0) ∧ (if j = 0 then vl[0]?.getD 0 + 1 else vl[j]?.getD 0) ≤ 1000000
          by_cases e : j = 0
          · rw [if_pos e]; omega
          · rw [if_neg e]; omega
        · rw [List.getElem?_map, List.getElem?_range (by omega)]
          show (0 : Int) < (if (0 : Nat) = 0 then vl[0]?.getD 0 + 1 else vl[0]?.getD 0)
          rw [if_pos rfl]; omega
      unfold maxLen at hc2
      clear hgc hgf hown hvl hR hvn
      generalize vl[0]?.getD 0 = y at *
      go_wp2_with fail
      refine (unhide HP _).mono ?_
      rintro e w2 ⟨rfl, hw2⟩
      subst w2
      go_wp2
      go_ret
      refine ⟨_, _, _, _, rfl, (unhide HX).ints (by simp) hc1 (by unfold maxLen; omega) (fun j hj => ?_), unhide HVL, hbr.setCell (p := ⟨g, 0, none⟩) hgb _⟩
      rw [List.getElem?_map, List.getElem?_range hj]
      rfl
end Go.Proofs.Ytnkeaaiangmfhaa
