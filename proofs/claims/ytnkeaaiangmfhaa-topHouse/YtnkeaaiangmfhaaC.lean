import Derived.Test.YtnkeaaiangmfhaaB
import Derived.Deep.RegionWith
namespace Go.Proofs.Ytnkeaaiangmfhaa
open Go.RowKit
/-- The next one, as far as k have been looked at: who, and its claim. -/
def nxt (r : Int) (v s : Nat → Int) : Nat → Nat × (Int × Int)
  | 0 => (0, (0, 1))
  | k + 1 => if v k = 0 then nxt r v s k else if abv (cl r (v k) (s k)) (nxt r v s k).2 = true then (k, cl r (v k) (s k)) else nxt r v s k
theorem nxt_zero {r : Int} {v s : Nat → Int} {k : Nat} (h : v k = 0) : nxt r v s (k + 1) = nxt r v s k := by rw [nxt, if_pos h]
theorem nxt_yes {r : Int} {v s : Nat → Int} {k : Nat} (h : ¬ v k = 0) (h2 : abv (cl r (v k) (s k)) (nxt r v s k).2 = true) : nxt r v s (k + 1) = (k, cl r (v k) (s k)) := by rw [nxt, if_neg h, if_pos h2]
theorem nxt_no {r : Int} {v s : Nat → Int} {k : Nat} (h : ¬ v k = 0) (h2 : abv (cl r (v k) (s k)) (nxt r v s k).2 = false) : nxt r v s (k + 1) = nxt r v s k := by rw [nxt, if_neg h, if_neg (by simp [h2])]
theorem nxt_lt (r : Int) (v s : Nat → Int) : ∀ k, (nxt r v s k).1 = 0 ∨ ((nxt r v s k).1 < k ∧ v (nxt r v s k).1 ≠ 0) := by
  intro k
  induction k with
  | zero => exact .inl rfl
  | succ k ih =>
    by_cases h : v k = 0
    · rw [nxt_zero h]; omega
    · cases h2 : abv (cl r (v k) (s k)) (nxt r v s k).2
      · rw [nxt_no h h2]; omega
      · rw [nxt_yes h h2]; exact .inr ⟨Nat.lt_succ_self _, h⟩
set_option maxRecDepth 100000 in
set_option maxHeartbeats 4000000 in
theorem next_any (r : Int) (va : Option Addr) (n vc : Nat) (vl : List Int) (sa : Option Addr) (sc : Nat) (sl : List Int) (w : World) (hV : Ints w va n vc vl) (hS : Ints w sa n sc sl) :
    Calls Try.prog 9 #[.int .i64 r, .slice va n vc, .slice sa n sc] w fun e w' => e = .returned (.int .i64 (nxt r (fun j => vl[j]?.getD 0) (fun j => sl[j]?.getD 0) n).1) ∧ Below w.heap.size w w' := by
  have h1 := hV.2.1
  have h2 := hV.2.2.1
  have h3 := hS.2.1
  have h4 := hS.2.2.1
  unfold maxLen at h2 h4
  have HV := hide hV
  have HS := hide hS
  clear hV hS
  obtain ⟨v, hv⟩ : ∃ v : Nat → Int, v = fun j => vl[j]?.getD 0 := ⟨_, rfl⟩
  obtain ⟨s, hs⟩ : ∃ s : Nat → Int, s = fun j => sl[j]?.getD 0 := ⟨_, rfl⟩
  rw [← hv, ← hs]
  have HCV : Hid (∀ W, Below w.heap.size w W → 0 < n → ∃ b off, va = some ⟨b, off, none⟩ ∧ b < w.heap.size ∧ ∀ j, j < n → W.cell? ⟨b, off + j, none⟩ = some (.int .i64 (v j))) := fun W hW hn => by
    obtain ⟨b, off, h1, h2, h3⟩ := (unhide HV).cellAt hn
    exact ⟨b, off, h1, h2, fun j hj => by rw [hW.cell (p := ⟨b, off + j, none⟩) h2, h3 j hj, hv]⟩
  have HCS : Hid (∀ W, Below w.heap.size w W → 0 < n → ∃ b off, sa = some ⟨b, off, none⟩ ∧ b < w.heap.size ∧ ∀ j, j < n → W.cell? ⟨b, off + j, none⟩ = some (.int .i64 (s j))) := fun W hW hn => by
    obtain ⟨b, off, h1, h2, h3⟩ := (unhide HS).cellAt hn
    exact ⟨b, off, h1, h2, fun j hj => by rw [hW.cell (p := ⟨b, off + j, none⟩) h2, h3 j hj, hs]⟩
  clear hv hs
  go_enter Try.func9, Try.ntmps9
  go_wp2
  go_loopw [15, 7, 9, 10, 11] (fun i b _ _ _ wr => Below w.heap.size w wr ∧ ∃ k : Nat, k ≤ n ∧ i = .int .i64 k ∧ b = .int .i64 (nxt r v s k).1 ∧ w.heap.size < wr.heap.size ∧ wr.cell? ⟨w.heap.size, 0, none⟩ = some (.int .i64 (nxt r v s k).2.1) ∧ wr.cell? ⟨w.heap.size, 1, none⟩ = some (.int .i64 (nxt r v s k).2.2) ∧ wr.frozen? ⟨w.heap.size, 0, none⟩ = false ∧ wr.frozen? ⟨w.heap.size, 1, none⟩ = false) (fun i _ _ _ _ _ => n - (intOf i).toNat)
  case atStart => exact ⟨by go_grown, 0, Nat.zero_le _, rfl, rfl, by simp, by simp [nxt], by simp [nxt], by simp, by simp⟩
  case round =>
    obtain ⟨hbr, k, hk, rfl, rfl, hsz, hc0, hc1, hf0, hf1⟩ := hrel
    by_cases hlt : k < n
    · obtain ⟨bV, oV, hva, hbV, hcV⟩ := unhide HCV wr hbr (by omega)
      subst hva
      have hck := hcV k hlt
      by_cases hz : v k = 0
      · have HZ := hide (nxt_zero (r := r) (s := s) hz)
        have hz2 : (v k == 0) = true := by simpa using hz
        clear hcV
        go_wp2
        refine ⟨⟨hbr, k + 1, by omega, by go_num, by rw [unhide HZ], hsz, by rw [unhide HZ]; exact hc0, by rw [unhide HZ]; exact hc1, hf0, hf1⟩, by simp [intOf]; omega⟩
      · have hz2 : (v k == 0) = false := by simpa using hz
        obtain ⟨bS, oS, hsa, hbS, hcS⟩ := unhide HCS wr hbr (by omega)
        subst hsa
        have hcs := hcS k hlt
        clear hcV hcS
        have HY := hide (nxt_yes (r := r) (s := s) hz)
        have HN := hide (nxt_no (r := r) (s := s) hz)
        have C11 := hide (claim_any r (v k) (s k) wr)
        have C12 := hide (above_any (cl r (v k) (s k)) (nxt r v s k).2)
        unfold clV at C11 C12
        obtain ⟨P1, hP1⟩ : ∃ y, y = nxt r v s k := ⟨_, rfl⟩
        obtain ⟨P2, hP2⟩ : ∃ y, y = nxt r v s (k + 1) := ⟨_, rfl⟩
        obtain ⟨p, hp⟩ : ∃ y, y = cl r (v k) (s k) := ⟨_, rfl⟩
        rw [← hP1, ← hP2, ← hp] at HY
        rw [← hP1, ← hP2, ← hp] at HN
        rw [← hP1] at hc0 hc1 C12
        rw [← hp] at C11 C12
        rw [← hP1]
        have HP2 := hide hP2
        clear hP1 hp hP2
        obtain ⟨q, m0, m1⟩ := P1
        obtain ⟨p0, p1⟩ := p
        simp only at hc0 hc1 C11 C12
        go_wp2_with fail
        refine (unhide C11).mono ?_
        rintro e w1 ⟨rfl, hb1⟩
        have hc01 := (hb1.cell (p := ⟨w.heap.size, 0, none⟩) hsz).trans hc0
        have hc11 := (hb1.cell (p := ⟨w.heap.size, 1, none⟩) hsz).trans hc1
        have hf01 := (hb1.frozen (p := ⟨w.heap.size, 0, none⟩) hsz).trans hf0
        have hf11 := (hb1.frozen (p := ⟨w.heap.size, 1, none⟩) hsz).trans hf1
        have hsz1 := Nat.lt_of_lt_of_le hsz hb1.size
        have hne : ¬ w.heap.size = w1.heap.size := by omega
        have HBR := hide (hbr.trans (hb1.mono hbr.size))
        clear hc0 hc1 hf0 hf1 hb1 hbr hck hcs
        go_wp2_with fail
        refine (unhide C12 _).mono ?_
        rintro e w2 ⟨rfl, hb2⟩
        have hbA : Below w1.heap.size w1 (w1.alloc (Obj.cells #[Value.int IntKind.i64 p0, Value.int IntKind.i64 p1] 34)) := by go_grown
        have hbW : Below w1.heap.size w1 w2 := hbA.trans (hb2.mono hbA.size)
        have hd0 : w2.cell? ⟨w1.heap.size, 0, none⟩ = some (.int .i64 p0) := by
          rw [hb2.cell (p := ⟨w1.heap.size, 0, none⟩) (by simp)]; simp
        have hd1 : w2.cell? ⟨w1.heap.size, 1, none⟩ = some (.int .i64 p1) := by
          rw [hb2.cell (p := ⟨w1.heap.size, 1, none⟩) (by simp)]; simp
        have hc0 := (hbW.cell (p := ⟨w.heap.size, 0, none⟩) hsz1).trans hc01
        have hc1 := (hbW.cell (p := ⟨w.heap.size, 1, none⟩) hsz1).trans hc11
        have hf0 := (hbW.frozen (p := ⟨w.heap.size, 0, none⟩) hsz1).trans hf01
        have hf1 := (hbW.frozen (p := ⟨w.heap.size, 1, none⟩) hsz1).trans hf11
        have hsz2 := Nat.lt_of_lt_of_le hsz1 hbW.size
        have HB2 := hide ((unhide HBR).trans (hbW.mono (unhide HBR).size))
        clear hc01 hc11 hf01 hf11 hbW hbA hb2
        cases hab : abv (p0, p1) (m0, m1)
        · have e2 := unhide HN hab
          subst e2
          go_wp2_with fail
          refine ⟨⟨unhide HB2, k + 1, by omega, by go_num, by rw [← unhide HP2], hsz2, by rw [← unhide HP2]; exact hc0, by rw [← unhide HP2]; exact hc1, hf0, hf1⟩, by simp [intOf]; omega⟩
        · have e2 := unhide HY hab
          subst e2
          have x0 : ((w2.setCell ⟨w.heap.size, 0, none⟩ (.int .i64 p0)).setCell ⟨w.heap.size, 1, none⟩ (.int .i64 p1)).cell? ⟨w.heap.size, 0, none⟩ = some (.int .i64 p0) := by
            rw [World.cell?_setCell_other _ _ _ _ (by intro hh; cases hh)]
            exact World.cell?_setCell_same' _ _ _ (by rw [hc0]; rfl)
          have x1 : ((w2.setCell ⟨w.heap.size, 0, none⟩ (.int .i64 p0)).setCell ⟨w.heap.size, 1, none⟩ (.int .i64 p1)).cell? ⟨w.heap.size, 1, none⟩ = some (.int .i64 p1) :=
            World.cell?_setCell_same' _ _ _ (by rw [World.cell?_setCell_other _ _ _ _ (by intro hh; cases hh), hc1]; rfl)
          have HX := hide (And.intro x0 x1)
          clear x0 x1
          go_wp2_with fail
          go_region_with fail
          go_wp2
          refine ⟨⟨((((unhide HB2).setCell (p := ⟨w.heap.size, 0, none⟩) (Nat.le_refl _) _).setCell (p := ⟨w.heap.size, 1, none⟩) (Nat.le_refl _) _)).drew, k + 1, by omega, by go_num, by rw [← unhide HP2], by simpa using hsz2, by rw [← unhide HP2]; exact (unhide HX).1, by rw [← unhide HP2]; exact (unhide HX).2, ?_, ?_⟩, by simp [intOf]; omega⟩
          · show World.frozen? (World.setCell (World.setCell _ _ _) _ _) _ = false
            rw [World.frozen?_setCell, World.frozen?_setCell]; exact hf0
          · show World.frozen? (World.setCell (World.setCell _ _ _) _ _) _ = false
            rw [World.frozen?_setCell, World.frozen?_setCell]; exact hf1
    · obtain rfl : n = k := by omega
      go_wp2
      go_ret
      exact ⟨rfl, hbr⟩
end Go.Proofs.Ytnkeaaiangmfhaa
