import Derived.Test.YtfagkgehljoppaaA
namespace Go.Proofs.Ytfagkgehljoppaa
open Go.RowKit
/-- How the swaps lie where a function has boxed them. -/
structure SBox (W : World) (b : Nat) (gv rd rw : Int) (fa : Option Addr) (fn fc : Nat) : Prop where
  c0 : W.cell? ⟨b, 0, none⟩ = some (.int .i64 gv)
  c1 : W.cell? ⟨b, 1, none⟩ = some (.slice fa fn fc)
  c2 : W.cell? ⟨b, 2, none⟩ = some (.int .i64 rd)
  c3 : W.cell? ⟨b, 3, none⟩ = some (.int .i64 rw)
theorem SBox.lt {W : World} {b : Nat} {gv rd rw : Int} {fa : Option Addr} {fn fc : Nat} (h : SBox W b gv rd rw fa fn fc) : b < W.heap.size := World.block_lt_of_cell? W _ h.c0
theorem SBox.later {W W' : World} {b : Nat} {gv rd rw : Int} {fa : Option Addr} {fn fc : Nat} (h : SBox W b gv rd rw fa fn fc) (hb : Below W.heap.size W W') : SBox W' b gv rd rw fa fn fc :=
  ⟨(hb.cell (p := ⟨b, 0, none⟩) h.lt).trans h.c0, (hb.cell (p := ⟨b, 1, none⟩) h.lt).trans h.c1, (hb.cell (p := ⟨b, 2, none⟩) h.lt).trans h.c2, (hb.cell (p := ⟨b, 3, none⟩) h.lt).trans h.c3⟩
def swV (gv rd rw : Int) (fa : Option Addr) (fn fc : Nat) : Value := .agg #[.int .i64 gv, .slice fa fn fc, .int .i64 rd, .int .i64 rw]
/-- Heavy says true, or all is small. -/
def HeavyPost (n : Nat) (l : List Sl) (w : World) (e : Ending) (w' : World) : Prop := ∃ hv : Bool, e = .returned (.bool hv) ∧ (hv = false → n ≤ 1024 ∧ ∀ s ∈ l, s.ln ≤ 1024) ∧ w' = w
set_option maxHeartbeats 1000000 in
theorem heavy_any (a : Option Addr) (n c : Nat) (l : List Sl) (w : World) (h : Lsts w a n c l) (hs : ∀ s ∈ l, s.ln ≤ 140737488351232) (hn : n ≤ 140737488351232) :
    Calls Try.prog 4 #[.slice a n c] w fun e w' => HeavyPost n l w e w' := by
  have hl := hide h.1
  have HS := hide hs
  clear hs
  go_enter Try.func4, Try.ntmps4
  go_wp2
  go_loop [4, 3] (fun i v => ∃ k acc : Nat, k ≤ n ∧ i = .int .i64 k ∧ v = .int .i64 acc ∧ n ≤ acc ∧ acc ≤ 281474976702464 ∧ ∀ j, j < k → (slAt l j).ln ≤ acc) (fun i _ => n - (intOf i).toNat)
  case atStart => exact ⟨0, n, Nat.zero_le _, rfl, rfl, Nat.le_refl _, by omega, fun j hj => by omega⟩
  case round =>
    obtain ⟨k, acc, hk, rfl, rfl, hna, hac, hall⟩ := hrel
    have HALL := hide hall
    clear hall
    by_cases hlt : k < n
    · by_cases hle : acc ≤ 1024
      · obtain ⟨b, off, rfl, hb, hcell⟩ := h.cellAt (by omega)
        have hck := hcell k hlt
        have hsk := unhide HS (slAt l k) (slAt_mem (by have := unhide hl; omega))
        have hmk := (h.mem hlt).2.1
        have hmc := (h.mem hlt).2.2.1
        unfold maxLen at hmc
        obtain ⟨sk, hsk'⟩ : ∃ s, s = slAt l k := ⟨_, rfl⟩
        rw [← hsk'] at hck hsk hmk hmc
        have HSK := hide hsk'
        clear hsk' hcell
        obtain ⟨la, ln, lc, ints⟩ := sk
        simp only at hck hsk hmk hmc
        go_wp2
        refine ⟨⟨k + 1, acc + ln, by omega, by go_num, by go_num, by omega, by omega, fun j hj => ?_⟩, by simp [intOf]; omega⟩
        by_cases e : j = k
        · subst e
          rw [← unhide HSK]
          show ln ≤ _
          omega
        · have := unhide HALL j (by omega)
          omega
      · have d1 : decide ((acc : Int) ≤ 1024) = false := by simp; omega
        have d2 : decide (1024 < (acc : Int)) = true := by simp; omega
        go_wp2
        go_ret
        exact ⟨true, rfl, fun e => (by cases e), rfl⟩
    · have d0 : decide ((k : Int) < (n : Int)) = false := by simp; omega
      by_cases hle : acc ≤ 1024
      · have d2 : decide (1024 < (acc : Int)) = false := by simp; omega
        go_wp2
        go_ret
        refine ⟨false, rfl, fun _ => ⟨by omega, fun s hs => ?_⟩, rfl⟩
        obtain ⟨j, hj, e⟩ := List.getElem_of_mem hs
        have := unhide HALL j (by have := unhide hl; omega)
        have e2 : slAt l j = s := by unfold slAt; rw [List.getElem?_eq_getElem hj, e]; rfl
        rw [e2] at this
        omega
      · have d2 : decide (1024 < (acc : Int)) = true := by simp; omega
        go_wp2
        go_ret
        exact ⟨true, rfl, fun e => (by cases e), rfl⟩
theorem gives_any (gv rd rw : Int) (fa : Option Addr) (fn fc : Nat) (k : Int) (w : World) :
    Calls Try.prog 17 #[swV gv rd rw fa fn fc, .int .i64 k] w fun e w' => e = .returned (.bool (decide (k < gv))) ∧ Below w.heap.size w w' := by
  have hbw : Below w.heap.size w (w.alloc (.cells #[.int .i64 gv, .slice fa fn fc, .int .i64 rd, .int .i64 rw] 24)) := by go_grown
  unfold swV
  go_enter Try.func17, Try.ntmps17
  go_wp2
  go_ret
  exact ⟨rfl, hbw⟩
theorem fits_any (gv rd rw : Int) (fa : Option Addr) (fn fc : Nat) (F : List Sl) (i : Nat) (x : Int) (w : World) (h : Lsts w fa fn fc F) (hi : i < fn) :
    Calls Try.prog 16 #[swV gv rd rw fa fn fc, .int .i64 i, .int .i64 x] w fun e w' => e = .returned (.bool (decide (0 ≤ idxFrom (slAt F i).ints x 0))) ∧ Below w.heap.size w w' := by
  have hbw : Below w.heap.size w (w.alloc (.cells #[.int .i64 gv, .slice fa fn fc, .int .i64 rd, .int .i64 rw] 24)) := by go_grown
  have h2 := h.later hbw
  obtain ⟨b, off, rfl, hb, hcell⟩ := h2.cellAt (by omega)
  have hck := hcell i hi
  clear hcell
  have hI := h2.mem hi
  have hc1 := h.2.1
  have hc2 := h.2.2.1
  unfold maxLen at hc2
  generalize slAt F i = S at *
  obtain ⟨la, ln, lc, ints⟩ := S
  simp only at hck hI
  unfold swV
  go_enter Try.func16, Try.ntmps16
  go_wp2_with fail
  refine (contains_any la ln lc ints x _ hI).mono ?_
  rintro e w1 ⟨rfl, hw1⟩
  subst w1
  go_wp2
  go_ret
  exact ⟨rfl, hbw⟩
end Go.Proofs.Ytfagkgehljoppaa
