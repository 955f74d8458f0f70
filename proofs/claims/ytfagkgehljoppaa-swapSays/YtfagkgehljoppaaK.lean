import Derived.Test.YtfagkgehljoppaaJ
import Derived.Test.YtfagkgehljoppaaE
namespace Go.Proofs.Ytfagkgehljoppaa
open Go.RowKit
theorem planR_bound {F : List Sl} {n : Nat} {mayB : List Int → Bool} {gf : List Int → Int} (hgf : ∀ l : List Int, 2 ≤ l.length → l.length ≤ 1024 → 0 ≤ gf l ∧ gf l ≤ 1024) : ∀ (ls : List (List Int)) (u : List Int) (g : Int), (∀ l ∈ ls, l.length ≤ 1024) → 0 ≤ g → 0 ≤ (planR F n mayB gf ls u g).2.2 ∧ (planR F n mayB gf ls u g).2.2 ≤ g + 1024 * ls.length := by
  intro ls
  induction ls with
  | nil => intro u g _ hg; exact ⟨hg, by show g ≤ g + 1024 * ((0 : Nat) : Int); omega⟩
  | cons l rest ih =>
    intro u g hl hg
    have hll := hl l (by simp)
    have hlen : ((l :: rest).length : Int) = rest.length + 1 := by simp
    by_cases h1 : chE F n l u = 0
    · cases h2 : mayB l with
      | false => rw [planR_no h1 h2]; exact ⟨hg, by show g ≤ _; omega⟩
      | true =>
        rw [planR_on h1 h2]
        have h3 := hgf l (chE_ok h1).1 hll
        have := ih (u ++ l) (g + gf l) (fun x hx => hl x (by simp [hx])) (by omega)
        omega
    · rw [planR_bad h1]; exact ⟨hg, by show g ≤ _; omega⟩
/-- What Check answers. -/
def chk2 (gv rw : Int) (F : List Sl) (rows : List (List Int)) (r : Int × List Int × Int) : Int × Int :=
  if r.1 = 0 then (if (planR F F.length (fun l => rowB gv rw l.length l) (fun l => (l.length : Int) - 1) rows r.2.1 r.2.2).1 = 0 then ((planR F F.length (fun l => rowB gv rw l.length l) (fun l => (l.length : Int) - 1) rows r.2.1 r.2.2).2.2, 0) else (0, (planR F F.length (fun l => rowB gv rw l.length l) (fun l => (l.length : Int) - 1) rows r.2.1 r.2.2).1)) else (0, r.1)
def chkR (gv rd rw : Int) (F : List Sl) (rounds rows : List (List Int)) : Int × Int :=
  if maySw gv rd rw F = 0 then chk2 gv rw F rows (planR F F.length (fun l => roundB gv rd F l.length l) (fun l => (l.length : Int)) rounds [] 0) else (0, maySw gv rd rw F)
theorem may_eight {gv rd rw : Int} {F : List Sl} (h : maySw gv rd rw F = 0) : F.length ≤ 8 := by
  unfold maySw at h
  by_cases c : 8 < F.length
  · rw [if_pos c] at h; omega
  · omega
def pairV (r : Int × Int) : Value := .tuple #[.int .i64 r.1, .int .i64 r.2]
set_option maxRecDepth 100000 in
set_option maxHeartbeats 4000000 in
theorem check_any (gv rd rw : Int) (fa : Option Addr) (fn fc : Nat) (F : List Sl) (ra : Option Addr) (rn rc : Nat) (R1 : List Sl) (oa : Option Addr) (on oc : Nat) (R2 : List Sl) (w : World) (hF : Lsts w fa fn fc F) (hfl : ∀ s ∈ F, s.ln ≤ 1024) (h1 : Lsts w ra rn rc R1) (hn1 : rn ≤ 1024) (hl1 : ∀ s ∈ R1, s.ln ≤ 1024) (h2 : Lsts w oa on oc R2) (hn2 : on ≤ 1024) (hl2 : ∀ s ∈ R2, s.ln ≤ 1024) :
    Calls Try.prog 5 #[swV gv rd rw fa fn fc, .slice ra rn rc, .slice oa on oc] w fun e w' => e = .returned (pairV (chkR gv rd rw F (lists R1) (lists R2))) ∧ Below w.heap.size w w' := by
  have hmf : ∀ (fn : Fn) (first cap : Array Value) (w : World), (Instr.makeFunc fn first cap).run Try.prog w = .ok (.func fn first cap) w := fun _ _ _ _ => rfl
  obtain ⟨wA, hwA⟩ : ∃ y, y = w.alloc (.cells #[.int .i64 gv, .slice fa fn fc, .int .i64 rd, .int .i64 rw] 24) := ⟨_, rfl⟩
  have hbA : Below w.heap.size w wA := by rw [hwA]; go_grown
  have tA : SBox wA w.heap.size gv rd rw fa fn fc := by rw [hwA]; exact ⟨by simp, by simp, by simp, by simp⟩
  have HW := hide hwA
  clear hwA
  have HFN := hide hF.1
  have s0 := tA.c0
  have s1 := tA.c1
  have s2 := tA.c2
  have s3 := tA.c3
  have HB1 : Hid (∀ l ∈ lists R1, l.length ≤ 1024) := fun l hl => by
    obtain ⟨s, hs, rfl⟩ := List.mem_map.1 hl
    have := (h1.2.2.2.1 s hs).1
    have := hl1 s hs
    omega
  have HMAY := hide (may_any gv rd rw fa fn fc F wA (hF.later hbA) hfl)
  unfold swV at HMAY ⊢
  go_enter Try.func5, Try.ntmps5
  go_wp2_with fail
  rw [← unhide HW]
  refine (unhide HMAY).mono ?_
  rintro e w1 ⟨rfl, hb1⟩
  have hbw1 := hbA.trans (hb1.mono hbA.size)
  have t1 := tA.later hb1
  clear s0 s1 s2 s3 tA
  by_cases hz : maySw gv rd rw F = 0
  · have h8 : fn ≤ 8 := by have := may_eight hz; have := unhide HFN; omega
    have HCK : Hid (chkR gv rd rw F (lists R1) (lists R2) = chk2 gv rw F (lists R2) (planR F F.length (fun l => roundB gv rd F l.length l) (fun l => (l.length : Int)) (lists R1) [] 0)) := by show _ = _; unfold chkR; rw [if_pos hz]
    rw [hz]
    clear hz
    go_wp2_with fail
    obtain ⟨w2, hw2⟩ : ∃ y, y = ((w1.alloc (.cells #[.int .i64 0] 3)).alloc (.cells #[.int .i64 0] 3)) := ⟨_, rfl⟩
    have hb12 : Below w1.heap.size w1 w2 := by rw [hw2]; go_grown
    have ou : One w2 (w1.heap.size + 1) (setN []) := by rw [hw2]; exact ⟨by simp [setN], by simp⟩
    have og : One w2 w1.heap.size 0 := by rw [hw2]; exact ⟨by simp, by simp⟩
    have hC2 : CS w gv rd rw fa fn fc w.heap.size (w1.heap.size + 1) w1.heap.size w2 [] 0 := ⟨hbw1.trans (hb12.mono hbw1.size), t1.later hb12, ou, og, fun x hx => by cases hx⟩
    rw [← hw2]
    have HW2 := hide hw2
    clear hw2 ou og
    have hsz : w.heap.size < w1.heap.size := t1.lt
    rw [← unhide HFN] at HCK
    refine (takeRound_any w gv rd rw fa fn fc F hF h8 w.heap.size (w1.heap.size + 1) w1.heap.size (by omega) (by omega) (by omega) (by omega) (by omega) ra rn rc R1 h1 hn1 hl1 [] 0 (by omega) (by omega) w2 hC2).mono ?_
    have hbd := planR_bound (F := F) (n := fn) (mayB := fun l => roundB gv rd F l.length l) (gf := fun l => (l.length : Int)) (fun l h1 h2 => ⟨by show (0 : Int) ≤ l.length; omega, by show (l.length : Int) ≤ 1024; omega⟩) (lists R1) [] 0 (unhide HB1) (by omega)
    have hlen : (lists R1).length = rn := by unfold lists; rw [List.length_map]; exact h1.1.symm
    rw [hlen] at hbd
    generalize planR F fn (fun l => roundB gv rd F l.length l) (fun l => (l.length : Int)) (lists R1) [] 0 = r1 at *
    obtain ⟨e1, u1, g1⟩ := r1
    rintro e w3 ⟨rfl, hC3⟩
    simp only at hC3 hbd HCK ⊢
    by_cases hz1 : e1 = 0
    · subst hz1
      have HC4 : Hid (chk2 gv rw F (lists R2) (0, u1, g1) = if (planR F fn (fun l => rowB gv rw l.length l) (fun l => (l.length : Int) - 1) (lists R2) u1 g1).1 = 0 then ((planR F fn (fun l => rowB gv rw l.length l) (fun l => (l.length : Int) - 1) (lists R2) u1 g1).2.2, 0) else (0, (planR F fn (fun l => rowB gv rw l.length l) (fun l => (l.length : Int) - 1) (lists R2) u1 g1).1)) := by
        show _ = _
        unfold chk2
        rw [if_pos rfl, ← unhide HFN]
      go_wp2_with fail
      refine (takeRow_any w gv rd rw fa fn fc F hF h8 w.heap.size (w1.heap.size + 1) w1.heap.size (by omega) (by omega) (by omega) (by omega) (by omega) oa on oc R2 h2 hn2 hl2 u1 g1 hbd.1 (by omega) w3 hC3).mono ?_
      generalize planR F fn (fun l => rowB gv rw l.length l) (fun l => (l.length : Int) - 1) (lists R2) u1 g1 = r2 at *
      obtain ⟨e2, u2, g2⟩ := r2
      rintro e w4 ⟨rfl, hC4⟩
      simp only at hC4 HC4 ⊢
      by_cases hz2 : e2 = 0
      · subst hz2
        rw [if_pos rfl] at HC4
        have gc := hC4.gi.c
        go_wp2
        refine bodyPost_ret (v := .tuple #[.int .i64 g2, .int .i64 0]) (by simp [results, Try.results5, go_sem]) rfl ⟨?_, hC4.bel⟩
        rw [unhide HCK, unhide HC4]
        rfl
      · rw [if_neg hz2] at HC4
        have hzb : (e2 != 0) = true := by simpa using hz2
        clear hz2
        go_wp2
        refine bodyPost_ret (v := .tuple #[.int .i64 0, .int .i64 e2]) (by simp [results, Try.results5, go_sem]) rfl ⟨?_, hC4.bel⟩
        rw [unhide HCK, unhide HC4]
        rfl
    · have HC4 : Hid (chk2 gv rw F (lists R2) (e1, u1, g1) = (0, e1)) := by show _ = _; unfold chk2; rw [if_neg hz1]
      have hzb : (e1 != 0) = true := by simpa using hz1
      clear hz1
      go_wp2
      refine bodyPost_ret (v := .tuple #[.int .i64 0, .int .i64 e1]) (by simp [results, Try.results5, go_sem]) rfl ⟨?_, hC3.bel⟩
      rw [unhide HCK, unhide HC4]
      rfl
  · have hzb : (maySw gv rd rw F != 0) = true := by simpa using hz
    have HCK : Hid (chkR gv rd rw F (lists R1) (lists R2) = (0, maySw gv rd rw F)) := by show _ = _; unfold chkR; rw [if_neg hz]
    clear hz
    generalize maySw gv rd rw F = M at *
    go_wp2
    refine bodyPost_ret (v := .tuple #[.int .i64 0, .int .i64 M]) (by simp [results, Try.results5, go_sem]) rfl ⟨?_, hbw1⟩
    rw [unhide HCK]
    rfl
end Go.Proofs.Ytfagkgehljoppaa
