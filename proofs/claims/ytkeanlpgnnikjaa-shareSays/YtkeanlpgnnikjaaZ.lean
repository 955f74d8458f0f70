import Derived.Test.YtkeanlpgnnikjaaE
namespace Go.Proofs.Ytkeanlpgnnikjaa
open Go.RowKit
/-- How many have something, and what theirs is worth, multiplied. -/
def qN (v : Nat → Nat → Int) (f : Nat → Int) (G : Nat) : Nat → Int
  | 0 => 0
  | i + 1 => if 0 < hv (v i) f (i : Nat) G then qN v f G i + 1 else qN v f G i
def qP (v : Nat → Nat → Int) (f : Nat → Int) (G : Nat) : Nat → Int
  | 0 => 1
  | i + 1 => if 0 < hv (v i) f (i : Nat) G then qP v f G i * hv (v i) f (i : Nat) G else qP v f G i
section
variable {v : Nat → Nat → Int} {f : Nat → Int} {G i : Nat}
theorem qN_yes (h : 0 < hv (v i) f (i : Nat) G) : qN v f G (i + 1) = qN v f G i + 1 := by rw [qN, if_pos h]
theorem qN_no (h : ¬ 0 < hv (v i) f (i : Nat) G) : qN v f G (i + 1) = qN v f G i := by rw [qN, if_neg h]
theorem qP_yes (h : 0 < hv (v i) f (i : Nat) G) : qP v f G (i + 1) = qP v f G i * hv (v i) f (i : Nat) G := by rw [qP, if_pos h]
theorem qP_no (h : ¬ 0 < hv (v i) f (i : Nat) G) : qP v f G (i + 1) = qP v f G i := by rw [qP, if_neg h]
theorem qN_le : ∀ i, 0 ≤ qN v f G i ∧ qN v f G i ≤ i := by
  intro i
  induction i with
  | zero => exact ⟨Int.le_refl _, Int.le_refl _⟩
  | succ i ih =>
    by_cases h : 0 < hv (v i) f (i : Nat) G
    · rw [qN_yes h]; omega
    · rw [qN_no h]; omega
theorem qP_le {n : Nat} (hv0 : ∀ i, i < n → OkF (v i) G) (hG : G ≤ 8) : ∀ i, i ≤ n → 1 ≤ qP v f G i ∧ qP v f G i ≤ 8000 ^ i := by
  intro i
  induction i with
  | zero => intro _; exact ⟨Int.le_refl _, Int.le_refl _⟩
  | succ i ih =>
    intro hi
    obtain ⟨h1, h2⟩ := ih (by omega)
    obtain ⟨h3, h4⟩ := hv_le (give := f) (who := (i : Nat)) (hv0 i (by omega)) G (Nat.le_refl _)
    have h8 : hv (v i) f (i : Nat) G ≤ 8000 := by omega
    by_cases h : 0 < hv (v i) f (i : Nat) G
    · rw [qP_yes h]
      refine ⟨?_, ?_⟩
      · have : 1 * 1 ≤ qP v f G i * hv (v i) f (i : Nat) G := Int.mul_le_mul h1 (by omega) (by omega) (by omega)
        omega
      · rw [Int.pow_succ]
        exact Int.mul_le_mul h2 h8 (by omega) (by omega)
    · rw [qP_no h]
      refine ⟨h1, ?_⟩
      rw [Int.pow_succ]
      omega
theorem qP_bound {n : Nat} (hv0 : ∀ i, i < n → OkF (v i) G) (hG : G ≤ 8) (hn : n ≤ 4) {i : Nat} (hi : i ≤ n) : 1 ≤ qP v f G i ∧ qP v f G i ≤ 4096000000000000 := by
  obtain ⟨h1, h2⟩ := qP_le (f := f) hv0 hG i hi
  refine ⟨h1, Int.le_trans h2 ?_⟩
  have : i = 0 ∨ i = 1 ∨ i = 2 ∨ i = 3 ∨ i = 4 := by omega
  rcases this with rfl | rfl | rfl | rfl | rfl <;> decide
end
theorem heap_set0 {W : World} {B : Nat} {x y z : Value} {t : TypeId} (h : W.heap[B]? = some (.cells #[x, y] t (0, 0))) : (W.setCell ⟨B, 0, none⟩ z).heap[B]? = some (.cells #[z, y] t (0, 0)) := by
  show (W.heap.modify B _)[B]? = _
  rw [Array.getElem?_modify, if_pos rfl, h]
  rfl
theorem heap_set1 {W : World} {B : Nat} {x y z : Value} {t : TypeId} (h : W.heap[B]? = some (.cells #[x, y] t (0, 0))) : (W.setCell ⟨B, 1, none⟩ z).heap[B]? = some (.cells #[x, z] t (0, 0)) := by
  show (W.heap.modify B _)[B]? = _
  rw [Array.getElem?_modify, if_pos rfl, h]
  rfl
set_option maxRecDepth 100000 in
set_option maxHeartbeats 4000000 in
theorem gainOf_any (a : Option Addr) (n c G : Nat) (L : List Sl) (a' : Option Addr) (c' : Nat) (gl : List Int) (w : World) (h : Lsts w a n c L) (hV : Vals n G L) (h' : Ints w a' G c' gl) :
    Calls Try.prog 29 #[.slice a n c, .slice a' G c'] w fun e w' => e = .returned (.agg #[.int .i64 (qN (vl L) (nth gl) G n), .int .i64 (qP (vl L) (nth gl) G n)]) ∧ Below w.heap.size w w' := by
  have hn1 := hV.n1
  have hn4 := hV.n4
  have hG := hV.g8
  have d1 := h.2.1
  have d2 := h.2.2.1
  have c1 := h'.2.1
  have c2 := h'.2.2.1
  unfold maxLen at d2 c2
  obtain ⟨b, off, rfl, hb, hcell⟩ := h.cellAt hn1
  have HC : Hid (∀ W, Below w.heap.size w W → ∀ j, j < n → W.cell? ⟨b, off + j, none⟩ = some (.slice (slAt L j).la G (slAt L j).lc)) := fun W hW j hj => by rw [hW.cell (p := ⟨b, off + j, none⟩) hb, hcell j hj, hV.row j hj]
  have HH : Hid (∀ W, Below w.heap.size w W → ∀ i, i < n → Calls Try.prog 39 #[.slice (slAt L i).la G (slAt L i).lc, .slice a' G c', .int .i64 (i : Int)] W fun e w' => e = .returned (.tuple #[.int .i64 (hv (vl L i) (nth gl) (i : Nat) G), .int .i64 (mv (vl L i) (nth gl) (i : Nat) G)]) ∧ w' = W) := fun W hW i hi => by
    have := (h.mem (k := i) hi).later hW
    rw [hV.row i hi] at this
    exact held_any _ G _ _ a' c' gl i W this (h'.later hW) hG (hV.okF hi)
  have HOK : Hid (∀ i, i < n → OkF (vl L i) G) := fun i hi => hV.okF hi
  clear h h' hV hcell
  generalize vl L = v at *
  generalize nth gl = f at *
  go_enter Try.func29, Try.ntmps29
  go_wp2
  have HB0 : Hid (Below w.heap.size w ((w.alloc (.cells #[.int .i64 0, .int .i64 0] 46)).alloc (.cells #[.int .i64 0, .int .i64 1] 46))) := by show Below _ _ _; go_grown
  have HG0 : Hid (((w.alloc (.cells #[.int .i64 0, .int .i64 0] 46)).alloc (.cells #[.int .i64 0, .int .i64 1] 46)).heap[w.heap.size + 1]? = some (.cells #[.int .i64 0, .int .i64 1] 46 (0, 0))) := by
    have := heap_alloc_new (w.alloc (.cells #[.int .i64 0, .int .i64 0] 46)) (.cells #[.int .i64 0, .int .i64 1] 46)
    rwa [World.size_alloc] at this
  have HG1 : Hid (((w.alloc (.cells #[.int .i64 0, .int .i64 0] 46)).alloc (.cells #[.int .i64 0, .int .i64 1] 46)).heap[w.heap.size]? = some (.cells #[.int .i64 0, .int .i64 0] 46 (0, 0))) :=
    (Below.heap_alloc _ _ _ (by simp)).trans (heap_alloc_new w _)
  go_loopw [13, 6, 7, 8, 9] (fun i _ _ _ _ wr => Hid (Below w.heap.size w wr) ∧ ∃ k : Nat, k ≤ n ∧ i = .int .i64 k ∧ Hid (wr.heap[w.heap.size + 1]? = some (.cells #[.int .i64 (qN v f G k), .int .i64 (qP v f G k)] 46 (0, 0))) ∧ Hid (wr.heap[w.heap.size]? = some (.cells #[.int .i64 0, .int .i64 0] 46 (0, 0)))) (fun i _ _ _ _ _ => n - (intOf i).toNat)
  case atStart => exact ⟨HB0, 0, Nat.zero_le _, rfl, HG0, HG1⟩
  case round =>
    clear HB0 HG0 HG1
    obtain ⟨HB, k, hk, rfl, HG, HZ⟩ := hrel
    by_cases hlt : k < n
    · have hck := unhide HC _ (unhide HB) k hlt
      have CO := hide (unhide HH _ (unhide HB) k hlt)
      have hg := unhide HG
      have x0 : wr.cell? ⟨w.heap.size + 1, 0, none⟩ = some (.int .i64 (qN v f G k)) := by simp [World.cell?, hg]
      have x1 : wr.cell? ⟨w.heap.size + 1, 1, none⟩ = some (.int .i64 (qP v f G k)) := by simp [World.cell?, hg]
      have xf0 : wr.frozen? ⟨w.heap.size + 1, 0, none⟩ = false := by simp [World.frozen?, hg]
      have xf1 : wr.frozen? ⟨w.heap.size + 1, 1, none⟩ = false := by simp [World.frozen?, hg]
      have q1 := hv_le (give := f) (who := (k : Int)) (unhide HOK k hlt) G (Nat.le_refl _)
      have q2 := qN_le (v := v) (f := f) (G := G) k
      have q3 := qP_bound (f := f) (unhide HOK) hG hn4 (show k + 1 ≤ n by omega)
      have q4 := qP_bound (f := f) (unhide HOK) hG hn4 hk
      clear hg
      generalize (slAt L k).la = la at *
      generalize (slAt L k).lc = lc at *
      by_cases hp : 0 < hv (v k) f (k : Int) G
      · have HN := hide (qN_yes hp)
        have HP := hide (qP_yes hp)
        rw [qP_yes hp] at q3
        have HR := hide (heap_set1 (z := .int .i64 (qP v f G k * hv (v k) f (k : Int) G)) (heap_set0 (z := .int .i64 (qN v f G k + 1)) (unhide HG)))
        have hw : wrap64 (qP v f G k * hv (v k) f (k : Int) G) = qP v f G k * hv (v k) f (k : Int) G := wrap64_in _ (by omega) (by omega)
        have HZ2 : Hid (((wr.setCell ⟨w.heap.size + 1, 0, none⟩ (.int .i64 (qN v f G k + 1))).setCell ⟨w.heap.size + 1, 1, none⟩ (.int .i64 (qP v f G k * hv (v k) f (k : Int) G))).heap[w.heap.size]? = some (.cells #[.int .i64 0, .int .i64 0] 46 (0, 0))) := by
          show _ = _
          rw [Below.heap_setCell _ ⟨w.heap.size + 1, 1, none⟩ _ w.heap.size (by show _ ≠ w.heap.size + 1; omega), Below.heap_setCell _ ⟨w.heap.size + 1, 0, none⟩ _ w.heap.size (by show _ ≠ w.heap.size + 1; omega)]
          exact unhide HZ
        have HB2 : Hid (Below w.heap.size w ((wr.setCell ⟨w.heap.size + 1, 0, none⟩ (.int .i64 (qN v f G k + 1))).setCell ⟨w.heap.size + 1, 1, none⟩ (.int .i64 (qP v f G k * hv (v k) f (k : Int) G)))) := ((unhide HB).setCell (p := ⟨w.heap.size + 1, 0, none⟩) (by show _ ≤ w.heap.size + 1; omega) _).setCell (p := ⟨w.heap.size + 1, 1, none⟩) (by show _ ≤ w.heap.size + 1; omega) _
        have HR : Hid (((wr.setCell ⟨w.heap.size + 1, 0, none⟩ (.int .i64 (qN v f G k + 1))).setCell ⟨w.heap.size + 1, 1, none⟩ (.int .i64 (qP v f G k * hv (v k) f (k : Int) G))).heap[w.heap.size + 1]? = some (.cells #[.int .i64 (qN v f G (k + 1)), .int .i64 (qP v f G (k + 1))] 46 (0, 0))) := by rw [unhide HN, unhide HP]; exact HR
        clear HN HP
        generalize hv (v k) f (k : Int) G = x at *
        generalize qN v f G k = y at *
        generalize qP v f G k = z at *
        generalize mv (v k) f (k : Int) G = m at *
        go_wp2_with fail
        refine (unhide CO).mono ?_
        rintro e w4 ⟨rfl, hw4⟩
        subst w4
        go_wp2
        go_roundw
        case rel => exact ⟨HB2, k + 1, by omega, by go_num, HR, HZ2⟩
        case measure => simp [intOf]; omega
      · have HG2 : Hid (wr.heap[w.heap.size + 1]? = some (.cells #[.int .i64 (qN v f G (k + 1)), .int .i64 (qP v f G (k + 1))] 46 (0, 0))) := by rw [qN_no hp, qP_no hp]; exact HG
        clear q3
        generalize hv (v k) f (k : Int) G = x at *
        generalize qN v f G k = y at *
        generalize qP v f G k = z at *
        generalize mv (v k) f (k : Int) G = m at *
        go_wp2_with fail
        refine (unhide CO).mono ?_
        rintro e w4 ⟨rfl, hw4⟩
        subst w4
        go_wp2
        go_roundw
        case rel => exact ⟨HB, k + 1, by omega, by go_num, HG2, HZ⟩
        case measure => simp [intOf]; omega
    · obtain rfl : n = k := by omega
      have hg := unhide HG
      have hz := unhide HZ
      have x0 : wr.cell? ⟨w.heap.size + 1, 0, none⟩ = some (.int .i64 (qN v f G n)) := by simp [World.cell?, hg]
      have x1 : wr.cell? ⟨w.heap.size + 1, 1, none⟩ = some (.int .i64 (qP v f G n)) := by simp [World.cell?, hg]
      have z0 : wr.cell? ⟨w.heap.size, 0, none⟩ = some (.int .i64 0) := by simp [World.cell?, hz]
      have z1 : wr.cell? ⟨w.heap.size, 1, none⟩ = some (.int .i64 0) := by simp [World.cell?, hz]
      have zf0 : wr.frozen? ⟨w.heap.size, 0, none⟩ = false := by simp [World.frozen?, hz]
      have zf1 : wr.frozen? ⟨w.heap.size, 1, none⟩ = false := by simp [World.frozen?, hz]
      clear hg hz
      have HR := hide (heap_set1 (z := .int .i64 (qP v f G n)) (heap_set0 (z := .int .i64 (qN v f G n)) (unhide HZ)))
      go_wp2
      refine bodyPost_ret (results_cell_row rfl _ _ w.heap.size 46 _ (0, 0) _ rfl (unhide HR) Try.underlying46 rfl (by kernel_rfl)) rfl ?_
      exact ⟨rfl, ((unhide HB).setCell (p := ⟨w.heap.size, 0, none⟩) (Nat.le_refl _) _).setCell (p := ⟨w.heap.size, 1, none⟩) (Nat.le_refl _) _⟩
end Go.Proofs.Ytkeanlpgnnikjaa
