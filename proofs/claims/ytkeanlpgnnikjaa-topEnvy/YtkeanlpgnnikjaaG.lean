import Derived.Test.YtkeanlpgnnikjaaF
import Derived.Test.YtkeanlpgnnikjaaH
import Derived.Maps.OwnSet
import Derived.Deep.LoopGhost
namespace Go.Proofs.Ytkeanlpgnnikjaa
open Go.RowKit
theorem law3 : Maps.Keyed Try.prog 3 := Maps.int_keyed Try.underlying3
theorem zero3 (w : World) : (zeroValue 3).run Try.prog w = .ok (.int .i64 0) w := by kernel_rfl
theorem wf_in {x : Int} (h : InR x) : (Lit.int .i64 x).wf = true := WalkArith.wf_i64 h
/-- A map of ints as it lies. -/
def Mp (w : World) (b n : Nat) (m : Int → Option Int) : Prop := ∃ D : DataW Unit, w.ownsMap Try.prog 3 (plainElem Try.prog 3) b n D ∧ ∀ x, InR x → Maps.has D (.int .i64 x) = (m x).isSome ∧ D.atKey (.int .i64 x) (.lit (.int .i64 0)) = .lit (.int .i64 ((m x).getD 0))
theorem Mp.look {w : World} {b n : Nat} {m : Int → Option Int} (h : Mp w b n m) {x : Int} (hx : InR x) : (Instr.lookup 56 (.map (some b)) (.int .i64 x) true).run Try.prog w = .ok (.tuple #[.int .i64 ((m x).getD 0), .bool (m x).isSome]) w := by
  obtain ⟨D, hD, hm⟩ := h
  obtain ⟨v, ps, hrun, hv⟩ := hD.look_ok law3 Try.underlying56 (zero3 w) (plainElem_int Try.underlying3 (wf_in ⟨by omega, by omega⟩)) (Maps.keyOf_int_mk Try.underlying3 (wf_in hx))
  obtain ⟨c, rfl, hc, hwc⟩ := plainElem_int_inv Try.underlying3 hv
  obtain ⟨m1, m2⟩ := hm x hx
  rw [hrun, m1]
  have := congrArg Prod.fst hc
  simp only [m2] at this
  cases this
  rfl
theorem Mp.put {w : World} {b n : Nat} {m : Int → Option Int} (h : Mp w b n m) {x y : Int} (hx : InR x) (hy : InR y) (hn : n < 1000) : ∃ w', (Instr.mapUpdate 56 (.map (some b)) (.int .i64 x) (.int .i64 y)).run Try.prog w = .ok () w' ∧ Mp w' b (n + 1) (fun z => if z = x then some y else m z) ∧ w.grownBy w' (some b) := by
  obtain ⟨D, hD, hm⟩ := h
  obtain ⟨w', h1, h2, h3⟩ := hD.update law3 Try.underlying56 (by unfold maxLen; omega) (Maps.keyOf_int_mk Try.underlying3 (wf_in hx)) (plainElem_int Try.underlying3 (wf_in hy))
  refine ⟨w', h1, ⟨_, h2, fun z hz => ?_⟩, h3⟩
  by_cases e : z = x
  · subst e
    dsimp only
    rw [if_pos rfl]
    exact ⟨Maps.has_put_same hD.isMap (by trivial) _, Maps.atKey_put_same hD.isMap (by trivial) _ _⟩
  · dsimp only
    rw [if_neg e]
    have hne : (Lit.int .i64 z) ≠ (Lit.int .i64 x) := fun q => e (by cases q; rfl)
    rw [Maps.has_put_other hne, Maps.atKey_put_other hne]
    exact hm z hz
theorem mp_made (w : World) : Mp (w.alloc (.map #[] 0)) w.heap.size 0 (fun _ => none) :=
  ⟨_, World.ownsMap_made w _ _ _, fun _ _ => ⟨rfl, rfl⟩⟩
theorem Mp.later {w w' : World} {b n : Nat} {m : Int → Option Int} (h : Mp w b n m) (hb : Below w.heap.size w w') : Mp w' b n m := by
  obtain ⟨D, hD, hm⟩ := h
  exact ⟨D, hD.kept (row := none) ⟨hb.os, hb.tape, hb.output, hb.size, fun k hk _ => hb.block k hk⟩ (by simp), hm⟩
theorem Mp.setCell {w : World} {b n : Nat} {m : Int → Option Int} (h : Mp w b n m) {a : Addr} (ha : b ≠ a.block) (u : Value) : Mp (w.setCell a u) b n m := by
  obtain ⟨D, hD, hm⟩ := h
  exact ⟨D, hD.setCell ha u, hm⟩
theorem Mp.same {w : World} {b n : Nat} {m m' : Int → Option Int} (h : Mp w b n m) (e : ∀ x, m x = m' x) : Mp w b n m' := by
  have : m = m' := funext e
  rw [← this]; exact h
/-- What the way from the n-th step on makes known. -/
def mC (f : Nat → Nat) (n r : Nat) (x : Int) : Option Int := if 0 ≤ x ∧ onC f n r x.toNat = true then some (f x.toNat : Int) else none
theorem mC_zero (f : Nat → Nat) (n : Nat) (x : Int) : mC f n 0 x = none := by unfold mC; rw [if_neg (fun h => by simp [onC] at h)]
theorem mC_at (f : Nat → Nat) (n r x : Nat) : mC f n r (x : Int) = if onC f n r x = true then some (f x : Int) else none := by
  unfold mC
  rw [Int.toNat_natCast]
  by_cases h : onC f n r x = true
  · rw [if_pos h, if_pos ⟨by omega, h⟩]
  · rw [if_neg h, if_neg (fun q => h q.2)]
theorem mC_succ (f : Nat → Nat) (n r : Nat) (z : Int) : (if z = (itr f (n + r) 0 : Int) then some (f (itr f (n + r) 0) : Int) else mC f n r z) = mC f n (r + 1) z := by
  by_cases e : z = (itr f (n + r) 0 : Int)
  · rw [if_pos e, e, mC_at, onC_succ]; simp
  · rw [if_neg e]
    unfold mC
    rw [onC_succ]
    by_cases h0 : 0 ≤ z
    · have : (itr f (n + r) 0 == z.toNat) = false := by simp; omega
      rw [this, Bool.or_false]
    · rw [if_neg (fun q => h0 q.1), if_neg (fun q => h0 q.1)]
set_option maxRecDepth 100000 in
set_option maxHeartbeats 4000000 in
theorem circle_any (a : Option Addr) (n c : Nat) (l : List Int) (f : Nat → Nat) (w : World) (h : Ints w a n c l) (hn1 : 1 ≤ n) (hn4 : n ≤ 4) (hf : ∀ k, k < n → nth l k = (f k : Int) ∧ f k < n) (hend : onC f n n (itr f (n + n) 0) = true) :
    Calls Try.prog 35 #[.slice a n c] w fun e w' => ∃ b r, e = .returned (.map (some b)) ∧ Mp w' b r (mC f n r) ∧ r ≤ n ∧ onC f n r (itr f (n + r) 0) = true ∧ w.heap.size ≤ b ∧ Below w.heap.size w w' := by
  have c1 := h.2.1
  have c2 := h.2.2.1
  unfold maxLen at c2
  obtain ⟨b, off, rfl, hb, hcell⟩ := h.nth (by omega)
  have HI : Hid (∀ k, itr f k 0 < n) := fun k => by
    have := (itr_congr (f := f) (g := f) (n := n) (fun _ _ => rfl) (fun x hx => (hf x hx).2) k 0 (by omega)).2
    exact this
  have HC : Hid (∀ W, Below w.heap.size w W → ∀ j, j < n → W.cell? ⟨b, off + j, none⟩ = some (.int .i64 (f j : Int))) := fun W hW j hj => by rw [hW.cell (p := ⟨b, off + j, none⟩) hb, hcell j hj, (hf j hj).1]
  have HE := hide hend
  have hmm := @run_makeMap Try.prog
  clear h hcell hf hend
  go_enter Try.func35, Try.ntmps35
  go_wp2
  go_loop [9, 3] (fun i x => ∃ k : Nat, k ≤ n ∧ i = .int .i64 k ∧ x = .int .i64 (itr f k 0 : Int)) (fun i _ => n - (intOf i).toNat)
  case atStart => exact ⟨0, Nat.zero_le _, rfl, rfl⟩
  case round =>
    obtain ⟨k, hk, rfl, rfl⟩ := hrel
    by_cases hlt : k < n
    · have hk1 := unhide HI k
      have HS : Hid (itr f (k + 1) 0 = f (itr f k 0)) := rfl
      have hck := unhide HC w (Below.refl _ _) _ hk1
      generalize itr f k 0 = x at *
      go_wp2
      exact ⟨⟨k + 1, by omega, by go_num, by rw [unhide HS]⟩, by simp [intOf]; omega⟩
    · obtain rfl : n = k := by omega
      have HM0 : Hid (Mp (w.alloc (.map #[] 0)) w.heap.size 0 (mC f n 0)) := (mp_made w).same (fun x => (mC_zero f n x).symm)
      have HB0 : Hid (Below w.heap.size w (w.alloc (.map #[] 0))) := by show Below _ _ _; go_grown
      have HX0 : Hid (InR (itr f n 0 : Int)) := by have := unhide HI n; exact ⟨by omega, by omega⟩
      have hlook := (unhide HM0).look (unhide HX0)
      rw [mC_zero] at hlook
      have hsz : (w.alloc (.map #[] 0)).heap.size = w.heap.size + 1 := by simp
      go_wp2
      go_loopg [3, 6] n (fun k x t wr => Hid (Below w.heap.size w wr) ∧ ∃ r : Nat, r + k = n ∧ x = .int .i64 (itr f (n + r) 0 : Int) ∧ t = .bool (onC f n r (itr f (n + r) 0)) ∧ Hid (Mp wr w.heap.size r (mC f n r)))
      case atStart => exact ⟨HB0, 0, by omega, rfl, rfl, HM0⟩
      case round =>
        obtain ⟨HBr, r, hr, rfl, rfl, HMr⟩ := hrel
        by_cases ht : onC f n r (itr f (n + r) 0) = true
        · have HT := hide ht
          rw [ht]
          clear ht
          obtain ⟨x, hx⟩ : ∃ x, x = itr f (n + r) 0 := ⟨_, rfl⟩
          rw [← hx]
          clear hx
          go_wp2
          go_ret
          exact ⟨_, r, rfl, HMr, by omega, HT, Nat.le_refl _, HBr⟩
        · have hrn : r < n := by
            rcases Nat.lt_or_ge r n with q | q
            · exact q
            · obtain rfl : r = n := by omega
              exact absurd (unhide HE) ht
          have htf : onC f n r (itr f (n + r) 0) = false := by simpa using ht
          rw [htf]
          clear ht htf
          have HS : Hid (itr f (n + (r + 1)) 0 = f (itr f (n + r) 0)) := rfl
          have hx1 := unhide HI (n + r)
          have hx2 : f (itr f (n + r) 0) < n := unhide HI (n + r + 1)
          obtain ⟨w2, hput, HM2, hgr⟩ := (unhide HMr).put (x := (itr f (n + r) 0 : Int)) (y := (f (itr f (n + r) 0) : Int)) ⟨by omega, by omega⟩ ⟨by omega, by omega⟩ (by omega)
          have HM3 := hide (HM2.same (mC_succ f n r))
          clear HM2
          have HB2 : Hid (Below w.heap.size w w2) := (unhide HBr).grown hgr (unhide HBr).size (fun k hk => by cases hk; exact Nat.le_refl _)
          clear hgr
          have hck := unhide HC _ (unhide HBr) _ hx1
          have hck2 := unhide HC _ (unhide HB2) _ hx1
          have hlook2 := (unhide HM3).look (x := (f (itr f (n + r) 0) : Int)) ⟨by omega, by omega⟩
          rw [mC_at] at hlook2
          have HT2 : Hid (∀ y : Nat, (if onC f n (r + 1) y = true then some (f y : Int) else none).isSome = onC f n (r + 1) y) := fun y => by
            cases q : onC f n (r + 1) y <;> rfl
          rw [unhide HT2] at hlook2
          generalize itr f (n + r) 0 = x at *
          generalize ((if onC f n (r + 1) (f x) = true then some ((f (f x) : Nat) : Int) else none).getD 0) = z at hlook2
          go_wp2
          go_roundg (n - (r + 1))
          case measure => omega
          case rel => exact ⟨HB2, r + 1, by omega, by rw [unhide HS], by rw [unhide HS], HM3⟩
/-- Whose a good is behind a change. -/
def mpI (m : Int → Option Int) (x : Int) : Int := (m x).getD x
set_option maxRecDepth 100000 in
set_option maxHeartbeats 4000000 in
theorem change_any (g G cap b r B : Nat) (f : Nat → Int) (m : Int → Option Int) (w0 w : World) (hR : Row B w (some ⟨g, 0, none⟩) G f) (hc1 : G ≤ cap) (hc2 : cap ≤ 1000) (hf : ∀ j, j < G → InR (f j)) (hM : Mp w b r m) (hbg : b ≠ g) (hB : Below B w0 w) :
    Calls Try.prog 34 #[.slice (some ⟨g, 0, none⟩) G cap, .map (some b)] w fun e w' => e = .returned (.tuple #[]) ∧ Row B w' (some ⟨g, 0, none⟩) G (fun j => mpI m (f j)) ∧ Below B w0 w' := by
  have HR := hide hR
  have HM := hide hM
  have HB := hide hB
  have HF := hide hf
  clear hR hM hB hf
  go_enter Try.func34, Try.ntmps34
  go_wp2
  go_loopw [10, 4, 5, 6, 7] (fun i _ _ _ _ wr => Hid (Below B w0 wr) ∧ Hid (Mp wr b r m) ∧ ∃ k : Nat, k ≤ G ∧ i = .int .i64 k ∧ Hid (Row B wr (some ⟨g, 0, none⟩) G (fun j => if j < k then mpI m (f j) else f j))) (fun i _ _ _ _ _ => G - (intOf i).toNat)
  case atStart => exact ⟨HB, HM, 0, Nat.zero_le _, rfl, (unhide HR).same (fun j _ => by rw [if_neg (by omega)])⟩
  case round =>
    clear HB HM HR
    obtain ⟨HB, HM, k, hk, rfl, HR⟩ := hrel
    by_cases hlt : k < G
    · obtain ⟨r1, r2, r3, r4⟩ := (unhide HR).at hlt
      rw [if_neg (by omega)] at r1
      have hlook := (unhide HM).look (unhide HF k hlt)
      have HY : Hid (mpI m (f k) = (m (f k)).getD (f k)) := rfl
      have HS : Hid (∀ j, j < G → j ≠ k → (if j < k then mpI m (f j) else f j) = if j < k + 1 then mpI m (f j) else f j) := fun j _ e => by
        by_cases q : j < k
        · rw [if_pos q, if_pos (by omega)]
        · rw [if_neg q, if_neg (by omega)]
      cases hm : m (f k) with
      | none =>
        have HN : Hid (Row B wr (some ⟨g, 0, none⟩) G (fun j => if j < k + 1 then mpI m (f j) else f j)) := (unhide HR).same (fun j hj => by
          by_cases e : j = k
          · subst e; rw [if_neg (by omega), if_pos (by omega), unhide HY, hm]; rfl
          · exact unhide HS j hj e)
        rw [hm] at hlook
        clear hm HY HS HR
        generalize f k = x at *
        go_wp2
        go_roundw
        case rel => exact ⟨HB, HM, k + 1, by omega, by go_num, HN⟩
        case measure => simp [intOf]; omega
      | some y =>
        have HN : Hid (Row B (wr.setCell ⟨g, k, none⟩ (.int .i64 y)) (some ⟨g, 0, none⟩) G (fun j => if j < k + 1 then mpI m (f j) else f j)) := (unhide HR).set hlt (unhide HS) (by rw [if_pos (by omega), unhide HY, hm]; rfl)
        have HM2 : Hid (Mp (wr.setCell ⟨g, k, none⟩ (.int .i64 y)) b r m) := (unhide HM).setCell (a := ⟨g, k, none⟩) hbg _
        have HB2 : Hid (Below B w0 (wr.setCell ⟨g, k, none⟩ (.int .i64 y))) := (unhide HB).setCell (p := ⟨g, k, none⟩) r4 _
        rw [hm] at hlook
        clear hm HY HS HR
        generalize f k = x at *
        go_wp2
        go_roundw
        case rel => exact ⟨HB2, HM2, k + 1, by omega, by go_num, HN⟩
        case measure => simp [intOf]; omega
    · obtain rfl : G = k := by omega
      have HN : Hid (Row B wr (some ⟨g, 0, none⟩) G (fun j => mpI m (f j))) := (unhide HR).same (fun j hj => by rw [if_pos hj])
      go_wp2
      first | go_end0 | ((try simp only [Exit.inBlock, Exit.then]); refine bodyPost_ret (results_none rfl _ _ _) rfl ?_)
      exact ⟨rfl, HN, HB⟩
end Go.Proofs.Ytkeanlpgnnikjaa
