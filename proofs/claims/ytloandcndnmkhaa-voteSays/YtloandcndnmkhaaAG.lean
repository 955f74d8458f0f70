import Derived.Test.YtloandcndnmkhaaAC
import Derived.Test.YtloandcndnmkhaaHH
import Derived.Test.YtloandcndnmkhaaG
namespace Go.Proofs.Ytloandcndnmkhaa
open Go.RowKit
/-- Is none of the first so many things, that have not gone, above x? -/
def fsB (gl o : List Int) (x : Nat) : Nat → Bool
  | 0 => true
  | t + 1 => if ¬ (t : Int) ∈ gl ∧ idxFrom o t 0 < idxFrom o x 0 then false else fsB gl o x t
theorem fsB_iff {gl o : List Int} {x : Nat} : ∀ k, fsB gl o x k = true ↔ ∀ t : Nat, t < k → ¬ (t : Int) ∈ gl → idxFrom o x 0 ≤ idxFrom o t 0 := by
  intro k
  induction k with
  | zero => exact ⟨fun _ t h => absurd h (Nat.not_lt_zero _), fun _ => rfl⟩
  | succ k ih =>
    unfold fsB
    by_cases c : ¬ (k : Int) ∈ gl ∧ idxFrom o k 0 < idxFrom o x 0
    · rw [if_pos c]
      exact ⟨fun h => (by cases h), fun h => (by have := h k (Nat.lt_succ_self _) c.1; omega)⟩
    · rw [if_neg c, ih]
      refine ⟨fun h t ht hg => ?_, fun h t ht => h t (by omega)⟩
      by_cases e : t = k
      · subst e
        have : ¬ idxFrom o t 0 < idxFrom o x 0 := fun h' => c ⟨hg, h'⟩
        omega
      · exact h t (by omega) hg
/-- The first place of what has not gone. -/
def Tp (gl o : List Int) (t : Nat) : Prop := t < o.length ∧ ¬ o[t]?.getD 0 ∈ gl ∧ ∀ q, q < t → o[q]?.getD 0 ∈ gl
theorem tp_first {gl o : List Int} {n t x y : Nat} (h : ordE o n = 0) (ht : Tp gl o t) (hy : o[t]?.getD 0 = y) (hx : x < n) : (¬ (x : Int) ∈ gl ∧ fsB gl o x n = true) ↔ x = y := by
  obtain ⟨t1, t2, t3⟩ := ht
  have hl := ord_len h
  obtain ⟨y', y1, y2, y3⟩ := ord_at h (show t < n by omega)
  obtain rfl : y' = y := by omega
  obtain ⟨p, p1, p2, p3⟩ := ord_place h hx
  rw [fsB_iff]
  constructor
  · rintro ⟨h1, h2⟩
    have h3 := h2 y' y1 (by rw [← hy]; exact t2)
    rcases Nat.lt_or_ge p t with h4 | h4
    · exact absurd (by rw [← p3]; exact t3 p h4) h1
    · have : p = t := by omega
      rw [this] at p3
      omega
  · rintro rfl
    refine ⟨by rw [← hy]; exact t2, fun z hz hg => ?_⟩
    obtain ⟨q, q1, q2, q3⟩ := ord_place h hz
    rcases Nat.lt_or_ge q t with h4 | h4
    · exact absurd (by rw [← q3]; exact t3 q h4) hg
    · omega
/-- How many, by the first k ballots, rank x above all others that have not gone. -/
def voF (l : List Bal) (gl : List Int) (n : Nat) : Nat → Nat → Int
  | 0, _ => 0
  | k + 1, x => voF l gl n k x + if ¬ (x : Int) ∈ gl ∧ fsB gl (balAt l k).order x n = true then (balAt l k).count else 0
theorem voF_le {n : Nat} {l : List Bal} (gl : List Int) (h : Good n l) (x : Nat) : ∀ k, k ≤ l.length → 0 ≤ voF l gl n k x ∧ voF l gl n k x ≤ k * 1000 := by
  intro k
  induction k with
  | zero => intro _; exact ⟨by simp [voF], by simp [voF]⟩
  | succ k ih =>
    intro hk
    have h1 := ih (by omega)
    have h2 := (h.2.2.2 k (by omega)).2
    unfold voF
    split <;> omega
/-- Of the first k things that have not gone the last one with the fewest. -/
def wkF (v : Nat → Int) (gl : List Int) : Nat → Int
  | 0 => -1
  | k + 1 => if (k : Int) ∈ gl then wkF v gl k else if wkF v gl k < 0 ∨ v k ≤ v (wkF v gl k).toNat then k else wkF v gl k
theorem wkF_spec (v : Nat → Int) (gl : List Int) : ∀ k, (wkF v gl k = -1 ∧ ∀ j : Nat, j < k → (j : Int) ∈ gl) ∨ ∃ j : Nat, wkF v gl k = j ∧ j < k ∧ ¬ (j : Int) ∈ gl := by
  intro k
  induction k with
  | zero => exact .inl ⟨rfl, fun j hj => absurd hj (Nat.not_lt_zero _)⟩
  | succ k ih =>
    unfold wkF
    by_cases c : (k : Int) ∈ gl
    · rw [if_pos c]
      rcases ih with ⟨h1, h2⟩ | ⟨j, h1, h2, h3⟩
      · refine .inl ⟨h1, fun j hj => ?_⟩
        by_cases e : j = k
        · rw [e]; exact c
        · exact h2 j (by omega)
      · exact .inr ⟨j, h1, by omega, h3⟩
    · rw [if_neg c]
      by_cases c2 : wkF v gl k < 0 ∨ v k ≤ v (wkF v gl k).toNat
      · rw [if_pos c2]; exact .inr ⟨k, rfl, Nat.lt_succ_self _, c⟩
      · rw [if_neg c2]
        rcases ih with ⟨h1, h2⟩ | ⟨j, h1, h2, h3⟩
        · exact absurd (.inl (by omega)) c2
        · exact .inr ⟨j, h1, by omega, h3⟩
/-- Things that went: none twice. -/
def Gn (n : Nat) (gl : List Int) : Prop := gl.Nodup ∧ ∀ x ∈ gl, 0 ≤ x ∧ x < n
theorem gn_some {n : Nat} {gl : List Int} (hl : gl.length < n) : ∃ j : Nat, j < n ∧ ¬ (j : Int) ∈ gl := by
  rcases Classical.em (∃ j : Nat, j < n ∧ ¬ (j : Int) ∈ gl) with h | h
  · exact h
  · have hsub : ∀ x ∈ (List.range n).map (fun z : Nat => (z : Int)), x ∈ gl := fun x hx => by
      obtain ⟨z, z1, rfl⟩ := List.mem_map.1 hx
      rw [List.mem_range] at z1
      exact Classical.byContradiction fun hh => h ⟨z, z1, hh⟩
    have hnd : ((List.range n).map (fun z : Nat => (z : Int))).Nodup := by
      rw [List.nodup_iff_pairwise_ne, List.pairwise_map]
      exact (List.nodup_iff_pairwise_ne.1 List.nodup_range).imp (fun h e => h (by omega))
    have := hnd.length_le_of_subset hsub
    simp at this
    omega
theorem wk_ok {n : Nat} {v : Nat → Int} {gl : List Int} (hl : gl.length < n) : ∃ j : Nat, wkF v gl n = j ∧ j < n ∧ ¬ (j : Int) ∈ gl := by
  rcases wkF_spec v gl n with ⟨_, h2⟩ | h
  · obtain ⟨j, j1, j2⟩ := gn_some (gl := gl) hl
    exact absurd (h2 j j1) j2
  · exact h
/-- In which order things go. -/
def roL (l : List Bal) (n : Nat) : Nat → List Int
  | 0 => []
  | k + 1 => roL l n k ++ [wkF (voF l (roL l n k) n l.length) (roL l n k) n]
theorem ro_len (l : List Bal) (n : Nat) : ∀ k, (roL l n k).length = k := by
  intro k
  induction k with
  | zero => rfl
  | succ k ih => simp [roL, ih]
theorem ro_gn (l : List Bal) (n : Nat) : ∀ k, k ≤ n → Gn n (roL l n k) := by
  intro k
  induction k with
  | zero => intro _; exact ⟨List.nodup_nil, fun x hx => by cases hx⟩
  | succ k ih =>
    intro hk
    obtain ⟨h1, h2⟩ := ih (by omega)
    obtain ⟨j, j1, j2, j3⟩ := wk_ok (v := voF l (roL l n k) n l.length) (gl := roL l n k) (n := n) (by rw [ro_len]; omega)
    unfold roL
    rw [j1]
    refine ⟨?_, fun x hx => ?_⟩
    · rw [List.nodup_append]
      exact ⟨h1, by simp, fun a ha b hb e => j3 (by rw [List.mem_singleton] at hb; rw [← hb, ← e]; exact ha)⟩
    · rcases List.mem_append.1 hx with hx | hx
      · exact h2 x hx
      · rw [List.mem_singleton] at hx; omega
set_option maxHeartbeats 1000000 in
theorem left_any (x : Int) (p : Nat) (ga : Option Addr) (gn gc : Nat) (gl : List Int) (w : World) (hp : w.cell? ⟨p, 0, none⟩ = some (.slice ga gn gc)) (hg : Ints w ga gn gc gl) :
    Calls Try.prog 67 #[.int .i64 x, .pointer (some ⟨p, 0, none⟩)] w fun e w' => e = .returned (.bool (!decide (x ∈ gl))) ∧ w' = w := by
  have C := contains_any ga gn gc gl x w hg
  rw [idx_mem] at C
  have C := hide C
  clear hg
  go_enter Try.func67, Try.ntmps67
  go_wp2_with (go_at_call 68; refine (unhide C).mono ?_; rintro e w' ⟨rfl, rfl⟩)
  go_ret
  exact ⟨rfl, rfl⟩
def IdxPost (gl o : List Int) (w : World) (e : Ending) (w' : World) : Prop := ∃ k : Nat, e = .returned (.int .i64 k) ∧ Tp gl o k ∧ w' = w
set_option maxHeartbeats 1000000 in
theorem indexFunc_any (ra : Option Addr) (rn rc : Nat) (rl : List Int) (p : Nat) (ga : Option Addr) (gn gc : Nat) (gl : List Int) (w : World) (h : Ints w ra rn rc rl) (hp : w.cell? ⟨p, 0, none⟩ = some (.slice ga gn gc)) (hg : Ints w ga gn gc gl) (hex : ∃ x ∈ rl, ¬ x ∈ gl) :
    Calls Try.prog 69 #[.slice ra rn rc, .func (.func 67) #[] #[.pointer (some ⟨p, 0, none⟩)]] w fun e w' => IdxPost gl rl w e w' := by
  have HN := hide h.1
  have hc := h.2.1
  have hm := h.2.2.1
  unfold maxLen at hm
  have HX := hide hex
  clear hex
  have CC := hide (fun x => left_any x p ga gn gc gl w hp hg)
  go_enter Try.func69, Try.ntmps69
  go_wp2
  go_loop [8, 5] (fun i _ => ∃ k : Nat, k ≤ rn ∧ i = .int .i64 k ∧ ∀ q, q < k → rl[q]?.getD 0 ∈ gl) (fun i _ => rn - (intOf i).toNat)
  case atStart => exact ⟨0, Nat.zero_le _, rfl, fun q hq => absurd hq (Nat.not_lt_zero _)⟩
  case round =>
    obtain ⟨k, hk, rfl, hi⟩ := hrel
    have HI := hide hi
    clear hi
    by_cases hlt : k < rn
    · have hkl : k < rl.length := by have := unhide HN; omega
      have HKL := hide hkl
      obtain ⟨b, off, rfl, hb, hcell⟩ := h.cellAt (by omega)
      have hx := hcell k hlt
      clear hcell hkl
      have C2 := unhide CC (rl[k]?.getD 0)
      by_cases hf : rl[k]?.getD 0 ∈ gl
      · rw [decide_eq_true hf] at C2
        have HNX : Hid (∀ q, q < k + 1 → rl[q]?.getD 0 ∈ gl) := fun q hq => by
          by_cases e : q = k
          · rw [e]; exact hf
          · exact unhide HI q (by omega)
        have C2 := hide C2
        clear hf
        generalize rl[k]?.getD 0 = t at *
        go_wp2_with fail
        refine (unhide C2).mono ?_
        rintro e w2 ⟨rfl, hw2⟩
        subst w2
        go_wp2
        exact ⟨⟨k+1, by omega, by go_num, unhide HNX⟩, by simp [intOf]; omega⟩
      · rw [decide_eq_false hf] at C2
        have HO := hide hf
        have C2 := hide C2
        clear hf
        have HT : Hid (Tp gl rl k) := ⟨unhide HKL, unhide HO, unhide HI⟩
        generalize rl[k]?.getD 0 = t at *
        go_wp2_with fail
        refine (unhide C2).mono ?_
        rintro e w2 ⟨rfl, hw2⟩
        subst w2
        go_wp2
        go_ret
        exact ⟨k, rfl, unhide HT, rfl⟩
    · exfalso
      obtain ⟨x, x1, x2⟩ := unhide HX
      obtain ⟨q, q1, q2⟩ := List.getElem_of_mem x1
      have := unhide HI q (by have := unhide HN; omega)
      rw [List.getElem?_eq_getElem q1, q2] at this
      exact x2 this
set_option maxRecDepth 100000 in
set_option maxHeartbeats 4000000 in
theorem weakest_any (n : Nat) (a : Option Addr) (m c : Nat) (l : List Bal) (ga : Option Addr) (gn gc : Nat) (gl : List Int) (w : World) (h : Bals w a m c l) (hg : Good n l) (hI : Ints w ga gn gc gl) (hgn : gl.length < n) :
    Calls Try.prog 50 #[.int .i64 n, .slice a m c, .slice ga gn gc] w fun e w' => e = .returned (.int .i64 (wkF (voF l gl n l.length) gl n)) ∧ Below w.heap.size w w' := by
  have hmf : ∀ (fn : Fn) (first cap : Array Value) (w : World), (Instr.makeFunc fn first cap).run Try.prog w = .ok (.func fn first cap) w := fun _ _ _ _ => rfl
  obtain ⟨j3, hj3, hy0, hy1, hy2⟩ := info_parts info3
  have hn1 := hg.1
  have hn6 := hg.2.1
  have HM := hide h.1
  have HG := hide hg
  have HH := hide h
  have hc1 := h.2.1
  have hc2 := h.2.2.1
  unfold maxLen at hc2
  obtain ⟨wA, hwA⟩ : ∃ y, y = w.alloc (.cells #[.slice ga gn gc] 23) := ⟨_, rfl⟩
  have hbA : Below w.heap.size w wA := by rw [hwA]; go_grown
  have a0 : wA.cell? ⟨w.heap.size, 0, none⟩ = some (.slice ga gn gc) := by rw [hwA]; simp
  have hsA : w.heap.size < wA.heap.size := by rw [hwA]; simp
  have HW := hide hwA
  have HIA := hide (hI.later hbA)
  have HBA := hide hbA
  clear hwA h hg hI hbA
  go_enter Try.func50, Try.ntmps50
  go_wp2_with (at_make; rw [← unhide HW]; refine wpList_make_full _ rfl _ _ 23 rfl wA.heap.size 3 j3 _ 1 Try.underlying23 hj3 hy0 hy1 .i64 .i64 _ _ n rfl rfl rfl rfl (by rw [hy2]; omega) (by unfold maxLen; omega) (Nat.le_refl _) ?_; intro w2 ho2 hg2; have hb2 : Below wA.heap.size wA w2 := (Below.refl wA.heap.size wA).grown hg2 (Nat.le_refl _) (fun k hk => by cases hk))
  have hrow := row_made ho2
  obtain ⟨G, hG, e2, e3, e4, e5⟩ : ∃ gg, wA.heap.size = gg ∧ wA.heap.size ≤ gg ∧ gg < w2.heap.size ∧ (∀ t, t < n → w2.cell? ⟨gg, t, none⟩ = some (.int .i64 0)) ∧ (∀ t, t < n → w2.frozen? ⟨gg, t, none⟩ = false) := by
    rcases hrow with h | ⟨b, h1, h2, h3, h4, h5⟩
    · omega
    · cases h1; exact ⟨_, rfl, h2, h3, h4, h5⟩
  rw [hG]
  have HV0 : Hid (Below wA.heap.size wA w2 ∧ Vec wA w2 G n (fun x => voF l gl n 0 x)) := ⟨hb2, by omega, e3, fun i hi => ⟨e4 i hi, e5 i hi⟩⟩
  clear hrow ho2 hg2 hb2 hG e2 e3 e4 e5
  go_wp2_with fail
  go_loopw [19] (fun i wr => ∃ k : Nat, k ≤ m ∧ i = .int .i64 (k : Int) ∧ Below wA.heap.size wA wr ∧ Vec wA wr G n (fun x => voF l gl n k x)) (fun i _ => m - (intOf i).toNat)
  case atStart => exact ⟨0, Nat.zero_le _, rfl, unhide HV0⟩
  case round =>
    obtain ⟨k, hk, rfl, hbr, hv⟩ := hrel
    by_cases hlt : k < m
    · have hkl : k < l.length := by have := unhide HM; omega
      obtain ⟨b, off, ea, hb, hcell⟩ := (((unhide HH).later (unhide HBA)).later hbr).cellAt (by omega)
      obtain ⟨d1, d2⟩ := hcell k hlt
      obtain ⟨g1, g2, g3⟩ := (unhide HG).2.2.2 k hkl
      have hIo := ((unhide HH).later (unhide HBA)).at hkl
      have hon : (balAt l k).on = n := by
        have q1 := hIo.1
        have := ord_len g1
        omega
      rw [hon] at d2 hIo
      have hp := (hbr.cell (p := ⟨w.heap.size, 0, none⟩) hsA).trans a0
      have HW2 := hide (And.intro hbr hv)
      have HGK := hide (And.intro g1 (And.intro g2 g3))
      have HIO := hide hIo
      subst ea
      clear hbr hv hcell g1 hIo
      generalize hcnt : (balAt l k).count = cnt at *
      generalize hoa : (balAt l k).oa = oa at *
      generalize hoc : (balAt l k).oc = oc at *
      have HCN := hide hcnt
      clear hcnt hoa hoc
      obtain ⟨X0, hX0⟩ : ∃ y, y = wr.alloc (.cells #[.int .i64 cnt, .slice oa n oc] 44) := ⟨_, rfl⟩
      have hb0 : Below wr.heap.size wr X0 := by rw [hX0]; go_grown
      have z0 : X0.cell? ⟨wr.heap.size, 0, none⟩ = some (.int .i64 cnt) := by rw [hX0]; simp
      have z1 : X0.cell? ⟨wr.heap.size, 1, none⟩ = some (.slice oa n oc) := by rw [hX0]; simp
      have hbA0 : Below wA.heap.size wA X0 := (unhide HW2).1.trans (hb0.mono (unhide HW2).1.size)
      have HX0 := hide hX0
      have HV1 := hide ((unhide HW2).2.later hb0)
      have HI1 := hide ((unhide HIO).later hbA0)
      have CI := hide (indexFunc_any _ _ _ _ w.heap.size ga gn gc gl X0 (unhide HI1) ((hb0.cell (p := ⟨w.heap.size, 0, none⟩) (by have := (unhide HW2).1.size; show w.heap.size < wr.heap.size; omega)).trans hp) ((unhide HIA).later hbA0) (by
        obtain ⟨j, j1, j2⟩ := gn_some (gl := gl) hgn
        exact ⟨j, ord_all (unhide HGK).1 j j1, j2⟩))
      have HBA0 := hide hbA0
      clear hX0 hbA0
      go_wp2_with fail
      rw [← unhide HX0]
      refine (unhide CI).mono ?_
      rintro e w3 ⟨t, rfl, htp, hw3⟩
      subst w3
      clear HX0
      have hon2 := ord_len (unhide HGK).1
      have htn : t < n := by have := htp.1; omega
      obtain ⟨bo, oo, eo, hbo, hco⟩ := (unhide HI1).cellAt hn1
      subst eo
      obtain ⟨y, y1, y2, y3⟩ := ord_at (unhide HGK).1 htn
      have ko := hco t htn
      rw [y2] at ko
      have hoc1 := (unhide HI1).2.1
      have hoc2 := (unhide HI1).2.2.1
      unfold maxLen at hoc2
      have hvX := (unhide HV1).2.2 y y1
      dsimp only at hvX
      obtain ⟨hv1, hv2⟩ := hvX
      have hbd := voF_le gl (unhide HG) y k (by omega)
      have hm30 : (k : Int) ≤ 30 := by have := (unhide HG).2.2.1; omega
      have HF : Hid (Below wA.heap.size wA (X0.setCell ⟨G, y, none⟩ (.int .i64 (voF l gl n k y + cnt))) ∧ Vec wA (X0.setCell ⟨G, y, none⟩ (.int .i64 (voF l gl n k y + cnt))) G n (fun x => voF l gl n (k + 1) x)) := by
        refine ⟨(unhide HBA0).setCell (p := ⟨G, y, none⟩) (unhide HV1).1 _, (unhide HV1).set y1 ?_ (fun i hi hne => ?_)⟩
        · show voF l gl n k y + _ = _
          rw [if_pos ((tp_first (unhide HGK).1 htp y2 y1).2 rfl), unhide HCN]
        · show voF l gl n k i + _ = _
          rw [if_neg (fun hh => hne ((tp_first (unhide HGK).1 htp y2 hi).1 hh)), Int.add_zero]
      generalize voF l gl n k y = V at *
      have w2' : IntKind.i64.wrap (V + cnt) = V + cnt := by rw [IntKind.wrap_i64]; omega
      clear htp y2 y3 hco
      go_wp2_with fail
      refine wp_region_still_tail 12 (by kernel_rfl) (by kernel_rfl) ?_
      simp only [List.take_succ_cons, List.take_zero, List.drop_succ_cons, List.drop_zero]
      show wpStill Try.prog _ X0.drew (fun a' => wpList Try.prog _ _ _ a' X0.drew) _ _
      repeat still_step
      refine wpStill_nil ?_
      go_wp2_with fail
      go_roundw
      case rel => exact ⟨k + 1, by omega, by go_num, (unhide HF).1.trans (Below.refl _ _).drew, (unhide HF).2.later (Below.refl _ _).drew⟩
      case measure => simp [intOf]; omega
    · obtain rfl : m = k := by omega
      have HV := hide hv
      have HBR := hide hbr
      have hml := unhide HM
      clear hv hbr
      obtain ⟨v, hv⟩ : ∃ v : Nat → Int, v = voF l gl n l.length := ⟨_, rfl⟩
      rw [show (fun x => voF l gl n m x) = v by rw [hv, hml]] at HV
      have HVV := hide hv
      clear hv hml
      go_wp2_with fail
      go_loopw [41, 12, 13] (fun i u _ wy => Below wr.heap.size wr wy ∧ ∃ k : Nat, k ≤ n ∧ i = .int .i64 k ∧ u = .int .i64 (wkF v gl k)) (fun i _ _ _ => n - (intOf i).toNat)
      case atStart => exact ⟨Below.refl _ _, 0, Nat.zero_le _, rfl, rfl⟩
      case round =>
        rename World => wy
        obtain ⟨hby, k, hk, rfl, rfl⟩ := hrel
        by_cases hlt2 : k < n
        · have hbz := (unhide HBR).trans (hby.mono (unhide HBR).size)
          have hp := (hbz.cell (p := ⟨w.heap.size, 0, none⟩) hsA).trans a0
          have CL : ∀ d, Calls Try.prog 67 #[.int .i64 k, .pointer (some ⟨w.heap.size, 0, none⟩)] (wy.drewN d) fun e w' => e = .returned (.bool (!decide ((k : Int) ∈ gl))) ∧ w' = wy.drewN d := fun d => left_any k w.heap.size ga gn gc gl _ (cell_drewN hp _) ((unhide HIA).later (hbz.trans (below_drewN _ _ _)))
          have f1 := cell_drewN (((unhide HV).later hby).2.2 k hlt2).1
          by_cases hin : (k : Int) ∈ gl
          · rw [decide_eq_true hin, Bool.not_true] at CL
            have PC := hide CL
            have HE : Hid (wkF v gl (k + 1) = wkF v gl k) := by show wkF v gl (k + 1) = _; rw [wkF, if_pos hin]
            clear CL
            go_wp2_with fail
            go_quiet (refine Calls.quiet_of_same (unhide PC _))
            go_wp2_with fail
            go_roundw
            case rel => exact ⟨hby.trans (below_drewN _ _ _), k + 1, by omega, by go_num, by rw [unhide HE]⟩
            case measure => simp [intOf]; omega
          · rw [decide_eq_false hin, Bool.not_false] at CL
            have PC := hide CL
            clear CL
            rcases wkF_spec v gl k with ⟨h1, _⟩ | ⟨j, h1, h2, h3⟩
            · have HE : Hid (wkF v gl (k + 1) = k) := by show wkF v gl (k + 1) = _; rw [wkF, if_neg hin, if_pos (.inl (by omega))]
              rw [h1]
              go_wp2_with fail
              go_quiet (refine Calls.quiet_of_same (unhide PC _))
              go_wp2_with fail
              go_roundw
              case rel => exact ⟨hby.trans (below_drewN _ _ _), k + 1, by omega, by go_num, by rw [unhide HE]⟩
              case measure => simp [intOf]; omega
            · have f3 := cell_drewN (((unhide HV).later hby).2.2 j (by omega)).1
              have hjn : (j : Int) < n := by omega
              have hjn2 : j < n := by omega
              rw [h1]
              by_cases hc : v k ≤ v j
              · have HE : Hid (wkF v gl (k + 1) = k) := by show wkF v gl (k + 1) = _; rw [wkF, if_neg hin, h1, if_pos (.inr (by simpa using hc))]
                go_wp2_with fail
                go_quiet (refine Calls.quiet_of_same (unhide PC _))
                go_wp2_with fail
                go_roundw
                case rel => exact ⟨hby.trans (below_drewN _ _ _), k + 1, by omega, by go_num, by rw [unhide HE]⟩
                case measure => simp [intOf]; omega
              · have HE : Hid (wkF v gl (k + 1) = j) := by show wkF v gl (k + 1) = _; rw [wkF, if_neg hin, h1, if_neg (by simp; omega)]
                generalize v k = vk at *
                generalize v j = vj at *
                have hlt3 : vj < vk := by omega
                have hd : decide (vk ≤ vj) = false := decide_eq_false hc
                go_wp2_with fail
                go_quiet (refine Calls.quiet_of_same (unhide PC _))
                go_wp2_with fail
                go_roundw
                case rel => exact ⟨hby.trans (below_drewN _ _ _), k + 1, by omega, by go_num, by rw [unhide HE]⟩
                case measure => simp [intOf]; omega
        · obtain rfl : n = k := by omega
          go_wp2_with fail
          go_ret
          exact ⟨ret_int (by rw [unhide HVV]), (unhide HBA).trans ((((unhide HBR).trans (hby.mono (unhide HBR).size)).mono (unhide HBA).size))⟩
set_option maxRecDepth 100000 in
set_option maxHeartbeats 4000000 in
theorem runoff_any (n : Nat) (a : Option Addr) (m c : Nat) (l : List Bal) (w : World) (h : Bals w a m c l) (hg : Good n l) :
    Calls Try.prog 17 #[.int .i64 n, .slice a m c] w fun e w' => ∃ aa cc, e = .returned (two (.slice aa n cc) 0) ∧ Ints w' aa n cc (roL l n n) ∧ Below w.heap.size w w' := by
  have hn1 := hg.1
  have hn6 := hg.2.1
  have CM := may_any (n : Int) a m c l w h
  rw [(good_iff n l).2 hg] at CM
  have CM := hide CM
  have CW := hide (fun W (hb : Below w.heap.size w W) ga gn gc gl hI hl => weakest_any n a m c l ga gn gc gl W (h.later hb) hg hI hl)
  clear h hg
  unfold two
  go_enter Try.func17, Try.ntmps17
  go_wp2_with fail
  refine (unhide CM).mono ?_
  rintro e w1 ⟨rfl, hb1⟩
  go_wp2_with fail
  go_loopw [15, 7] (fun i v wr => Below w1.heap.size w1 wr ∧ ∃ k : Nat, k ≤ n ∧ i = .int .i64 k ∧ wr.ownsRow w1.heap.size 3 1 v k (intVals (roL l n k))) (fun i _ _ => n - (intOf i).toNat)
  case atStart => exact ⟨Below.refl _ _, 0, Nat.zero_le _, rfl, World.ownsRow_nil _ _ _ _⟩
  case round =>
    obtain ⟨hbr, k, hk, rfl, hown⟩ := hrel
    obtain ⟨ga, gc, hv, hI, _⟩ := Ints.of_owns hown (by omega)
    by_cases hlt : k < n
    · have C := hide (unhide CW wr (hb1.trans (hbr.mono hb1.size)) ga k gc (roL l n k) hI (by rw [ro_len]; exact hlt))
      have HO := hide hown
      have HRO : Hid (roL l n (k + 1) = roL l n k ++ [wkF (voF l (roL l n k) n l.length) (roL l n k) n]) := rfl
      subst hv
      generalize wkF (voF l (roL l n k) n l.length) (roL l n k) n = z at *
      clear hown hI
      go_wp2_with fail
      refine (unhide C).mono ?_
      rintro e w2 ⟨rfl, hb2⟩
      have HO2 := hide (owns_later (unhide HO) hb2)
      go_wp2_with (at_builtin; refine wpList_append_int _ rfl _ _ rfl w1.heap.size _ _ _ rfl ((unhide HO2).alloc _) w2.heap.size z rfl (by simp) (by omega) (by have := hbr.size; have := hb2.size; simp; omega) ?_; intro v3 w3 ho3 hg3)
      go_roundw
      case rel =>
        have hb3 := hbr.trans (hb2.mono hbr.size)
        refine ⟨hb3.trans (((Below.refl w1.heap.size w2).alloc hb3.size (.cells #[.int .i64 z] 3)).grown hg3 (by have := hb3.size; simp; omega) (fun q hq => ((unhide HO2).lt q hq).1)), k + 1, by omega, by go_num, ?_⟩
        rw [unhide HRO, intVals_append]
        exact ho3
      case measure => simp [intOf]; omega
    · obtain rfl : n = k := by omega
      subst hv
      go_wp2_with fail
      go_ret2
      exact ⟨ga, gc, rfl, hI, hb1.trans (hbr.mono hb1.size)⟩
set_option maxRecDepth 100000 in
set_option maxHeartbeats 8000000 in
/-- The document's Runoff. -/
theorem runoffR_any (n : Nat) (a : Option Addr) (m c : Nat) (l : List Bal) (w : World) (h : Bals w a m c l) (hg : Good n l) :
    Calls Try.prog 37 #[.int .i64 n, .slice a m c] w fun e w' => ∃ aa cc, e = .returned (.slice aa n cc) ∧ Ints w' aa n cc (roL l n n) ∧ Below w.heap.size w w' := by
  have hn1 := hg.1
  have hn6 := hg.2.1
  have h1 := h.2.1
  have h2 := h.2.2.1
  unfold maxLen at h2
  have hl30 := hg.2.2.1
  have HN := hide h.1
  have HH := hide h
  have HG := hide hg
  clear h hg
  go_enter Try.func37, Try.ntmps37
  go_wp2_with fail
  go_loopw [5, 6, 7, 8, 9, 10, 11, 12, 13, 14, 15, 16] (fun v _ _ _ _ _ _ _ _ _ _ _ wr => Below w.heap.size w wr ∧ ∃ k : Nat, k ≤ n ∧ wr.ownsRow w.heap.size 3 1 v k (intVals (roL l n k))) (fun v _ _ _ _ _ _ _ _ _ _ _ _ => n - (match v with | .slice _ k _ => k | _ => 0))
  case atStart => exact ⟨Below.refl _ _, 0, Nat.zero_le _, World.ownsRow_nil _ _ _ _⟩
  case round =>
    obtain ⟨hbr, k, hk, hown⟩ := hrel
    obtain ⟨ga, gc, hv, hI, _⟩ := Ints.of_owns hown (by omega)
    have hgc1 := hI.2.1
    have hgc2 := hI.2.2.1
    unfold maxLen at hgc2
    by_cases hlt : k < n
    · have HRO : Hid (roL l n (k + 1) = roL l n k ++ [wkF (voF l (roL l n k) n l.length) (roL l n k) n]) := rfl
      have HGL : Hid ((roL l n k).length < n) := by show (roL l n k).length < n; rw [ro_len]; exact hlt
      have HO := hide hown
      have HI := hide hI
      subst hv
      clear hown hI
      generalize roL l n k = gl at *
      go_wp2_with fail
      rename World => wq
      go_loopw [8, 6, 7, 9, 10, 11, 12, 13, 14, 15, 16] (fun i u lv _ _ _ _ _ _ _ _ wy => Below wq.heap.size wq wy ∧ ∃ t : Nat, t ≤ n ∧ i = .int .i64 t ∧ u = .int .i64 (wkF (voF l gl n l.length) gl t) ∧ (∀ j : Nat, wkF (voF l gl n l.length) gl t = j → lv = .int .i64 (voF l gl n l.length j)) ∧ ∃ z, lv = .int .i64 z) (fun i _ _ _ _ _ _ _ _ _ _ _ => n - (intOf i).toNat)
      case atStart => exact ⟨Below.refl _ _, 0, Nat.zero_le _, rfl, rfl, fun j hj => by have : (-1 : Int) = j := hj; omega, 0, rfl⟩
      case round =>
        rename World => wy
        obtain ⟨hby, t, ht, rfl, rfl, hlv, lz, rfl⟩ := hrel
        by_cases hlt2 : t < n
        · have CI := in_any ga k gc gl t wy ((unhide HI).later hby)
          rw [idx_mem] at CI
          by_cases hin : (t : Int) ∈ gl
          · rw [decide_eq_true hin] at CI
            have CI := hide CI
            have HE : Hid (wkF (voF l gl n l.length) gl (t + 1) = wkF (voF l gl n l.length) gl t) := by show wkF _ gl (t + 1) = _; rw [wkF, if_pos hin]
            have HLV := hide hlv
            clear hlv
            go_wp2_with fail
            refine (unhide CI).mono ?_
            rintro e w2 ⟨rfl, hw2⟩
            subst w2
            go_wp2_with fail
            go_roundw
            case rel => exact ⟨hby, t + 1, by omega, by go_num, by rw [unhide HE], fun j hj => unhide HLV j (by rw [← unhide HE]; exact hj), lz, rfl⟩
            case measure => simp [intOf]; omega
          · rw [decide_eq_false hin] at CI
            have CI := hide CI
            have HIN := hide hin
            have HLV := hide hlv
            clear hlv hin
            go_wp2_with fail
            refine (unhide CI).mono ?_
            rintro e w2 ⟨rfl, hw2⟩
            subst w2
            go_wp2_with fail
            go_loopw [11, 10, 12, 13, 14, 15, 16] (fun i u _ _ _ _ _ wz => Below wy.heap.size wy wz ∧ ∃ q : Nat, q ≤ m ∧ i = .int .i64 q ∧ u = .int .i64 (voF l gl n q t)) (fun i _ _ _ _ _ _ _ => m - (intOf i).toNat)
            case atStart => exact ⟨Below.refl _ _, 0, Nat.zero_le _, rfl, rfl⟩
            case round =>
              rename World => wz
              obtain ⟨hbz, q, hq, rfl, rfl⟩ := hrel
              have hbwz : Below wq.heap.size wq wz := hby.trans (hbz.mono hby.size)
              have hbww : Below w.heap.size w wz := hbr.trans (hbwz.mono hbr.size)
              by_cases hlt3 : q < m
              · obtain ⟨bA, oA, hA, hbA, hcell⟩ := ((unhide HH).later hbww).cellAt (by omega)
                subst hA
                obtain ⟨x1, x2⟩ := hcell q hlt3
                have hlen : q < l.length := by have := unhide HN; omega
                have HIO := hide ((unhide HH).at hlen)
                have hcnt := ((unhide HG).2.2.2 q hlen).2
                have hpl := voF_le gl (unhide HG) t q (by omega)
                have HPS : Hid (voF l gl n (q + 1) t = voF l gl n q t + (if fsB gl (balAt l q).order t n = true then (balAt l q).count else 0)) := by
                  show voF l gl n q t + (if ¬ (t : Int) ∈ gl ∧ fsB gl (balAt l q).order t n = true then (balAt l q).count else 0) = _
                  by_cases c : fsB gl (balAt l q).order t n = true
                  · rw [if_pos ⟨unhide HIN, c⟩, if_pos c]
                  · rw [if_neg (fun hh => c hh.2), if_neg c]
                generalize voF l gl n q t = P at *
                clear hcell
                generalize balAt l q = g at *
                obtain ⟨cn, oa, on, oc, od⟩ := g
                simp only at x1 x2 HPS hcnt HIO
                go_wp2_with fail
                go_loopw [13, 12, 14, 15, 16] (fun i u _ _ _ wf => Below wz.heap.size wz wf ∧ ∃ y : Nat, y ≤ n ∧ i = .int .i64 y ∧ u = .bool (fsB gl od t y)) (fun i _ _ _ _ _ => n - (intOf i).toNat)
                case atStart => exact ⟨Below.refl _ _, 0, Nat.zero_le _, rfl, rfl⟩
                case round =>
                  rename World => wf
                  obtain ⟨hbf, y, hy, rfl, rfl⟩ := hrel
                  by_cases hlt4 : y < n
                  · have hbqf : Below wq.heap.size wq wf := hbwz.trans (hbf.mono hbwz.size)
                    have hbwf : Below w.heap.size w wf := hbww.trans (hbf.mono hbww.size)
                    have C0 := in_any ga k gc gl y wf ((unhide HI).later hbqf)
                    rw [idx_mem] at C0
                    have hIn := (unhide HIO).later hbwf
                    have C1 := hide (place_any oa on oc od y wf hIn)
                    have C2 := hide (place_any oa on oc od t wf hIn)
                    have y1 := (hbf.cell (p := ⟨bA, oA + q * 2 + 1, none⟩) hbA).trans x2
                    have HFS : Hid (fsB gl od t (y + 1) = if ¬ (y : Int) ∈ gl ∧ idxFrom od y 0 < idxFrom od t 0 then false else fsB gl od t y) := rfl
                    clear hIn
                    generalize fsB gl od t y = F at *
                    generalize idxFrom od (y : Int) 0 = i1 at *
                    generalize idxFrom od (t : Int) 0 = i2 at *
                    by_cases hiy : (y : Int) ∈ gl
                    · rw [decide_eq_true hiy] at C0
                      rw [if_neg (fun hh => hh.1 hiy)] at HFS
                      clear hiy
                      have C0 := hide C0
                      go_wp2_with fail
                      refine (unhide C0).mono ?_
                      rintro e w2 ⟨rfl, hw2⟩
                      subst w2
                      go_wp2_with fail
                      refine (unhide C1).mono ?_
                      rintro e w2 ⟨rfl, hw2⟩
                      subst w2
                      go_wp2_with fail
                      refine (unhide C2).mono ?_
                      rintro e w2 ⟨rfl, hw2⟩
                      subst w2
                      go_wp2_with fail
                      go_roundw
                      case rel => exact ⟨hbf, y + 1, by omega, by go_num, by rw [unhide HFS]⟩
                      case measure => simp [intOf]; omega
                    · rw [decide_eq_false hiy] at C0
                      by_cases hii : i1 < i2
                      · rw [if_pos ⟨hiy, hii⟩] at HFS
                        clear hiy
                        have C0 := hide C0
                        go_wp2_with fail
                        refine (unhide C0).mono ?_
                        rintro e w2 ⟨rfl, hw2⟩
                        subst w2
                        go_wp2_with fail
                        refine (unhide C1).mono ?_
                        rintro e w2 ⟨rfl, hw2⟩
                        subst w2
                        go_wp2_with fail
                        refine (unhide C2).mono ?_
                        rintro e w2 ⟨rfl, hw2⟩
                        subst w2
                        go_wp2_with fail
                        go_roundw
                        case rel => exact ⟨hbf, y + 1, by omega, by go_num, by rw [unhide HFS]⟩
                        case measure => simp [intOf]; omega
                      · rw [if_neg (fun hh => hii hh.2)] at HFS
                        clear hiy
                        have C0 := hide C0
                        go_wp2_with fail
                        refine (unhide C0).mono ?_
                        rintro e w2 ⟨rfl, hw2⟩
                        subst w2
                        go_wp2_with fail
                        refine (unhide C1).mono ?_
                        rintro e w2 ⟨rfl, hw2⟩
                        subst w2
                        go_wp2_with fail
                        refine (unhide C2).mono ?_
                        rintro e w2 ⟨rfl, hw2⟩
                        subst w2
                        go_wp2_with fail
                        go_roundw
                        case rel => exact ⟨hbf, y + 1, by omega, by go_num, by rw [unhide HFS]⟩
                        case measure => simp [intOf]; omega
                  · obtain rfl : n = y := by omega
                    have x3 := (hbf.cell (p := ⟨bA, oA + q * 2, none⟩) hbA).trans x1
                    by_cases hfs : fsB gl od t n = true
                    · rw [hfs]
                      rw [if_pos hfs] at HPS
                      clear hfs
                      go_wp2_with fail
                      go_roundw
                      case rel => exact ⟨hbz.trans (hbf.mono hbz.size), q + 1, by omega, by go_num, by first | (rw [unhide HPS]; done) | (rw [unhide HPS]; go_num)⟩
                      case measure => simp [intOf]; omega
                    · rw [if_neg hfs, Int.add_zero] at HPS
                      rw [Bool.not_eq_true] at hfs
                      rw [hfs]
                      clear hfs
                      go_wp2_with fail
                      go_roundw
                      case rel => exact ⟨hbz.trans (hbf.mono hbz.size), q + 1, by omega, by go_num, by rw [unhide HPS]⟩
                      case measure => simp [intOf]; omega
              · obtain rfl : m = q := by omega
                have hml := unhide HN
                obtain ⟨vv, hvv⟩ : ∃ vv : Nat → Int, vv = voF l gl n l.length := ⟨_, rfl⟩
                rw [show voF l gl n m t = vv t from by rw [hvv, hml]]
                rw [← hvv] at HLV ⊢
                have HVV := hide hvv
                clear hml hvv
                have HBZ := hide (hby.trans (hbz.mono hby.size))
                rcases wkF_spec vv gl t with ⟨h1, _⟩ | ⟨j, h1, h2, h3⟩
                · have HE : Hid (wkF vv gl (t + 1) = t) := by show wkF vv gl (t + 1) = _; rw [wkF, if_neg (unhide HIN), if_pos (.inl (by omega))]
                  rw [h1]
                  obtain ⟨vt, hvt⟩ : ∃ z, vv t = z := ⟨_, rfl⟩
                  rw [hvt]
                  have HVT := hide hvt
                  clear hvt
                  go_wp2_with fail
                  go_roundw
                  case rel => exact ⟨unhide HBZ, t + 1, by omega, by go_num, by rw [← unhide HVV, unhide HE], fun i hi => (by rw [← unhide HVV] at hi ⊢; rw [unhide HE] at hi; obtain rfl : t = i := (by omega); rw [unhide HVT]), _, rfl⟩
                  case measure => simp [intOf]; omega
                · have e0 := unhide HLV j h1
                  rw [h1]
                  cases e0
                  by_cases hc : vv t ≤ vv j
                  · have HE : Hid (wkF vv gl (t + 1) = t) := by show wkF vv gl (t + 1) = _; rw [wkF, if_neg (unhide HIN), h1, if_pos (.inr (by simpa using hc))]
                    obtain ⟨vt, hvt⟩ : ∃ z, vv t = z := ⟨_, rfl⟩
                    rw [hvt] at hc ⊢
                    have HVT := hide hvt
                    clear hvt
                    generalize vv j = vj at *
                    go_wp2_with fail
                    go_roundw
                    case rel => exact ⟨unhide HBZ, t + 1, by omega, by go_num, by rw [← unhide HVV, unhide HE], fun i hi => (by rw [← unhide HVV] at hi ⊢; rw [unhide HE] at hi; obtain rfl : t = i := (by omega); rw [unhide HVT]), _, rfl⟩
                    case measure => simp [intOf]; omega
                  · have HE : Hid (wkF vv gl (t + 1) = j) := by show wkF vv gl (t + 1) = _; rw [wkF, if_neg (unhide HIN), h1, if_neg (by simp; omega)]
                    obtain ⟨vj, hvj⟩ : ∃ z, vv j = z := ⟨_, rfl⟩
                    rw [hvj] at hc ⊢
                    have HVJ := hide hvj
                    clear hvj
                    generalize vv t = vt at *
                    have hlt5 : vj < vt := by omega
                    have hd : decide (vt ≤ vj) = false := decide_eq_false hc
                    go_wp2_with fail
                    go_roundw
                    case rel => exact ⟨unhide HBZ, t + 1, by omega, by go_num, by rw [← unhide HVV, unhide HE], fun i hi => (by rw [← unhide HVV] at hi ⊢; rw [unhide HE] at hi; obtain rfl : j = i := (by omega); rw [unhide HVJ]), _, rfl⟩
                    case measure => simp [intOf]; omega
        · obtain rfl : n = t := by omega
          generalize wkF (voF l gl n l.length) gl n = z at *
          have HO2 := hide (owns_later (unhide HO) hby)
          clear hlv
          go_wp2_with (at_builtin; refine wpList_append_int _ rfl _ _ rfl w.heap.size _ _ _ rfl ((unhide HO2).alloc _) wy.heap.size z rfl (by simp) (by omega) (by have := hbr.size; have := hby.size; simp; omega) ?_; intro v3 w3 ho3 hg3)
          obtain ⟨a3, c3, hv3, hI3, _⟩ := Ints.of_owns (l := gl ++ [z]) (by rw [intVals_append]; exact ho3) (by omega)
          subst hv3
          go_roundw
          case rel =>
            have hb3 := hbr.trans (hby.mono hbr.size)
            refine ⟨hb3.trans (((Below.refl w.heap.size wy).alloc hb3.size (.cells #[.int .i64 z] 3)).grown hg3 (by have := hb3.size; simp; omega) (fun q hq => ((unhide HO2).lt q hq).1)), k + 1, by omega, ?_⟩
            rw [unhide HRO, intVals_append]
            exact ho3
          case measure => simp; omega
    · obtain rfl : n = k := by omega
      subst hv
      go_wp2_with fail
      go_ret
      exact ⟨ga, gc, rfl, hI, hbr⟩
end Go.Proofs.Ytloandcndnmkhaa
