import Derived.Test.YtloandcndnmkhaaZZ
import Derived.Test.YtloandcndnmkhaaK
namespace Go.Proofs.Ytloandcndnmkhaa
open Go.RowKit
/-- A row of ints in a block of ints. -/
def RowT (base : Nat) (W : World) (va : Option Addr) (n : Nat) (f : Nat → Int) : Prop := Row base W va n f ∧ T3 W va n
theorem T3.set {w : World} {g k n : Nat} {v : Value} {a : Option Addr} (h : T3 w a n) : T3 (w.setCell ⟨g, k, none⟩ v) a n := by
  rcases h with h | ⟨b, off, arr, fz, h1, h2⟩
  · exact Or.inl h
  · by_cases e : b = g
    · subst e
      refine Or.inr ⟨b, off, arr.setIfInBounds k v, fz, h1, ?_⟩
      have hlt := (Array.getElem?_eq_some_iff.1 h2).1
      have h3 := (Array.getElem?_eq_some_iff.1 h2).2
      show (w.heap.modify b _)[b]? = _
      rw [Array.getElem?_eq_getElem (by simpa using hlt), Array.getElem_modify, if_pos rfl, h3]
      rfl
    · exact Or.inr ⟨b, off, arr, fz, h1, by rw [Below.heap_setCell _ _ _ _ e]; exact h2⟩
theorem RowT.later {base : Nat} {W W' : World} {va : Option Addr} {n : Nat} {f : Nat → Int} (h : RowT base W va n f) (hb : Below W.heap.size W W') : RowT base W' va n f := ⟨h.1.later hb, h.2.later hb⟩
theorem RowT.same {base : Nat} {W : World} {va : Option Addr} {n : Nat} {f f' : Nat → Int} (h : RowT base W va n f) (e : ∀ j, j < n → f j = f' j) : RowT base W va n f' := ⟨h.1.same e, h.2⟩
theorem RowT.at {base : Nat} {W : World} {g n : Nat} {f : Nat → Int} (h : RowT base W (some ⟨g, 0, none⟩) n f) {j : Nat} (hj : j < n) : W.cell? ⟨g, j, none⟩ = some (.int .i64 (f j)) ∧ W.frozen? ⟨g, j, none⟩ = false ∧ g < W.heap.size ∧ base ≤ g := h.1.at hj
theorem RowT.set {base : Nat} {W : World} {g n k : Nat} {f f' : Nat → Int} {x : Int} (h : RowT base W (some ⟨g, 0, none⟩) n f) (hk : k < n) (e : ∀ j, j < n → j ≠ k → f j = f' j) (ek : x = f' k) : RowT base (W.setCell ⟨g, k, none⟩ (.int .i64 x)) (some ⟨g, 0, none⟩) n f' := ⟨h.1.set hk e ek, h.2.set⟩
set_option maxRecDepth 100000 in
set_option maxHeartbeats 8000000 in
theorem strong_any (p : Nat → Nat → Int) (n x g G O TC base : Nat) (W0 : World) (h0 : ∀ i j, 0 ≤ p i j) (hn6 : n ≤ 6) (hTC : n ≤ TC) (hTC2 : TC ≤ maxLen)
    (hd : ∀ wr, W0.grownBy wr (some g) → ∀ i, i < n → ∃ b off c', wr.cell? ⟨G, O + i, none⟩ = some (.slice (some ⟨b, off, none⟩) n c') ∧ ∀ j, j < n → wr.cell? ⟨b, off + j, none⟩ = some (.int .i64 (p i j))) :
    ∀ (f : Nat) (wl : List Nat) (aw : Option Addr) (cw : Nat) (s : Int) (a : Nat) (W : World) (r : Nat → Int), n - wl.length ≤ f → W0.grownBy W (some g) → Ints W aw wl.length cw (wl.map (fun z : Nat => (z : Int))) → Off g aw wl.length → wl.Nodup → (∀ z ∈ wl, z < n) →
      0 < wl.length → wl[wl.length - 1]?.getD 0 = a → a < n → x ∈ wl → (a ≠ x → s ≤ fw p n x a) → (wl = [x] ∧ a = x ∨ 1 < wl.length ∧ s ≤ fw p n x a) → RowT base W (some ⟨g, 0, none⟩) n r →
      Calls Try.prog 64 #[.slice (some ⟨G, O, none⟩) n TC, .slice aw wl.length cw, .int .i64 s, .slice (some ⟨g, 0, none⟩) n n] W fun e w' => e = .returned (.tuple #[]) ∧ W.grownBy w' (some g) ∧ ∃ r', RowT base w' (some ⟨g, 0, none⟩) n r' ∧ SPost p n x wl s a r r' := by
  have HD := hide hd
  clear hd
  unfold maxLen at hTC2
  intro f
  induction f using Nat.strongRecOn with
  | _ f ih =>
  intro wl aw cw s a W r hf hgW hI hoff hnd hwn hlen hlast han hxw hsa hcase hrow
  have IH := hide ih
  clear ih
  obtain ⟨wb, wo, e1, _, hcw⟩ := hI.cellAt hlen
  subst e1
  have q1 := hcw (wl.length - 1) (by omega)
  rw [show (wl.map (fun z : Nat => (z : Int)))[wl.length - 1]?.getD 0 = (a : Int) by
    rw [← hlast, List.getElem?_map, List.getElem?_eq_getElem (by omega)]; rfl] at q1
  have hll := len_le n wl hnd hwn
  have hcap := hI.2.1
  have hcap2 := hI.2.2.1
  unfold maxLen at hcap2
  obtain ⟨z1, z2, z3, z4⟩ := hrow.at han
  have HI := hide hI
  have HR := hide hrow
  have HINIT := hide (SInv.init (p := p) (n := n) (x := x) (w := wl) (s := s) (a := a) (r := r) hsa)
  have HND := hide hnd
  have HWN := hide hwn
  have HLA := hide hlast
  have HXW := hide hxw
  have HC := hide hcase
  have HSA := hide hsa
  have HOF := hide hoff
  have HG := hide hgW
  clear hI hrow hnd hwn hlast hxw hcase hsa hcw hoff hgW
  have k1 : ((wl.length : Nat) : Int) - 1 = ((wl.length - 1 : Nat) : Int) := by omega
  generalize hwln : wl.length = m at *
  go_enter Try.func64, Try.ntmps64
  by_cases hsr : r a < s
  · have HS1 : Hid (W.grownBy (W.setCell ⟨g, a, none⟩ (.int .i64 s)) (some g) ∧ RowT base (W.setCell ⟨g, a, none⟩ (.int .i64 s)) (some ⟨g, 0, none⟩) n (upS r a s)) :=
      ⟨gb_set _ _ _ _, (unhide HR).set han (fun j _ hne => by unfold upS; rw [if_neg (fun hh => hne hh.1)]) (by unfold upS; rw [if_pos ⟨rfl, hsr⟩])⟩
    go_wp2_with fail
    go_loopw [9, 10, 11] (fun i _ _ wr => W.grownBy wr (some g) ∧ ∃ (t : Nat) (r' : Nat → Int), t ≤ n ∧ i = .int .i64 t ∧ RowT base wr (some ⟨g, 0, none⟩) n r' ∧ SInv p n x wl s a t r r') (fun i _ _ _ => n - (intOf i).toNat)
    case atStart => exact ⟨(unhide HS1).1, 0, _, Nat.zero_le _, rfl, (unhide HS1).2, unhide HINIT⟩
    case round =>
      obtain ⟨hgr, t, r', ht, rfl, hrw, hinv⟩ := hrel
      by_cases hlt : t < n
      · have hP := unhide HD wr (gb_trans (unhide HG) hgr)
        obtain ⟨b1, o1, c1, y1, y1'⟩ := hP t hlt
        obtain ⟨b2, o2, c2, y2, y2'⟩ := hP a han
        have y3 := y1' a han
        have y4 := y2' t hlt
        clear hP y1' y2'
        have C := hide (in_any _ _ _ _ (t : Int) wr ((unhide HI).gb hgr (unhide HOF)))
        rw [idx_mem] at C
        have HRW := hide hrw
        have HINV := hide hinv
        clear hrw hinv
        by_cases hin : t ∈ wl
        · rw [decide_eq_true (show (t : Int) ∈ wl.map (fun z : Nat => (z : Int)) from List.mem_map.2 ⟨t, hin, rfl⟩)] at C
          have HK := hide ((unhide HINV).skip (.inl hin))
          clear hin
          go_wp2_with fail
          refine (unhide C).mono ?_
          rintro e w1 ⟨rfl, hw1⟩
          subst w1
          go_wp2_with fail
          go_quiet (fail)
          go_wp2_with fail
          go_roundw
          case rel => exact ⟨gb_trans hgr (gb_below (below_drewN _ _ _)), t + 1, r', by omega, by go_num, (unhide HRW).later (below_drewN _ _ _), unhide HK⟩
          case measure => simp [intOf]; omega
        · rw [decide_eq_false (show ¬ (t : Int) ∈ wl.map (fun z : Nat => (z : Int)) from fun hh => by
            obtain ⟨z, z1, z2⟩ := List.mem_map.1 hh
            have : z = t := by omega
            exact hin (this ▸ z1))] at C
          by_cases hle : p a t ≤ p t a
          · have HK := hide ((unhide HINV).skip (.inr hle))
            go_wp2_with fail
            refine (unhide C).mono ?_
            rintro e w1 ⟨rfl, hw1⟩
            subst w1
            go_wp2_with fail
            go_quiet (fail)
            go_wp2_with fail
            go_roundw
            case rel => exact ⟨gb_trans hgr (gb_below (below_drewN _ _ _)), t + 1, r', by omega, by go_num, (unhide HRW).later (below_drewN _ _ _), unhide HK⟩
            case measure => simp [intOf]; omega
          · go_wp2_with fail
            refine (unhide C).mono ?_
            rintro e w1 ⟨rfl, hw1⟩
            subst w1
            go_wp2_with fail
            go_quiet (fail)
            have hbq := below_drewN wr.heap.size wr nq
            have hgz : W.grownBy (wr.drewN nq) (some g) := gb_trans hgr (gb_below hbq)
            have HRZ := hide ((unhide HRW).later hbq)
            have HIZ := hide ((unhide HI).gb hgz (unhide HOF))
            have HX : Hid (∀ sv w3 a3 c3, sv = stepS p wl s a t → W.grownBy w3 (some g) → RowT base w3 (some ⟨g, 0, none⟩) n r' → Ints w3 a3 (m + 1) c3 (wl.map (fun z : Nat => (z : Int)) ++ [(t : Int)]) → Off g a3 (m + 1) →
                Calls Try.prog 64 #[.slice (some ⟨G, O, none⟩) n TC, .slice a3 (m + 1) c3, .int .i64 sv, .slice (some ⟨g, 0, none⟩) n n] w3 fun e w' => e = .returned (.tuple #[]) ∧ W.grownBy w' (some g) ∧ ∃ r2, RowT base w' (some ⟨g, 0, none⟩) n r2 ∧ SInv p n x wl s a (t + 1) r r2) := fun sv w3 a3 c3 hsv hgb hrw3 hI3 ho3 => by
              subst hsv hwln
              have hndt : (wl ++ [t]).Nodup := by
                rw [List.nodup_append]
                exact ⟨unhide HND, by simp, fun z hz y hy e => hin (by rw [List.mem_singleton] at hy; rw [← hy, ← e]; exact hz)⟩
              have hwnt : ∀ z ∈ wl ++ [t], z < n := fun z hz => by
                rcases List.mem_append.1 hz with hz | hz
                · exact unhide HWN z hz
                · rw [List.mem_singleton.1 hz]; exact hlt
              have hl2 := len_le n _ hndt hwnt
              rw [List.length_append] at hl2
              simp only [List.length_singleton] at hl2
              have hxt : x ≠ t := fun e => hin (e ▸ unhide HXW)
              have hst := stepS_le (w := wl) (s := s) h0 han hxt (unhide HC) (by omega)
              have := unhide IH (f - 1) (by omega) (wl ++ [t]) a3 c3 (stepS p wl s a t) t w3 r' (by rw [List.length_append]; simp only [List.length_singleton]; omega) (gb_trans (unhide HG) hgb) (by rw [List.length_append, List.map_append]; exact hI3) (by rw [List.length_append]; exact ho3) hndt hwnt (by simp) (by simp) hlt (List.mem_append.2 (.inl (unhide HXW))) (fun _ => hst) (.inr ⟨by rw [List.length_append]; simp only [List.length_singleton]; omega, hst⟩) hrw3
              rw [List.length_append] at this
              refine this.mono ?_
              rintro e w' ⟨q1, q2, r2, q3, q4⟩
              exact ⟨q1, gb_trans hgb q2, r2, q3, (unhide HINV).call (fun e => by rw [e] at hlen; simp at hlen) q4⟩
            have y2z : (wr.drewN nq).cell? ⟨G, O + a, none⟩ = some (.slice (some ⟨b2, o2, none⟩) n c2) := y2
            have y4z : (wr.drewN nq).cell? ⟨b2, o2 + t, none⟩ = some (.int .i64 (p a t)) := y4
            generalize wr.drewN nq = wz at *
            clear hin
            by_cases hm1 : 1 < m
            · by_cases hst : s < p a t
              · have HV : Hid (s = stepS p wl s a t) := by
                  show s = stepS p wl s a t
                  unfold stepS; rw [hwln, if_pos ⟨hm1, hst⟩]
                go_wp2_with (first
                  | (at_builtin; refine wpList_append_ints _ rfl _ _ rfl wz.heap.size _ 0 [] rfl (own_empty _ _ (Nat.le_refl _)) (some ⟨wb, wo, none⟩) m cw _ rfl ((unhide HIZ).later ((Below.refl _ _).alloc (Nat.le_refl _) _)) (by omega) (by simp) ?_; intro v2 w2 ho2 hg2)
                  | (at_builtin; refine wpList_append_int _ rfl _ _ rfl wz.heap.size _ _ _ rfl (ho2.alloc _) w2.heap.size (t : Int) rfl (by simp) (by omega) (by have := hg2.size; simp at this; simp; omega) ?_; intro v3 w3 ho3 hg3
                     have hb2 : Below wz.heap.size wz w2 := ((Below.refl wz.heap.size wz).alloc (Nat.le_refl _) _).grown hg2 (by simp) (fun q hq => by cases hq; simp)
                     have hb3 : Below wz.heap.size wz w3 := hb2.trans (((Below.refl wz.heap.size w2).alloc hb2.size (.cells #[.int .i64 (t : Int)] 3)).grown hg3 (by have := hb2.size; simp; omega) (fun q hq => (ho2.lt q hq).1))
                     have ho3' : w3.ownsRow wz.heap.size 3 1 v3 (m + 1) (intVals (wl.map (fun z : Nat => (z : Int)) ++ [(t : Int)])) := by
                       have := ho3
                       simp only [List.nil_append, Nat.zero_add] at this
                       rw [intVals_append]
                       exact this
                     obtain ⟨a3, c3, hv3, hI3, hoff3⟩ := Ints.of_owns ho3' (by omega)
                     subst hv3
                     have CC := hide (unhide HX _ w3 a3 c3 (unhide HV) (gb_trans hgz (gb_below hb3)) ((unhide HRZ).later hb3) hI3 (by
                       rcases hoff3 with h | ⟨g', h1, h2, h3⟩
                       · exact .inl h
                       · exact .inr ⟨g', 0, h3, by have := ((unhide HRZ).at han).2.2.1; omega⟩))
                     clear ho3 ho3' hI3 hoff3))
                refine (unhide CC).mono ?_
                rintro e w4 ⟨rfl, q2, r2, q3, q4⟩
                have Q4 := hide q4
                have Q3 := hide q3
                clear q4 q3
                go_wp2_with fail
                go_roundw
                case rel => exact ⟨q2, t + 1, r2, by omega, by go_num, unhide Q3, unhide Q4⟩
                case measure => simp [intOf]; omega
              · have HV : Hid (p a t = stepS p wl s a t) := by
                  show p a t = stepS p wl s a t
                  unfold stepS; rw [hwln, if_neg (fun hh => hst hh.2)]
                go_wp2_with (first
                  | (at_builtin; refine wpList_append_ints _ rfl _ _ rfl wz.heap.size _ 0 [] rfl (own_empty _ _ (Nat.le_refl _)) (some ⟨wb, wo, none⟩) m cw _ rfl ((unhide HIZ).later ((Below.refl _ _).alloc (Nat.le_refl _) _)) (by omega) (by simp) ?_; intro v2 w2 ho2 hg2)
                  | (at_builtin; refine wpList_append_int _ rfl _ _ rfl wz.heap.size _ _ _ rfl (ho2.alloc _) w2.heap.size (t : Int) rfl (by simp) (by omega) (by have := hg2.size; simp at this; simp; omega) ?_; intro v3 w3 ho3 hg3
                     have hb2 : Below wz.heap.size wz w2 := ((Below.refl wz.heap.size wz).alloc (Nat.le_refl _) _).grown hg2 (by simp) (fun q hq => by cases hq; simp)
                     have hb3 : Below wz.heap.size wz w3 := hb2.trans (((Below.refl wz.heap.size w2).alloc hb2.size (.cells #[.int .i64 (t : Int)] 3)).grown hg3 (by have := hb2.size; simp; omega) (fun q hq => (ho2.lt q hq).1))
                     have ho3' : w3.ownsRow wz.heap.size 3 1 v3 (m + 1) (intVals (wl.map (fun z : Nat => (z : Int)) ++ [(t : Int)])) := by
                       have := ho3
                       simp only [List.nil_append, Nat.zero_add] at this
                       rw [intVals_append]
                       exact this
                     obtain ⟨a3, c3, hv3, hI3, hoff3⟩ := Ints.of_owns ho3' (by omega)
                     subst hv3
                     have CC := hide (unhide HX _ w3 a3 c3 (unhide HV) (gb_trans hgz (gb_below hb3)) ((unhide HRZ).later hb3) hI3 (by
                       rcases hoff3 with h | ⟨g', h1, h2, h3⟩
                       · exact .inl h
                       · exact .inr ⟨g', 0, h3, by have := ((unhide HRZ).at han).2.2.1; omega⟩))
                     clear ho3 ho3' hI3 hoff3))
                refine (unhide CC).mono ?_
                rintro e w4 ⟨rfl, q2, r2, q3, q4⟩
                have Q4 := hide q4
                have Q3 := hide q3
                clear q4 q3
                go_wp2_with fail
                go_roundw
                case rel => exact ⟨q2, t + 1, r2, by omega, by go_num, unhide Q3, unhide Q4⟩
                case measure => simp [intOf]; omega
            · have HV : Hid (p a t = stepS p wl s a t) := by
                show p a t = stepS p wl s a t
                unfold stepS; rw [hwln, if_neg (fun hh => hm1 hh.1)]
              go_wp2_with (first
                | (at_builtin; refine wpList_append_ints _ rfl _ _ rfl wz.heap.size _ 0 [] rfl (own_empty _ _ (Nat.le_refl _)) (some ⟨wb, wo, none⟩) m cw _ rfl ((unhide HIZ).later ((Below.refl _ _).alloc (Nat.le_refl _) _)) (by omega) (by simp) ?_; intro v2 w2 ho2 hg2)
                | (at_builtin; refine wpList_append_int _ rfl _ _ rfl wz.heap.size _ _ _ rfl (ho2.alloc _) w2.heap.size (t : Int) rfl (by simp) (by omega) (by have := hg2.size; simp at this; simp; omega) ?_; intro v3 w3 ho3 hg3
                   have hb2 : Below wz.heap.size wz w2 := ((Below.refl wz.heap.size wz).alloc (Nat.le_refl _) _).grown hg2 (by simp) (fun q hq => by cases hq; simp)
                   have hb3 : Below wz.heap.size wz w3 := hb2.trans (((Below.refl wz.heap.size w2).alloc hb2.size (.cells #[.int .i64 (t : Int)] 3)).grown hg3 (by have := hb2.size; simp; omega) (fun q hq => (ho2.lt q hq).1))
                   have ho3' : w3.ownsRow wz.heap.size 3 1 v3 (m + 1) (intVals (wl.map (fun z : Nat => (z : Int)) ++ [(t : Int)])) := by
                     have := ho3
                     simp only [List.nil_append, Nat.zero_add] at this
                     rw [intVals_append]
                     exact this
                   obtain ⟨a3, c3, hv3, hI3, hoff3⟩ := Ints.of_owns ho3' (by omega)
                   subst hv3
                   have CC := hide (unhide HX _ w3 a3 c3 (unhide HV) (gb_trans hgz (gb_below hb3)) ((unhide HRZ).later hb3) hI3 (by
                     rcases hoff3 with h | ⟨g', h1, h2, h3⟩
                     · exact .inl h
                     · exact .inr ⟨g', 0, h3, by have := ((unhide HRZ).at han).2.2.1; omega⟩))
                   clear ho3 ho3' hI3 hoff3))
              refine (unhide CC).mono ?_
              rintro e w4 ⟨rfl, q2, r2, q3, q4⟩
              have Q4 := hide q4
              have Q3 := hide q3
              clear q4 q3
              go_wp2_with fail
              go_roundw
              case rel => exact ⟨q2, t + 1, r2, by omega, by go_num, unhide Q3, unhide Q4⟩
              case measure => simp [intOf]; omega
      · obtain rfl : n = t := by omega
        have HE := hide hinv.done
        clear hinv
        go_wp2_with fail
        go_end0
        exact ⟨rfl, hgr, r', hrw, unhide HE⟩
  · have HS1 : Hid (W.grownBy W (some g) ∧ RowT base W (some ⟨g, 0, none⟩) n (upS r a s)) :=
      ⟨gb_refl _ _, (unhide HR).same (fun j _ => by unfold upS; rw [if_neg (fun hh => hsr hh.2)])⟩
    go_wp2_with fail
    go_loopw [9, 10, 11] (fun i _ _ wr => W.grownBy wr (some g) ∧ ∃ (t : Nat) (r' : Nat → Int), t ≤ n ∧ i = .int .i64 t ∧ RowT base wr (some ⟨g, 0, none⟩) n r' ∧ SInv p n x wl s a t r r') (fun i _ _ _ => n - (intOf i).toNat)
    case atStart => exact ⟨(unhide HS1).1, 0, _, Nat.zero_le _, rfl, (unhide HS1).2, unhide HINIT⟩
    case round =>
      obtain ⟨hgr, t, r', ht, rfl, hrw, hinv⟩ := hrel
      by_cases hlt : t < n
      · have hP := unhide HD wr (gb_trans (unhide HG) hgr)
        obtain ⟨b1, o1, c1, y1, y1'⟩ := hP t hlt
        obtain ⟨b2, o2, c2, y2, y2'⟩ := hP a han
        have y3 := y1' a han
        have y4 := y2' t hlt
        clear hP y1' y2'
        have C := hide (in_any _ _ _ _ (t : Int) wr ((unhide HI).gb hgr (unhide HOF)))
        rw [idx_mem] at C
        have HRW := hide hrw
        have HINV := hide hinv
        clear hrw hinv
        by_cases hin : t ∈ wl
        · rw [decide_eq_true (show (t : Int) ∈ wl.map (fun z : Nat => (z : Int)) from List.mem_map.2 ⟨t, hin, rfl⟩)] at C
          have HK := hide ((unhide HINV).skip (.inl hin))
          clear hin
          go_wp2_with fail
          refine (unhide C).mono ?_
          rintro e w1 ⟨rfl, hw1⟩
          subst w1
          go_wp2_with fail
          go_quiet (fail)
          go_wp2_with fail
          go_roundw
          case rel => exact ⟨gb_trans hgr (gb_below (below_drewN _ _ _)), t + 1, r', by omega, by go_num, (unhide HRW).later (below_drewN _ _ _), unhide HK⟩
          case measure => simp [intOf]; omega
        · rw [decide_eq_false (show ¬ (t : Int) ∈ wl.map (fun z : Nat => (z : Int)) from fun hh => by
            obtain ⟨z, z1, z2⟩ := List.mem_map.1 hh
            have : z = t := by omega
            exact hin (this ▸ z1))] at C
          by_cases hle : p a t ≤ p t a
          · have HK := hide ((unhide HINV).skip (.inr hle))
            go_wp2_with fail
            refine (unhide C).mono ?_
            rintro e w1 ⟨rfl, hw1⟩
            subst w1
            go_wp2_with fail
            go_quiet (fail)
            go_wp2_with fail
            go_roundw
            case rel => exact ⟨gb_trans hgr (gb_below (below_drewN _ _ _)), t + 1, r', by omega, by go_num, (unhide HRW).later (below_drewN _ _ _), unhide HK⟩
            case measure => simp [intOf]; omega
          · go_wp2_with fail
            refine (unhide C).mono ?_
            rintro e w1 ⟨rfl, hw1⟩
            subst w1
            go_wp2_with fail
            go_quiet (fail)
            have hbq := below_drewN wr.heap.size wr nq
            have hgz : W.grownBy (wr.drewN nq) (some g) := gb_trans hgr (gb_below hbq)
            have HRZ := hide ((unhide HRW).later hbq)
            have HIZ := hide ((unhide HI).gb hgz (unhide HOF))
            have HX : Hid (∀ sv w3 a3 c3, sv = stepS p wl s a t → W.grownBy w3 (some g) → RowT base w3 (some ⟨g, 0, none⟩) n r' → Ints w3 a3 (m + 1) c3 (wl.map (fun z : Nat => (z : Int)) ++ [(t : Int)]) → Off g a3 (m + 1) →
                Calls Try.prog 64 #[.slice (some ⟨G, O, none⟩) n TC, .slice a3 (m + 1) c3, .int .i64 sv, .slice (some ⟨g, 0, none⟩) n n] w3 fun e w' => e = .returned (.tuple #[]) ∧ W.grownBy w' (some g) ∧ ∃ r2, RowT base w' (some ⟨g, 0, none⟩) n r2 ∧ SInv p n x wl s a (t + 1) r r2) := fun sv w3 a3 c3 hsv hgb hrw3 hI3 ho3 => by
              subst hsv hwln
              have hndt : (wl ++ [t]).Nodup := by
                rw [List.nodup_append]
                exact ⟨unhide HND, by simp, fun z hz y hy e => hin (by rw [List.mem_singleton] at hy; rw [← hy, ← e]; exact hz)⟩
              have hwnt : ∀ z ∈ wl ++ [t], z < n := fun z hz => by
                rcases List.mem_append.1 hz with hz | hz
                · exact unhide HWN z hz
                · rw [List.mem_singleton.1 hz]; exact hlt
              have hl2 := len_le n _ hndt hwnt
              rw [List.length_append] at hl2
              simp only [List.length_singleton] at hl2
              have hxt : x ≠ t := fun e => hin (e ▸ unhide HXW)
              have hst := stepS_le (w := wl) (s := s) h0 han hxt (unhide HC) (by omega)
              have := unhide IH (f - 1) (by omega) (wl ++ [t]) a3 c3 (stepS p wl s a t) t w3 r' (by rw [List.length_append]; simp only [List.length_singleton]; omega) (gb_trans (unhide HG) hgb) (by rw [List.length_append, List.map_append]; exact hI3) (by rw [List.length_append]; exact ho3) hndt hwnt (by simp) (by simp) hlt (List.mem_append.2 (.inl (unhide HXW))) (fun _ => hst) (.inr ⟨by rw [List.length_append]; simp only [List.length_singleton]; omega, hst⟩) hrw3
              rw [List.length_append] at this
              refine this.mono ?_
              rintro e w' ⟨q1, q2, r2, q3, q4⟩
              exact ⟨q1, gb_trans hgb q2, r2, q3, (unhide HINV).call (fun e => by rw [e] at hlen; simp at hlen) q4⟩
            have y2z : (wr.drewN nq).cell? ⟨G, O + a, none⟩ = some (.slice (some ⟨b2, o2, none⟩) n c2) := y2
            have y4z : (wr.drewN nq).cell? ⟨b2, o2 + t, none⟩ = some (.int .i64 (p a t)) := y4
            generalize wr.drewN nq = wz at *
            clear hin
            by_cases hm1 : 1 < m
            · by_cases hst : s < p a t
              · have HV : Hid (s = stepS p wl s a t) := by
                  show s = stepS p wl s a t
                  unfold stepS; rw [hwln, if_pos ⟨hm1, hst⟩]
                go_wp2_with (first
                  | (at_builtin; refine wpList_append_ints _ rfl _ _ rfl wz.heap.size _ 0 [] rfl (own_empty _ _ (Nat.le_refl _)) (some ⟨wb, wo, none⟩) m cw _ rfl ((unhide HIZ).later ((Below.refl _ _).alloc (Nat.le_refl _) _)) (by omega) (by simp) ?_; intro v2 w2 ho2 hg2)
                  | (at_builtin; refine wpList_append_int _ rfl _ _ rfl wz.heap.size _ _ _ rfl (ho2.alloc _) w2.heap.size (t : Int) rfl (by simp) (by omega) (by have := hg2.size; simp at this; simp; omega) ?_; intro v3 w3 ho3 hg3
                     have hb2 : Below wz.heap.size wz w2 := ((Below.refl wz.heap.size wz).alloc (Nat.le_refl _) _).grown hg2 (by simp) (fun q hq => by cases hq; simp)
                     have hb3 : Below wz.heap.size wz w3 := hb2.trans (((Below.refl wz.heap.size w2).alloc hb2.size (.cells #[.int .i64 (t : Int)] 3)).grown hg3 (by have := hb2.size; simp; omega) (fun q hq => (ho2.lt q hq).1))
                     have ho3' : w3.ownsRow wz.heap.size 3 1 v3 (m + 1) (intVals (wl.map (fun z : Nat => (z : Int)) ++ [(t : Int)])) := by
                       have := ho3
                       simp only [List.nil_append, Nat.zero_add] at this
                       rw [intVals_append]
                       exact this
                     obtain ⟨a3, c3, hv3, hI3, hoff3⟩ := Ints.of_owns ho3' (by omega)
                     subst hv3
                     have CC := hide (unhide HX _ w3 a3 c3 (unhide HV) (gb_trans hgz (gb_below hb3)) ((unhide HRZ).later hb3) hI3 (by
                       rcases hoff3 with h | ⟨g', h1, h2, h3⟩
                       · exact .inl h
                       · exact .inr ⟨g', 0, h3, by have := ((unhide HRZ).at han).2.2.1; omega⟩))
                     clear ho3 ho3' hI3 hoff3))
                refine (unhide CC).mono ?_
                rintro e w4 ⟨rfl, q2, r2, q3, q4⟩
                have Q4 := hide q4
                have Q3 := hide q3
                clear q4 q3
                go_wp2_with fail
                go_roundw
                case rel => exact ⟨q2, t + 1, r2, by omega, by go_num, unhide Q3, unhide Q4⟩
                case measure => simp [intOf]; omega
              · have HV : Hid (p a t = stepS p wl s a t) := by
                  show p a t = stepS p wl s a t
                  unfold stepS; rw [hwln, if_neg (fun hh => hst hh.2)]
                go_wp2_with (first
                  | (at_builtin; refine wpList_append_ints _ rfl _ _ rfl wz.heap.size _ 0 [] rfl (own_empty _ _ (Nat.le_refl _)) (some ⟨wb, wo, none⟩) m cw _ rfl ((unhide HIZ).later ((Below.refl _ _).alloc (Nat.le_refl _) _)) (by omega) (by simp) ?_; intro v2 w2 ho2 hg2)
                  | (at_builtin; refine wpList_append_int _ rfl _ _ rfl wz.heap.size _ _ _ rfl (ho2.alloc _) w2.heap.size (t : Int) rfl (by simp) (by omega) (by have := hg2.size; simp at this; simp; omega) ?_; intro v3 w3 ho3 hg3
                     have hb2 : Below wz.heap.size wz w2 := ((Below.refl wz.heap.size wz).alloc (Nat.le_refl _) _).grown hg2 (by simp) (fun q hq => by cases hq; simp)
                     have hb3 : Below wz.heap.size wz w3 := hb2.trans (((Below.refl wz.heap.size w2).alloc hb2.size (.cells #[.int .i64 (t : Int)] 3)).grown hg3 (by have := hb2.size; simp; omega) (fun q hq => (ho2.lt q hq).1))
                     have ho3' : w3.ownsRow wz.heap.size 3 1 v3 (m + 1) (intVals (wl.map (fun z : Nat => (z : Int)) ++ [(t : Int)])) := by
                       have := ho3
                       simp only [List.nil_append, Nat.zero_add] at this
                       rw [intVals_append]
                       exact this
                     obtain ⟨a3, c3, hv3, hI3, hoff3⟩ := Ints.of_owns ho3' (by omega)
                     subst hv3
                     have CC := hide (unhide HX _ w3 a3 c3 (unhide HV) (gb_trans hgz (gb_below hb3)) ((unhide HRZ).later hb3) hI3 (by
                       rcases hoff3 with h | ⟨g', h1, h2, h3⟩
                       · exact .inl h
                       · exact .inr ⟨g', 0, h3, by have := ((unhide HRZ).at han).2.2.1; omega⟩))
                     clear ho3 ho3' hI3 hoff3))
                refine (unhide CC).mono ?_
                rintro e w4 ⟨rfl, q2, r2, q3, q4⟩
                have Q4 := hide q4
                have Q3 := hide q3
                clear q4 q3
                go_wp2_with fail
                go_roundw
                case rel => exact ⟨q2, t + 1, r2, by omega, by go_num, unhide Q3, unhide Q4⟩
                case measure => simp [intOf]; omega
            · have HV : Hid (p a t = stepS p wl s a t) := by
                show p a t = stepS p wl s a t
                unfold stepS; rw [hwln, if_neg (fun hh => hm1 hh.1)]
              go_wp2_with (first
                | (at_builtin; refine wpList_append_ints _ rfl _ _ rfl wz.heap.size _ 0 [] rfl (own_empty _ _ (Nat.le_refl _)) (some ⟨wb, wo, none⟩) m cw _ rfl ((unhide HIZ).later ((Below.refl _ _).alloc (Nat.le_refl _) _)) (by omega) (by simp) ?_; intro v2 w2 ho2 hg2)
                | (at_builtin; refine wpList_append_int _ rfl _ _ rfl wz.heap.size _ _ _ rfl (ho2.alloc _) w2.heap.size (t : Int) rfl (by simp) (by omega) (by have := hg2.size; simp at this; simp; omega) ?_; intro v3 w3 ho3 hg3
                   have hb2 : Below wz.heap.size wz w2 := ((Below.refl wz.heap.size wz).alloc (Nat.le_refl _) _).grown hg2 (by simp) (fun q hq => by cases hq; simp)
                   have hb3 : Below wz.heap.size wz w3 := hb2.trans (((Below.refl wz.heap.size w2).alloc hb2.size (.cells #[.int .i64 (t : Int)] 3)).grown hg3 (by have := hb2.size; simp; omega) (fun q hq => (ho2.lt q hq).1))
                   have ho3' : w3.ownsRow wz.heap.size 3 1 v3 (m + 1) (intVals (wl.map (fun z : Nat => (z : Int)) ++ [(t : Int)])) := by
                     have := ho3
                     simp only [List.nil_append, Nat.zero_add] at this
                     rw [intVals_append]
                     exact this
                   obtain ⟨a3, c3, hv3, hI3, hoff3⟩ := Ints.of_owns ho3' (by omega)
                   subst hv3
                   have CC := hide (unhide HX _ w3 a3 c3 (unhide HV) (gb_trans hgz (gb_below hb3)) ((unhide HRZ).later hb3) hI3 (by
                     rcases hoff3 with h | ⟨g', h1, h2, h3⟩
                     · exact .inl h
                     · exact .inr ⟨g', 0, h3, by have := ((unhide HRZ).at han).2.2.1; omega⟩))
                   clear ho3 ho3' hI3 hoff3))
              refine (unhide CC).mono ?_
              rintro e w4 ⟨rfl, q2, r2, q3, q4⟩
              have Q4 := hide q4
              have Q3 := hide q3
              clear q4 q3
              go_wp2_with fail
              go_roundw
              case rel => exact ⟨q2, t + 1, r2, by omega, by go_num, unhide Q3, unhide Q4⟩
              case measure => simp [intOf]; omega
      · obtain rfl : n = t := by omega
        have HE := hide hinv.done
        clear hinv
        go_wp2_with fail
        go_end0
        exact ⟨rfl, hgr, r', hrw, unhide HE⟩
end Go.Proofs.Ytloandcndnmkhaa
