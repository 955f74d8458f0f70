import Derived.Test.YtkeanlpgnnikjaaZD
namespace Go.Proofs.Ytkeanlpgnnikjaa
open Go.RowKit
set_option maxRecDepth 100000 in
set_option maxHeartbeats 4000000 in
theorem quality_any (a : Option Addr) (n c G : Nat) (L : List Sl) (a' : Option Addr) (c' : Nat) (gl : List Int) (w : World) (h : Lsts w a n c L) (hV : Vals n G L) (h' : Ints w a' G c' gl) :
    Calls Try.prog 31 #[.slice a n c, .slice a' G c'] w fun e w' => e = .returned (.tuple #[.int .i64 (qN (vl L) (nth gl) G n), .int .i64 (qP (vl L) (nth gl) G n)]) ∧ w' = w := by
  have hn1 := hV.n1
  have hn4 := hV.n4
  have hG := hV.g8
  have d1 := h.2.1
  have d2 := h.2.2.1
  have c1 := h'.2.1
  have c2 := h'.2.2.1
  unfold maxLen at d2 c2
  have HH : Hid (∀ i, i < n → Calls Try.prog 23 #[.slice a n c, .slice a' G c', .int .i64 (i : Int), .int .i64 (i : Int)] w fun e w' => e = .returned (.int .i64 (hv (vl L i) (nth gl) (i : Nat) G)) ∧ w' = w) := fun i hi => has_any a n c G L a' c' gl i _ w h hV h' hi
  have HOK : Hid (∀ i, i < n → OkF (vl L i) G) := fun i hi => hV.okF hi
  clear h h' hV
  generalize vl L = v at *
  generalize nth gl = f at *
  go_enter Try.func31, Try.ntmps31
  go_wp2
  go_loop [8, 6, 7, 9] (fun i x y _ => ∃ k : Nat, k ≤ n ∧ i = .int .i64 k ∧ x = .int .i64 (qN v f G k) ∧ y = .int .i64 (qP v f G k)) (fun i _ _ _ => n - (intOf i).toNat)
  case atStart => exact ⟨0, Nat.zero_le _, rfl, rfl, rfl⟩
  case round =>
    obtain ⟨k, hk, rfl, rfl, rfl⟩ := hrel
    by_cases hlt : k < n
    · have CO := hide (unhide HH k hlt)
      have q1 := hv_le (give := f) (who := (k : Int)) (unhide HOK k hlt) G (Nat.le_refl _)
      have q2 := qN_le (v := v) (f := f) (G := G) k
      have q3 := qP_bound (f := f) (unhide HOK) hG hn4 (show k + 1 ≤ n by omega)
      by_cases hp : 0 < hv (v k) f (k : Int) G
      · have HN := hide (qN_yes hp)
        have HP := hide (qP_yes hp)
        rw [qP_yes hp] at q3
        have hw : wrap64 (qP v f G k * hv (v k) f (k : Int) G) = qP v f G k * hv (v k) f (k : Int) G := wrap64_in _ (by omega) (by omega)
        generalize hv (v k) f (k : Int) G = x at *
        generalize qN v f G k = y at *
        generalize qP v f G k = z at *
        go_wp2_with fail
        refine (unhide CO).mono ?_
        rintro e w4 ⟨rfl, hw4⟩
        subst w4
        go_wp2
        exact ⟨⟨k + 1, by omega, by go_num, by rw [unhide HN], by rw [unhide HP]⟩, by simp [intOf]; omega⟩
      · have HN := hide (qN_no hp)
        have HP := hide (qP_no hp)
        clear q3
        generalize hv (v k) f (k : Int) G = x at *
        generalize qN v f G k = y at *
        generalize qP v f G k = z at *
        go_wp2_with fail
        refine (unhide CO).mono ?_
        rintro e w4 ⟨rfl, hw4⟩
        subst w4
        go_wp2
        exact ⟨⟨k + 1, by omega, by go_num, by rw [unhide HN], by rw [unhide HP]⟩, by simp [intOf]; omega⟩
    · obtain rfl : n = k := by omega
      go_wp2
      go_ret2
      exact ⟨rfl, rfl⟩
/-- The best of the best of some and some more. -/
def comb (s1 s2 : List Int → Int) (b r : Option (List Int)) : Option (List Int) := match r with | none => b | some o => bestS s1 s2 b o
theorem fold_comb (s1 s2 : List Int → Int) (b : Option (List Int)) (l : List (List Int)) : l.foldl (bestS s1 s2) b = comb s1 s2 b (l.foldl (bestS s1 s2) none) := by
  have key : ∀ (r : List (List Int)), r.reverse.foldl (bestS s1 s2) b = comb s1 s2 b (r.reverse.foldl (bestS s1 s2) none) := by
    intro r
    induction r with
    | nil => rfl
    | cons x xs ih =>
      rw [List.reverse_cons, List.foldl_append, List.foldl_append, ih]
      show bestS s1 s2 (comb s1 s2 b (xs.reverse.foldl (bestS s1 s2) none)) x = comb s1 s2 b (bestS s1 s2 (xs.reverse.foldl (bestS s1 s2) none) x)
      generalize xs.reverse.foldl (bestS s1 s2) none = R
      cases R with
      | none => rfl
      | some r =>
        show bestS s1 s2 (bestS s1 s2 b r) x = comb s1 s2 b (if bt (s1 x) (s2 x) (s1 r) (s2 r) then some x else some r)
        cases b with
        | none =>
          show (if bt (s1 x) (s2 x) (s1 r) (s2 r) then some x else some r) = _
          by_cases c : bt (s1 x) (s2 x) (s1 r) (s2 r)
          · rw [if_pos c]; rfl
          · rw [if_neg c]; rfl
        | some q =>
          show bestS s1 s2 (if bt (s1 r) (s2 r) (s1 q) (s2 q) then some r else some q) x = _
          by_cases c1 : bt (s1 r) (s2 r) (s1 q) (s2 q)
          · rw [if_pos c1]
            show (if bt (s1 x) (s2 x) (s1 r) (s2 r) then some x else some r) = _
            by_cases c2 : bt (s1 x) (s2 x) (s1 r) (s2 r)
            · rw [if_pos c2]
              show _ = (if bt (s1 x) (s2 x) (s1 q) (s2 q) then some x else some q)
              rw [if_pos (by unfold bt at *; omega)]
            · rw [if_neg c2]
              show _ = (if bt (s1 r) (s2 r) (s1 q) (s2 q) then some r else some q)
              rw [if_pos c1]
          · rw [if_neg c1]
            show (if bt (s1 x) (s2 x) (s1 q) (s2 q) then some x else some q) = _
            by_cases c2 : bt (s1 x) (s2 x) (s1 r) (s2 r)
            · rw [if_pos c2]; rfl
            · rw [if_neg c2, if_neg (by unfold bt at *; omega)]
              show _ = (if bt (s1 r) (s2 r) (s1 q) (s2 q) then some r else some q)
              rw [if_neg c1]
  have := key l.reverse
  rwa [List.reverse_reverse] at this
theorem bestG_append (s1 s2 : List Int → Int) (l m : List (List Int)) : bestG s1 s2 (l ++ m) = comb s1 s2 (bestG s1 s2 l) (bestG s1 s2 m) := by
  unfold bestG
  rw [List.foldl_append, fold_comb]
section
variable {a : Option Addr} {n c G : Nat} {L : List Sl}
def REPost (n G : Nat) (L : List Sl) (all : List (List Int)) (w : World) (e : Ending) (w' : World) : Prop := ∃ q va cc, bestG (fun o => qN (vl L) (nth o) G n) (fun o => qP (vl L) (nth o) G n) all = some q ∧ e = .returned (.slice va G cc) ∧ Ints w' va G cc q ∧ Below w.heap.size w w'
set_option maxRecDepth 100000 in
set_option maxHeartbeats 8000000 in
theorem evenR_any (hV : Vals n G L) : ∀ (f d : Nat) (o : List Int) (va : Option Addr) (cv : Nat) (w : World), d + f = G → Lsts w a n c L → Ints w va d cv o →
    Calls Try.prog 16 #[.slice a n c, .slice va d cv] w (REPost n G L (wL n f o) w) := by
  have hn1 := hV.n1
  have hn4 := hV.n4
  have hG := hV.g8
  intro f
  induction f with
  | zero =>
    intro d o va cv w hd h h'
    have hdG : d = G := by omega
    subst hdG
    have d1 := h.2.1
    have d2 := h.2.2.1
    have c1 := h'.2.1
    have c2 := h'.2.2.1
    unfold maxLen at d2 c2
    obtain ⟨b, off, rfl, hb, hcell⟩ := h.cellAt hn1
    have c0 := hcell 0 hn1
    rw [Nat.add_zero, hV.row 0 hn1] at c0
    have i1 := (h.mem hn1).2.1
    have i2 := (h.mem hn1).2.2.1
    rw [hV.row 0 hn1] at i1
    unfold maxLen at i2
    have HI := hide h'
    clear h h' hV hcell
    generalize (slAt L 0).la = la at *
    generalize (slAt L 0).lc = lc at *
    go_enter Try.func16, Try.ntmps16
    go_wp2
    go_ret
    exact ⟨o, va, cv, rfl, rfl, HI, Below.refl _ _⟩
  | succ f ih =>
    intro d o va cv w hd h h'
    have d1 := h.2.1
    have d2 := h.2.2.1
    have c1 := h'.2.1
    have c2 := h'.2.2.1
    unfold maxLen at d2 c2
    have HIH : Hid (∀ (o : List Int) (va : Option Addr) (cv : Nat) (w : World), Lsts w a n c L → Ints w va (d + 1) cv o → Calls Try.prog 16 #[.slice a n c, .slice va (d + 1) cv] w (REPost n G L (wL n f o) w)) := fun o va cv w => ih (d + 1) o va cv w (by omega)
    have HLA := hide (fun W (hW : Below w.heap.size w W) => h.later hW)
    have HIA := hide (fun W (hW : Below w.heap.size w W) => h'.later hW)
    have HQU : Hid (∀ W va cc q, Below w.heap.size w W → Ints W va G cc q → Calls Try.prog 31 #[.slice a n c, .slice va G cc] W fun e w' => e = .returned (.tuple #[.int .i64 (qN (vl L) (nth q) G n), .int .i64 (qP (vl L) (nth q) G n)]) ∧ w' = W) := fun W va cc q hW hI => quality_any a n c G L va cc q W (h.later hW) hV hI
    have HPO : Hid (∀ q : List Int, 0 ≤ qN (vl L) (nth q) G n ∧ 1 ≤ qP (vl L) (nth q) G n) := fun q => ⟨(qN_le n).1, (qP_bound (f := nth q) (fun i hi => hV.okF hi) hG hn4 (Nat.le_refl n)).1⟩
    have HSM : Hid (∀ q : List Int, qN (vl L) (nth q) G n ≤ 4 ∧ qP (vl L) (nth q) G n ≤ 4096000000000000) := fun q => ⟨by have := (qN_le (v := vl L) (f := nth q) (G := G) n).2; omega, (qP_bound (f := nth q) (fun i hi => hV.okF hi) hG hn4 (Nat.le_refl n)).2⟩
    unfold REPost at *
    generalize hs1 : (fun o : List Int => qN (vl L) (nth o) G n) = s1 at *
    generalize hs2 : (fun o : List Int => qP (vl L) (nth o) G n) = s2 at *
    have e1 : ∀ q : List Int, qN (vl L) (nth q) G n = s1 q := fun q => by rw [← hs1]
    have e2 : ∀ q : List Int, qP (vl L) (nth q) G n = s2 q := fun q => by rw [← hs2]
    simp only [e1, e2] at HQU HPO HSM
    clear hs1 hs2 e1 e2
    obtain ⟨b, off, hab, hb, hcell⟩ := h.cellAt hn1
    have c0 := hcell 0 hn1
    rw [Nat.add_zero, hV.row 0 hn1] at c0
    have i1 := (h.mem hn1).2.1
    have i2 := (h.mem hn1).2.2.1
    rw [hV.row 0 hn1] at i1
    unfold maxLen at i2
    have hne : ((d : Int) == (G : Int)) = false := by simp; omega
    have HAB := hide hab
    subst hab
    clear h h' hV hcell ih
    generalize (slAt L 0).la = la at *
    generalize (slAt L 0).lc = lc at *
    go_enter Try.func16, Try.ntmps16
    go_wp2
    go_loopw [8, 5, 6, 7, 9, 10, 11] (fun i x y z _ _ _ wr => Hid (Below w.heap.size w wr) ∧ ∃ k : Nat, k ≤ n ∧ i = .int .i64 k ∧ ((Hid (k = 0 ∧ bestG s1 s2 (wT n f o k) = none) ∧ x = .slice none 0 0 ∧ y = .int .i64 (-1) ∧ z = .int .i64 0) ∨ ∃ q va cc, x = .slice va G cc ∧ y = .int .i64 (s1 q) ∧ z = .int .i64 (s2 q) ∧ Hid (bestG s1 s2 (wT n f o k) = some q ∧ Ints wr va G cc q))) (fun i _ _ _ _ _ _ _ => n - (intOf i).toNat)
    case atStart => exact ⟨Below.refl _ _, 0, Nat.zero_le _, rfl, .inl ⟨⟨rfl, rfl⟩, rfl, rfl, rfl⟩⟩
    case round =>
      obtain ⟨HB, k, hk, rfl, hst⟩ := hrel
      by_cases hlt : k < n
      · have hb0 : Below wr.heap.size wr (wr.alloc (.cells #[] 3)) := by go_grown
        have HBA : Hid (Below w.heap.size w (wr.alloc (.cells #[] 3))) := (unhide HB).trans (hb0.mono (unhide HB).size)
        have HO := hide (own_empty wr wr.heap.size (Nat.le_refl _))
        have HI1 := hide (unhide HIA _ (unhide HBA))
        have HWT : Hid (wT n f o (k + 1) = wT n f o k ++ wL n f (o ++ [(k : Int)])) := wT_succ n f o k
        have HREC : Hid (∀ (w3 : World) (v3 : Value), w3.ownsRow wr.heap.size 3 1 v3 (d + 1) (intVals (o ++ [(k : Int)])) → Below wr.heap.size wr w3 → ∃ a3 c3, v3 = .slice a3 (d + 1) c3 ∧ Calls Try.prog 16 #[.slice (some ⟨b, off, none⟩) n c, .slice a3 (d + 1) c3] w3 fun e w' => ∃ q va cc, bestG s1 s2 (wL n f (o ++ [(k : Int)])) = some q ∧ e = .returned (.slice va G cc) ∧ Ints w' va G cc q ∧ Below w3.heap.size w3 w') := fun w3 v3 ho3 hb3 => by
          obtain ⟨a3, c3, hv3, hI3, -⟩ := Ints.of_owns ho3 (by omega)
          subst hv3
          exact ⟨a3, c3, rfl, unhide HIH _ a3 c3 w3 (unhide HLA w3 ((unhide HB).trans (hb3.mono (unhide HB).size))) hI3⟩
        have HSTEP : Hid (∀ (w4 : World) (q2 : List Int) (va2 : Option Addr) (cc2 : Nat), Below wr.heap.size wr w4 → bestG s1 s2 (wL n f (o ++ [(k : Int)])) = some q2 → Ints w4 va2 G cc2 q2 →
            Calls Try.prog 31 #[.slice (some ⟨b, off, none⟩) n c, .slice va2 G cc2] w4 (fun e w' => e = .returned (.tuple #[.int .i64 (s1 q2), .int .i64 (s2 q2)]) ∧ w' = w4)) := fun w4 q2 va2 cc2 hb4 _ hI => unhide HQU w4 va2 cc2 q2 ((unhide HB).trans (hb4.mono (unhide HB).size)) hI
        rcases hst with ⟨HZ, rfl, rfl, rfl⟩ | ⟨q, va', cc, rfl, rfl, rfl, HQ⟩
        · go_wp2_with (first
            | (at_builtin; refine wpList_append_ints _ rfl _ _ rfl wr.heap.size (.slice (some ⟨wr.heap.size, 0, none⟩) 0 0) 0 [] rfl (unhide HO) va d cv o rfl (unhide HI1) (by omega) (by simp) ?_; intro v2 w2 ho2 hg2; have hb2 : Below wr.heap.size wr w2 := hb0.trans ((Below.refl wr.heap.size _).grown hg2 (by simp) (fun k hk => ((unhide HO).lt k hk).1)); have HO2 : Hid (w2.ownsRow wr.heap.size 3 1 v2 d (intVals o)) := (by have q := ho2; rw [Nat.zero_add, List.nil_append] at q; exact q); clear ho2 hg2)
            | (at_builtin; refine wpList_append_int _ rfl _ _ rfl wr.heap.size v2 d (intVals o) rfl ((unhide HO2).alloc _) w2.heap.size (k : Int) rfl (by simp) (by omega) (by have := hb2.size; simp; omega) ?_; intro v3 w3 ho3 hg3; have hb3 : Below wr.heap.size wr w3 := hb2.trans (((Below.refl wr.heap.size w2).alloc hb2.size (.cells #[.int .i64 (k : Int)] 3)).grown hg3 (by have := hb2.size; simp; omega) (fun q hq => ((unhide HO2).lt q hq).1)); obtain ⟨a3, c3, hv3, CR⟩ := unhide HREC w3 v3 (by rw [intVals_append]; exact ho3) hb3; subst hv3; have CR := hide CR; clear ho3 hg3)
            | (go_at_call 16; refine (unhide CR).mono ?_; rintro e w4 ⟨q2, va2, cc2, hq2, rfl, hI2, hb4⟩; have hbr4 : Below wr.heap.size wr w4 := hb3.trans (hb4.mono hb3.size); have CS2 := hide (unhide HSTEP w4 q2 va2 cc2 hbr4 hq2 hI2); have HI2 := hide hI2; have HQ2 := hide hq2; clear hI2 hq2; have hp2 := unhide HPO q2; have hp3 := unhide HSM q2; have d5 := (unhide HI2).2.1; have d6 := (unhide HI2).2.2.1; unfold maxLen at d6)
            | (go_at_call 31; refine (unhide CS2).mono ?_; rintro e w5 ⟨rfl, hw5⟩; subst w5))
          go_roundw
          case rel => exact ⟨(unhide HB).trans (hbr4.mono (unhide HB).size), k + 1, by omega, by go_num, .inr ⟨q2, va2, cc2, rfl, rfl, rfl, by rw [unhide HWT, bestG_append, (unhide HZ).2, unhide HQ2]; rfl, HI2⟩⟩
          case measure => simp [intOf]; omega
        · have hpq := unhide HPO q
          have hpr := unhide HSM q
          go_wp2_with (first
            | (at_builtin; refine wpList_append_ints _ rfl _ _ rfl wr.heap.size (.slice (some ⟨wr.heap.size, 0, none⟩) 0 0) 0 [] rfl (unhide HO) va d cv o rfl (unhide HI1) (by omega) (by simp) ?_; intro v2 w2 ho2 hg2; have hb2 : Below wr.heap.size wr w2 := hb0.trans ((Below.refl wr.heap.size _).grown hg2 (by simp) (fun k hk => ((unhide HO).lt k hk).1)); have HO2 : Hid (w2.ownsRow wr.heap.size 3 1 v2 d (intVals o)) := (by have q := ho2; rw [Nat.zero_add, List.nil_append] at q; exact q); clear ho2 hg2)
            | (at_builtin; refine wpList_append_int _ rfl _ _ rfl wr.heap.size v2 d (intVals o) rfl ((unhide HO2).alloc _) w2.heap.size (k : Int) rfl (by simp) (by omega) (by have := hb2.size; simp; omega) ?_; intro v3 w3 ho3 hg3; have hb3 : Below wr.heap.size wr w3 := hb2.trans (((Below.refl wr.heap.size w2).alloc hb2.size (.cells #[.int .i64 (k : Int)] 3)).grown hg3 (by have := hb2.size; simp; omega) (fun q hq => ((unhide HO2).lt q hq).1)); obtain ⟨a3, c3, hv3, CR⟩ := unhide HREC w3 v3 (by rw [intVals_append]; exact ho3) hb3; subst hv3; have CR := hide CR; clear ho3 hg3)
            | (go_at_call 16; refine (unhide CR).mono ?_; rintro e w4 ⟨q2, va2, cc2, hq2, rfl, hI2, hb4⟩; have hbr4 : Below wr.heap.size wr w4 := hb3.trans (hb4.mono hb3.size); have CS2 := hide (unhide HSTEP w4 q2 va2 cc2 hbr4 hq2 hI2); have HI2 := hide hI2; have HQ2 := hide hq2; clear hI2 hq2; have hp2 := unhide HPO q2; have hp3 := unhide HSM q2; have d5 := (unhide HI2).2.1; have d6 := (unhide HI2).2.2.1; unfold maxLen at d6))
          refine (unhide CS2).mono ?_
          rintro e w5 ⟨rfl, hw5⟩
          subst w5
          have HCB : Hid (bestG s1 s2 (wT n f o (k + 1)) = if bt (s1 q2) (s2 q2) (s1 q) (s2 q) then some q2 else some q) := by show _ = _; rw [unhide HWT, bestG_append, (unhide HQ).1, unhide HQ2]; rfl
          have HIQ := hide ((unhide HQ).2.later hbr4)
          have HB4 : Hid (Below w.heap.size w w4) := (unhide HB).trans (hbr4.mono (unhide HB).size)
          by_cases t1 : s1 q < s1 q2
          · have HW : Hid (bestG s1 s2 (wT n f o (k + 1)) = some q2) := by rw [unhide HCB, if_pos (by unfold bt; omega)]; rfl
            go_wp2
            go_roundw
            case rel => exact ⟨HB4, k + 1, by omega, by go_num, .inr ⟨q2, va2, cc2, rfl, rfl, rfl, HW, HI2⟩⟩
            case measure => simp [intOf]; omega
          · by_cases t2 : s1 q2 = s1 q
            · have tb : (s1 q2 == s1 q) = true := by simpa using t2
              by_cases t3 : s2 q < s2 q2
              · have HW : Hid (bestG s1 s2 (wT n f o (k + 1)) = some q2) := by rw [unhide HCB, if_pos (by unfold bt; omega)]; rfl
                clear t2
                go_wp2
                go_roundw
                case rel => exact ⟨HB4, k + 1, by omega, by go_num, .inr ⟨q2, va2, cc2, rfl, rfl, rfl, HW, HI2⟩⟩
                case measure => simp [intOf]; omega
              · have HW : Hid (bestG s1 s2 (wT n f o (k + 1)) = some q) := by rw [unhide HCB, if_neg (by unfold bt; omega)]; rfl
                clear t2
                go_wp2
                go_roundw
                case rel => exact ⟨HB4, k + 1, by omega, by go_num, .inr ⟨q, va', cc, rfl, rfl, rfl, HW, HIQ⟩⟩
                case measure => simp [intOf]; omega
            · have tb : (s1 q2 == s1 q) = false := by simpa using t2
              have HW : Hid (bestG s1 s2 (wT n f o (k + 1)) = some q) := by rw [unhide HCB, if_neg (by unfold bt; omega)]; rfl
              clear t2
              go_wp2
              go_roundw
              case rel => exact ⟨HB4, k + 1, by omega, by go_num, .inr ⟨q, va', cc, rfl, rfl, rfl, HW, HIQ⟩⟩
              case measure => simp [intOf]; omega
      · obtain rfl : n = k := by omega
        rcases hst with ⟨HZ, -⟩ | ⟨q, va', cc, rfl, rfl, rfl, HQ⟩
        · exact absurd (unhide HZ).1 (by omega)
        · go_wp2
          go_ret
          exact ⟨q, va', cc, by rw [wL_T]; exact (unhide HQ).1, rfl, (unhide HQ).2, HB⟩
end
end Go.Proofs.Ytkeanlpgnnikjaa
