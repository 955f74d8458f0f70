import Derived.Test.YtihmbfapbkddeaaF
namespace Go.Proofs.Ytihmbfapbkddeaa
open Go.RowKit
def lisA (L : List Sl) (i : Nat) : List Int := (slAt L i).ints
set_option maxRecDepth 100000 in
set_option maxHeartbeats 4000000 in
theorem follow_any (n m : Nat) (S : Ex) (wa : Option Addr) (wc : Nat) (WL : List Sl) (la : Option Addr) (lc : Nat) (fa : Option Addr) (fc : Nat) (FL : List Sl) (ga : Option Addr) (gc : Nat) (i0 : Nat) (w : World)
    (hW : Lsts w wa n wc WL) (hL : Cel w la m lc S.left) (hF : Lsts w fa m fc FL) (hG : Cel w ga n gc S.got) (hn6 : n ≤ 6)
    (hr : ∀ i, ∀ x ∈ lisA WL i, 0 ≤ x ∧ x < m) (hr2 : ∀ i, ∀ x ∈ lisA FL i, 0 ≤ x ∧ x < n)
    (hpt : ∀ i, Live n (lisA WL) S i → ∃ k ∈ lisA FL (Bx (lisA WL) S i).toNat, S.got k.toNat = -2)
    (hi : i0 < n) (hwt : S.got i0 = -2) :
    Calls Try.prog 42 #[.slice wa n wc, .slice la m lc, .slice fa m fc, .slice ga n gc, .int .i64 i0] w fun e w' => FolPost n (lisA WL) (lisA FL) S w e w' := by
  have h1 := hW.2.1
  have h2 := hW.2.2.1
  have h3 := hF.2.1
  have h4 := hF.2.2.1
  unfold maxLen at h2 h4
  have HW := hide hW
  have HL := hide hL
  have HF := hide hF
  have HG := hide hG
  have HR := hide hr
  have HR2 := hide hr2
  have HPT := hide hpt
  clear hW hL hF hG hr hr2 hpt
  go_enter Try.func42, Try.ntmps42
  go_wp2_with fail
  go_loopw [4, 11, 12] (fun who v _ wr => Below w.heap.size w wr ∧ ∃ q : Nat, who = .int .i64 (itx (lisA WL) (lisA FL) S q i0 : Nat) ∧ itx (lisA WL) (lisA FL) S q i0 < n ∧ S.got (itx (lisA WL) (lisA FL) S q i0) = -2 ∧ wr.ownsRow w.heap.size 3 1 v q (intVals (pathL (lisA WL) (lisA FL) S i0 q)) ∧ (∀ t, t < q → Live n (lisA WL) S (itx (lisA WL) (lisA FL) S t i0)) ∧ (pathL (lisA WL) (lisA FL) S i0 q).Nodup) (fun _ v _ _ => 7 - lenV v)
  case atStart => exact ⟨Below.refl _ _, 0, rfl, hi, hwt, World.ownsRow_nil _ _ _ _, fun t ht => by omega, by simp [pathL]⟩
  case round =>
    obtain ⟨hbr, q, rfl, hqn, hqg, hown, hlv, hnd⟩ := hrel
    have hqle := path_nodup_len (n := n) hnd (fun t ht => (hlv t ht).1)
    obtain ⟨pa, pc, rfl, hI, _⟩ := Ints.of_owns hown (by omega)
    have HOWN := hide hown
    have HLV := hide hlv
    have HND := hide hnd
    clear hown hlv hnd
    have CC := contains_any pa q pc (pathL (lisA WL) (lisA FL) S i0 q) (itx (lisA WL) (lisA FL) S q i0 : Nat) wr hI
    rw [idx_mem] at CC
    obtain ⟨x, hx⟩ : ∃ x, itx (lisA WL) (lisA FL) S q i0 = x := ⟨_, rfl⟩
    rw [hx] at CC hqn hqg ⊢
    have HX := hide hx
    clear hx
    by_cases hm : (x : Int) ∈ pathL (lisA WL) (lisA FL) S i0 q
    · rw [decide_eq_true hm] at CC
      have C1 := hide CC
      clear CC
      have hq0 : 0 < q := by
        obtain ⟨t, ht, _⟩ := path_mem.1 hm
        omega
      have CI := index_any pa q pc (pathL (lisA WL) (lisA FL) S i0 q) x wr hI
      obtain ⟨k, hk, hkx, hke⟩ : ∃ k : Nat, k < q ∧ itx (lisA WL) (lisA FL) S k i0 = x ∧ idxFrom (pathL (lisA WL) (lisA FL) S i0 q) x 0 = k := by
        rcases idxFrom_spec (pathL (lisA WL) (lisA FL) S i0 q) x _ 0 rfl with ⟨g1, g2⟩ | ⟨k, _, g2, g3, g4, _⟩
        · have := idx_mem (pathL (lisA WL) (lisA FL) S i0 q) x
          rw [decide_eq_true hm, g1] at this
          simp at this
        · rw [path_len] at g2
          rw [path_at g2] at g3
          exact ⟨k, g2, by omega, g4⟩
      rw [hke] at CI
      have C2 := hide CI
      obtain ⟨b, off, rfl, hb, _⟩ := hI.cellAt hq0
      have hbase : w.heap.size ≤ b := by
        rcases (unhide HOWN).2 with ⟨h, _⟩ | ⟨g, cap, cur, h, hbg, _⟩
        · cases h
        · cases h; exact hbg
      have hqc := hI.2.1
      have hqm := hI.2.2.1
      unfold maxLen at hqm
      have HD := hide (hI.dropAt k (by omega))
      rw [if_neg (by omega)] at HD
      have HRG := hide (ring_of (n := n) hk (by rw [unhide HX, hkx]) (unhide HLV) (unhide HND))
      clear CI hI hm hke hkx
      have z0 : (0 : Int) ≤ (k : Int) := by omega
      have z1 : (k : Int) ≤ (q : Int) := by omega
      have z2 : (k : Int) ≤ (pc : Int) := by omega
      have z3 : ¬ pc = k := by omega
      go_wp2_with (first | (go_at_call 47; refine (unhide C1).mono ?_; rintro e w2 ⟨rfl, hw2⟩; subst w2) | (go_at_call 45; refine (unhide C2).mono ?_; rintro e w2 ⟨rfl, hw2⟩; subst w2))
      go_ret
      exact ⟨b, off + k, q - k, pc - k, _, rfl, hbase, unhide HD, unhide HRG, hbr⟩
    · rw [decide_eq_false hm] at CC
      have C1 := hide CC
      clear CC
      have HND2 : Hid ((pathL (lisA WL) (lisA FL) S i0 (q + 1)).Nodup) := by
        show List.Nodup _
        rw [path_succ, unhide HX, List.nodup_append]
        refine ⟨unhide HND, by simp, fun a ha c hc e => ?_⟩
        simp at hc
        subst hc e
        exact hm ha
      have HQ1 : Hid (q + 1 ≤ n) := path_nodup_len (unhide HND2) (fun t ht => by
        by_cases e : t = q
        · rw [e, unhide HX]; exact hqn
        · exact (unhide HLV t (by omega)).1)
      clear hm hI
      have hxn : x < n := hqn
      obtain ⟨bW, oW, hWa, hbW, hcW⟩ := (unhide HW).cellAt (by omega)
      subst hWa
      have hcx := hcW x hxn
      have HIx := hide ((unhide HW).mem hxn)
      clear hcW
      obtain ⟨z, hz⟩ : ∃ z, Bx (lisA WL) S x = z := ⟨_, rfl⟩
      have hzr : z = -1 ∨ (0 ≤ z ∧ z < m) := by
        rcases fst_spec (p := fun s => 0 < S.left s) (l := lisA WL x) with h | ⟨h, _⟩
        · exact .inl (hz.symm.trans h)
        · have := unhide HR x _ h
          exact .inr (by rw [← hz]; exact this)
      have HC2 : Hid (∀ W, Below w.heap.size w W → Calls Try.prog 29 #[.slice (slAt WL x).la (slAt WL x).ln (slAt WL x).lc, .slice la m lc] W fun e w' => e = .returned (.int .i64 z) ∧ w' = W) := fun W hb => by
        have := best_any (slAt WL x).la (slAt WL x).ln (slAt WL x).lc (slAt WL x).ints la m lc S.left W ((unhide HIx).later hb) ((unhide HL).later hb) (unhide HR x)
        rw [show fst (fun s => 0 < S.left s) (slAt WL x).ints = z from hz] at this
        exact this
      have HZ := hide hz
      clear hz
      generalize slAt WL x = s1 at *
      obtain ⟨sa, sn, sc, sl⟩ := s1
      simp only at hcx HC2
      rcases hzr with rfl | ⟨hz0, hz1⟩
      · have HNIL : Hid (Nil n (lisA WL) S x) := ⟨hqn, hqg, unhide HZ⟩
        have zw : IntKind.i64.wrap ((q : Int) + 1 - 1) = (q : Int) := by rw [IntKind.wrap_i64]; omega
        go_wp2_with (first | (go_at_call 47; refine (unhide C1).mono ?_; rintro e w2 ⟨rfl, hw2⟩; subst w2) | (at_builtin; refine wpList_append_int _ rfl _ _ rfl w.heap.size _ q _ rfl ((unhide HOWN).alloc _) wr.heap.size (x : Int) rfl (by simp) (by omega) (by have := hbr.size; simp; omega) ?_; intro v2 w2 ho2 hg2; have hb5 := hbr.trans (((Below.refl w.heap.size wr).alloc hbr.size (.cells #[.int .i64 (x : Int)] 3)).grown hg2 (by have := hbr.size; simp; omega) (fun q hq => ((unhide HOWN).lt q hq).1)); have hcx2 := (hb5.cell (p := ⟨bW, oW + x, none⟩) hbW).trans hcx; have HO2 : Hid (w2.ownsRow w.heap.size 3 1 v2 (q + 1) (intVals (pathL (lisA WL) (lisA FL) S i0 (q + 1)))) := (by rw [path_succ, unhide HX, intVals_append]; exact ho2); clear ho2 hg2; obtain ⟨pa2, pc2, hv2, hI2, _⟩ := Ints.of_owns (unhide HO2) (by omega); subst hv2; have hqc2 := hI2.2.1; have hqm2 := hI2.2.2.1; have HI2 := hide hI2; clear hI2; unfold maxLen at hqm2; obtain ⟨b2, o2, hpa2, hb2, _⟩ := (unhide HI2).cellAt (by omega); subst hpa2; have z1 : (q : Int) ≤ (pc2 : Int) := (by omega); have z3 : ¬ pc2 = q := (by omega)) | (go_at_call 29; refine (unhide HC2 _ hb5).mono ?_; rintro e w3 ⟨rfl, hw3⟩; subst w3))
        have hbase : w.heap.size ≤ b2 := by
          rcases (unhide HO2).2 with ⟨h, _⟩ | ⟨g, cap, cur, h, hbg, _⟩
          · cases h
          · cases h; exact hbg
        have HD := (unhide HI2).dropAt q (by omega)
        rw [if_neg (by omega), path_succ, List.drop_append, path_len, Nat.sub_self, List.drop_of_length_le (by rw [path_len]; omega), unhide HX, show q + 1 - q = 1 by omega] at HD
        go_ret
        exact ⟨b2, o2 + q, _, _, [(x : Int)], rfl, hbase, HD, alone_of (unhide HNIL), hb5⟩
      · obtain ⟨t, rfl⟩ : ∃ t : Nat, z = t := ⟨z.toNat, by omega⟩
        have htm : t < m := by omega
        have HLIV : Hid (Live n (lisA WL) S x) := ⟨hqn, hqg, by rw [unhide HZ]; omega⟩
        have hbz : ((t : Int) == -1) = false := by simp
        obtain ⟨bF, oF, hFa, hbF, hcF⟩ := (unhide HF).cellAt (by omega)
        subst hFa
        have hcf := hcF t htm
        have HIf := hide ((unhide HF).mem htm)
        clear hcF
        have hne : ¬ fst (fun s => S.got s = -2) (lisA FL t) = -1 := fun h => by
          obtain ⟨k, hk, hk2⟩ := unhide HPT x (unhide HLIV)
          rw [unhide HZ, Int.toNat_natCast] at hk
          exact fst_none (fun y hy => (unhide HR2 t y hy).1) h k hk hk2
        obtain ⟨y, hy, hyn, hyg⟩ : ∃ y : Nat, fst (fun s => S.got s = -2) (lisA FL t) = y ∧ y < n ∧ S.got y = -2 := by
          rcases fst_spec (p := fun s => S.got s = -2) (l := lisA FL t) with h | ⟨h, h'⟩
          · exact absurd h hne
          · have := unhide HR2 t _ h
            exact ⟨(fst (fun s => S.got s = -2) (lisA FL t)).toNat, by omega, by omega, h'⟩
        have HNX : Hid (itx (lisA WL) (lisA FL) S (q + 1) i0 = y) := by
          show _ = _
          rw [itx_next, unhide HX]
          unfold Nx Px
          rw [unhide HZ, Int.toNat_natCast, hy, Int.toNat_natCast]
        have HC3 : Hid (∀ W, Below w.heap.size w W → Calls Try.prog 48 #[.slice (slAt FL t).la (slAt FL t).ln (slAt FL t).lc, .slice ga n gc] W fun e w' => e = .returned (.int .i64 y) ∧ Below W.heap.size W w') := fun W hb => by
          have := first_any (slAt FL t).la (slAt FL t).ln (slAt FL t).lc (slAt FL t).ints ga n gc S.got W ((unhide HIf).later hb) ((unhide HG).later hb) (unhide HR2 t) hne
          rw [show fst (fun s => S.got s = -2) (slAt FL t).ints = y from hy] at this
          exact this
        clear hne hy
        generalize slAt FL t = s2 at *
        obtain ⟨ta, tn, tc, tl⟩ := s2
        simp only at hcf HC3
        go_wp2_with (first | (go_at_call 47; refine (unhide C1).mono ?_; rintro e w2 ⟨rfl, hw2⟩; subst w2) | (at_builtin; refine wpList_append_int _ rfl _ _ rfl w.heap.size _ q _ rfl ((unhide HOWN).alloc _) wr.heap.size (x : Int) rfl (by simp) (by omega) (by have := hbr.size; simp; omega) ?_; intro v2 w2 ho2 hg2; have hb5 := hbr.trans (((Below.refl w.heap.size wr).alloc hbr.size (.cells #[.int .i64 (x : Int)] 3)).grown hg2 (by have := hbr.size; simp; omega) (fun q hq => ((unhide HOWN).lt q hq).1)); have hcx2 := (hb5.cell (p := ⟨bW, oW + x, none⟩) hbW).trans hcx; have HO2 : Hid (w2.ownsRow w.heap.size 3 1 v2 (q + 1) (intVals (pathL (lisA WL) (lisA FL) S i0 (q + 1)))) := (by rw [path_succ, unhide HX, intVals_append]; exact ho2); clear ho2 hg2; obtain ⟨pa2, pc2, hv2, hI2, _⟩ := Ints.of_owns (unhide HO2) (by omega); subst hv2; have hqc2 := hI2.2.1; have hqm2 := hI2.2.2.1; have HI2 := hide hI2; clear hI2; have hcf2 := (hb5.cell (p := ⟨bF, oF + t, none⟩) hbF).trans hcf) | (go_at_call 29; refine (unhide HC2 _ hb5).mono ?_; rintro e w3 ⟨rfl, hw3⟩; subst w3) | (go_at_call 48; refine (unhide HC3 _ hb5).mono ?_; rintro e w3 ⟨rfl, hb6⟩))
        go_roundw
        case rel =>
          refine ⟨hb5.trans (hb6.mono hb5.size), q + 1, by rw [unhide HNX], by rw [unhide HNX]; exact hyn, by rw [unhide HNX]; exact hyg, owns_later (unhide HO2) hb6, fun s hs => ?_, unhide HND2⟩
          by_cases e : s = q
          · rw [e, unhide HX]; exact unhide HLIV
          · exact unhide HLV s (by omega)
        case measure => have := unhide HQ1; simp [lenV]; omega
end Go.Proofs.Ytihmbfapbkddeaa
