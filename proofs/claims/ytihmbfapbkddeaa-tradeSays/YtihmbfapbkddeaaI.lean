import Derived.Test.YtihmbfapbkddeaaH
namespace Go.Proofs.Ytihmbfapbkddeaa
open Go.RowKit
theorem one_left {S : Ex} {x : Nat} {b : Int} {s : Nat} (h : ¬ (s : Int) = b) : (one S x b).left s = S.left s := if_neg h
def Ex0 (f0 : Nat → Int) : Ex := ⟨fun _ => -2, f0⟩
def ExPost (n : Nat) (wi fi : Nat → List Int) (f0 : Nat → Int) (w0 : World) (e : Ending) (w' : World) : Prop :=
  ∃ g T kk, e = .returned (.slice (some ⟨g, 0, none⟩) n n) ∧ Row w0.heap.size w' (some ⟨g, 0, none⟩) n T.got ∧ Reach n wi fi kk (Ex0 f0) T ∧ Done n T ∧ Below w0.heap.size w0 w'
set_option maxRecDepth 100000 in
set_option maxHeartbeats 8000000 in
theorem exchange_any (n m : Nat) (wa : Option Addr) (wc : Nat) (WL : List Sl) (la : Option Addr) (lc : Nat) (f0 : Nat → Int) (fa : Option Addr) (fc : Nat) (FL : List Sl) (w0 w : World) (hb0 : Below w0.heap.size w0 w)
    (hW : Lsts w0 wa n wc WL) (hF : Lsts w0 fa m fc FL) (hL : Row w0.heap.size w la m f0) (hlc : m ≤ lc) (hlm : lc ≤ maxLen) (hn6 : n ≤ 6) (hm6 : m ≤ 6)
    (hf0 : ∀ s, s < m → 0 ≤ f0 s ∧ f0 s ≤ 6)
    (hr : ∀ i, ∀ x ∈ lisA WL i, 0 ≤ x ∧ x < m) (hr2 : ∀ i, ∀ x ∈ lisA FL i, 0 ≤ x ∧ x < n)
    (hpt : ∀ kk S, Reach n (lisA WL) (lisA FL) kk (Ex0 f0) S → ∀ i, Live n (lisA WL) S i → ∃ k ∈ lisA FL (Bx (lisA WL) S i).toNat, S.got k.toNat = -2) :
    Calls Try.prog 24 #[.slice wa n wc, .slice la m lc, .slice fa m fc] w fun e w' => ExPost n (lisA WL) (lisA FL) f0 w0 e w' := by
  have h1 := hW.2.1
  have h2 := hW.2.2.1
  have h3 := hF.2.1
  have h4 := hF.2.2.1
  have hlm2 := hlm
  unfold maxLen at h2 h4 hlm2
  have HWW := hide hW
  have HFF := hide hF
  have HR := hide hr
  have HR2 := hide hr2
  have HPT := hide hpt
  clear hW hF hr hr2 hpt
  obtain ⟨wA, hwA⟩ : ∃ y, y = w.alloc (.cells #[.int .i64 (-2)] 3) := ⟨_, rfl⟩
  have hbA : Below w.heap.size w wA := by rw [hwA]; go_grown
  have a0 : wA.cell? ⟨w.heap.size, 0, none⟩ = some (.int .i64 (-2)) := by rw [hwA]; simp
  have hLA := hL.later hbA
  have hb0A := hb0.trans (hbA.mono hb0.size)
  have HW := hide hwA
  clear hwA hL
  have CR := hide (rep_any w.heap.size n wA hn6 a0)
  go_enter Try.func24, Try.ntmps24
  go_wp2_with fail
  rw [← unhide HW]
  refine (unhide CR).mono ?_
  rintro e w1 ⟨rfl, hG1, hb1⟩
  have hL1 := hLA.later hb1
  have hb01 := hb0A.trans (hb1.mono hb0A.size)
  have HGA : Hid (∀ b, la = some ⟨b, 0, none⟩ → 0 < m → b ≠ wA.heap.size) := fun b hb hm e => by
    rcases hLA with h | ⟨g, h, _, h3, _⟩
    · omega
    · rw [hb] at h; cases h; omega
  obtain ⟨gG, hgG⟩ : ∃ g, wA.heap.size = g := ⟨_, rfl⟩
  have hgb : w0.heap.size ≤ gG := by rw [← hgG]; exact hb0A.size
  have HL1 := hide hL1
  have hG1' : Row w0.heap.size w1 (some ⟨gG, 0, none⟩) n (fun _ => -2) := by
    rw [hgG] at hG1
    rcases hG1 with h | ⟨g, h1, h2, h3, h4, h5⟩
    · exact .inl h
    · exact .inr ⟨g, h1, by cases h1; omega, h3, h4, h5⟩
  rw [hgG] at HGA ⊢
  have HG1 := hide hG1'
  clear hL1 hG1 hG1' hLA CR hgG
  go_wp2_with fail
  go_loopw [17, 8, 10] (fun i _ _ wr => Below w0.heap.size w0 wr ∧ ∃ (p kk : Nat) (S : Ex), p ≤ n ∧ i = .int .i64 p ∧ Reach n (lisA WL) (lisA FL) kk (Ex0 f0) S ∧ Row w0.heap.size wr (some ⟨gG, 0, none⟩) n S.got ∧ Row w0.heap.size wr la m S.left ∧ (∀ s, s < m → 0 ≤ S.left s ∧ S.left s ≤ 6) ∧ ∀ j, j < p → S.got j ≠ -2) (fun i _ _ _ => n - (intOf i).toNat)
  case atStart => exact ⟨hb01, 0, 0, Ex0 f0, Nat.zero_le _, rfl, rfl, unhide HG1, unhide HL1, hf0, fun j hj => by omega⟩
  case round =>
    obtain ⟨hbr, p, kk, S, hp, rfl, hre, hG, hLe, hbd, hgone⟩ := hrel
    have HGO := hide hgone
    clear hgone HG1 HL1
    by_cases hlt : p < n
    · go_wp2_with fail
      go_loopw [10] (fun _ wr => Below w0.heap.size w0 wr ∧ ∃ (kk : Nat) (S : Ex), Reach n (lisA WL) (lisA FL) kk (Ex0 f0) S ∧ Row w0.heap.size wr (some ⟨gG, 0, none⟩) n S.got ∧ Row w0.heap.size wr la m S.left ∧ (∀ s, s < m → 0 ≤ S.left s ∧ S.left s ≤ 6) ∧ ∀ j, j < p → S.got j ≠ -2) (fun _ wr => waitN (intAt wr gG) n)
      case atStart => exact ⟨hbr, kk, S, hre, hG, hLe, hbd, unhide HGO⟩
      case round =>
        rename World => wq
        clear hre hG hLe hbd HGO
        obtain ⟨hbq, kk, S, hre, hG, hLe, hbd, hgone⟩ := hrel
        have HGO := hide hgone
        clear hgone
        obtain ⟨hgc, hgf, hgl⟩ : (∀ j, j < n → wq.cell? ⟨gG, j, none⟩ = some (.int .i64 (S.got j))) ∧ (∀ j, j < n → wq.frozen? ⟨gG, j, none⟩ = false) ∧ gG < wq.heap.size := by
          rcases hG with h | ⟨g, h1, h2, h3, h4, h5⟩
          · omega
          · cases h1; exact ⟨h4, h5, h3⟩
        have hcp := hgc p hlt
        by_cases hwt : S.got p = -2
        · rw [hwt] at hcp
          have CF := hide (follow_any n m S wa wc WL la lc fa fc FL (some ⟨gG, 0, none⟩) n p wq ((unhide HWW).later hbq) (hLe.cel hlc hlm) ((unhide HFF).later hbq) (hG.cel (Nat.le_refl _) (by unfold maxLen; omega)) hn6 (unhide HR) (unhide HR2) (unhide HPT kk S hre) hlt hwt)
          clear hgc hgf
          go_wp2_with fail
          refine (unhide CF).mono ?_
          rintro e w2 ⟨bR, oR, kR, cR, R, rfl, hbR, hIR, hRG, hb2⟩
          have HQ0 : Hid (waitN (intAt wq gG) n = waitN S.got n) := wait_same n (fun j hj => hG.intAt hj)
          have hb02 := hbq.trans (hb2.mono hbq.size)
          have hG2 := hG.later hb2
          have hL2 := hLe.later hb2
          have hRc := hIR.2.1
          have hRm := hIR.2.2.1
          unfold maxLen at hRm
          have HRN := hide hIR.1
          have HRG := hide hRG
          have HBD := hide hbd
          have hgR : bR ≠ gG := by omega
          have HLR : Hid (∀ b, la = some ⟨b, 0, none⟩ → 0 < m → bR ≠ b) := fun b hb hm => by
            rcases hLe with h | ⟨g, h, _, h3, _⟩
            · omega
            · rw [hb] at h; cases h; omega
          clear CF hG hLe hRG hbd
          go_wp2_with fail
          go_loopw [32, 10] (fun i _ wz => Below w0.heap.size w0 wz ∧ ∃ (r : Nat) (S1 : Ex), r ≤ kR ∧ i = .int .i64 r ∧ Row w0.heap.size wz (some ⟨gG, 0, none⟩) n S1.got ∧ Row w0.heap.size wz la m S1.left ∧ Ints wz (some ⟨bR, oR, none⟩) kR cR R ∧ (∀ s, s < m → 0 ≤ S1.left s ∧ S1.left s ≤ 6) ∧ Do (lisA WL) S (fun i => (i : Int) ∈ R.take r) S1) (fun i _ _ => kR - (intOf i).toNat)
          case atStart => exact ⟨hb02, 0, S, Nat.zero_le _, rfl, hG2, hL2, hIR, unhide HBD, do_zero S _ (fun i h => by simp at h)⟩
          case round =>
            rename World => wz
            clear hG2 hL2 hIR
            obtain ⟨hbz, r, S1, hr, rfl, hG3, hL3, hI3, hbd3, hdo⟩ := hrel
            have HDO := hide hdo
            clear hdo
            by_cases hrk : r < kR
            · have hrl : r < R.length := by have := unhide HRN; omega
              obtain ⟨_, _, e0, hbI, hcI⟩ := hI3.cellAt (by omega)
              cases e0
              have hcr := hcI r hrk
              have hrg := (unhide HRG).rg _ (getD_mem hrl)
              obtain ⟨x, hx⟩ : ∃ x : Nat, R[r]?.getD 0 = x := ⟨(R[r]?.getD 0).toNat, by omega⟩
              rw [hx] at hcr hrg
              have hxn : x < n := by omega
              obtain ⟨hbx, hd2⟩ := do_next (fun i y hy => (unhide HR i y hy).1) (unhide HRG) hrl hx (unhide HDO)
              obtain ⟨z, hz⟩ : ∃ z, Bx (lisA WL) S x = z := ⟨_, rfl⟩
              rw [hz] at hbx hd2
              have hzr : z = -1 ∨ (0 ≤ z ∧ z < m ∧ 0 < S1.left z.toNat) := by
                rcases fst_spec (p := fun s => 0 < S1.left s) (l := lisA WL x) with h | ⟨h, h'⟩
                · exact .inl (hbx.symm.trans h)
                · have := unhide HR x _ h
                  refine .inr ⟨?_, ?_, ?_⟩
                  · rw [← hbx]; exact this.1
                  · rw [← hbx]; exact this.2
                  · rw [← hbx]; exact h'
              obtain ⟨bW, oW, hWa, hbW, hcW⟩ := ((unhide HWW).later hbz).cellAt (by omega)
              subst hWa
              have hcx := hcW x hxn
              have CB := best_any (slAt WL x).la (slAt WL x).ln (slAt WL x).lc (slAt WL x).ints la m lc S1.left wz (((unhide HWW).later hbz).mem hxn) (hL3.cel hlc hlm) (unhide HR x)
              rw [show fst (fun s => 0 < S1.left s) (slAt WL x).ints = z from hbx] at CB
              have C1 := hide CB
              have HD2 := hide hd2
              clear CB hd2 hcW hcI hbx hz hrl hx
              generalize slAt WL x = s1 at *
              obtain ⟨sa, sn, sc, sl⟩ := s1
              simp only at hcx C1
              obtain ⟨hgc, hgf, hgl⟩ : wz.cell? ⟨gG, x, none⟩ = some (.int .i64 (S1.got x)) ∧ wz.frozen? ⟨gG, x, none⟩ = false ∧ gG < wz.heap.size := by
                rcases hG3 with h | ⟨g, h1, h2, h3, h4, h5⟩
                · omega
                · cases h1; exact ⟨h4 x hxn, h5 x hxn, h3⟩
              have hG4 : Row w0.heap.size (wz.setCell ⟨gG, x, none⟩ (.int .i64 z)) (some ⟨gG, 0, none⟩) n (one S1 x z).got := hG3.set hxn (fun j hj hjx => (if_neg hjx).symm) (if_pos rfl).symm
              have hb4 : Below w0.heap.size w0 (wz.setCell ⟨gG, x, none⟩ (.int .i64 z)) := hbz.setCell (p := ⟨gG, x, none⟩) hgb _
              have hI4 : Ints (wz.setCell ⟨gG, x, none⟩ (.int .i64 z)) (some ⟨bR, oR, none⟩) kR cR R := hI3.apart hgR
              have hgx : (wz.setCell ⟨gG, x, none⟩ (.int .i64 z)).cell? ⟨gG, x, none⟩ = some (.int .i64 z) := World.cell?_setCell_same' _ _ _ (by rw [hgc]; rfl)
              rcases hzr with rfl | ⟨hz0, hz1, hz2⟩
              · have hL4 : Row w0.heap.size (wz.setCell ⟨gG, x, none⟩ (.int .i64 (-1))) la m (one S1 x (-1)).left := by
                  by_cases hm0 : m = 0
                  · exact .inl hm0
                  · refine (hL3.apart (fun b hb => unhide HGA b hb (by omega))).same (fun s hs => ?_)
                    exact (one_left (by omega)).symm
                have HP : Hid (Row w0.heap.size (wz.setCell ⟨gG, x, none⟩ (.int .i64 (-1))) (some ⟨gG, 0, none⟩) n (one S1 x (-1)).got ∧ Row w0.heap.size (wz.setCell ⟨gG, x, none⟩ (.int .i64 (-1))) la m (one S1 x (-1)).left ∧ Ints (wz.setCell ⟨gG, x, none⟩ (.int .i64 (-1))) (some ⟨bR, oR, none⟩) kR cR R ∧ (∀ s, s < m → 0 ≤ (one S1 x (-1)).left s ∧ (one S1 x (-1)).left s ≤ 6)) := ⟨hG4, hL4, hI4, fun s hs => by
                  have e : (one S1 x (-1)).left s = S1.left s := one_left (by omega)
                  rw [e]; exact hbd3 s hs⟩
                have HB4 := hide hb4
                clear hG4 hL4 hI4 hb4 hG3 hL3 hI3 hbd3
                go_wp2_with (go_at_call 29; refine (unhide C1).mono ?_; rintro e w4 ⟨rfl, hw4⟩; subst w4)
                go_roundw
                case rel => exact ⟨unhide HB4, r + 1, one S1 x (-1), by omega, by go_num, (unhide HP).1, (unhide HP).2.1, (unhide HP).2.2.1, (unhide HP).2.2.2, unhide HD2⟩
                case measure => simp [intOf]; omega
              · obtain ⟨t, rfl⟩ : ∃ t : Nat, z = t := ⟨z.toNat, by omega⟩
                rw [Int.toNat_natCast] at hz2
                have htm : t < m := by omega
                have hbd4 := hbd3 t htm
                obtain ⟨gL, hla, hgL, hgLs, hlc4, hlf4⟩ : ∃ gL, la = some ⟨gL, 0, none⟩ ∧ w0.heap.size ≤ gL ∧ gL < wz.heap.size ∧ wz.cell? ⟨gL, t, none⟩ = some (.int .i64 (S1.left t)) ∧ wz.frozen? ⟨gL, t, none⟩ = false := by
                  rcases hL3 with h | ⟨g, h1, h2, h3, h4, h5⟩
                  · omega
                  · exact ⟨g, h1, h2, h3, h4 t htm, h5 t htm⟩
                subst hla
                have hne : gL ≠ gG := unhide HGA gL rfl (by omega)
                have hneR : bR ≠ gL := unhide HLR gL rfl (by omega)
                have hlc5 : (wz.setCell ⟨gG, x, none⟩ (.int .i64 t)).cell? ⟨gL, t, none⟩ = some (.int .i64 (S1.left t)) := by
                  rw [World.cell?_setCell_other _ _ _ _ (by intro hh; cases hh; exact hne rfl)]; exact hlc4
                have hlf5 : (wz.setCell ⟨gG, x, none⟩ (.int .i64 t)).frozen? ⟨gL, t, none⟩ = false := by rw [World.frozen?_setCell]; exact hlf4
                have HP : Hid (∀ W, W = (wz.setCell ⟨gG, x, none⟩ (.int .i64 t)).setCell ⟨gL, t, none⟩ (.int .i64 (S1.left t - 1)) → Below w0.heap.size w0 W ∧ Row w0.heap.size W (some ⟨gG, 0, none⟩) n (one S1 x t).got ∧ Row w0.heap.size W (some ⟨gL, 0, none⟩) m (one S1 x t).left ∧ Ints W (some ⟨bR, oR, none⟩) kR cR R ∧ (∀ s, s < m → 0 ≤ (one S1 x t).left s ∧ (one S1 x t).left s ≤ 6)) := fun W hWe => by
                  subst hWe
                  refine ⟨hb4.setCell (p := ⟨gL, t, none⟩) hgL _, hG4.apart (fun b hb => by cases hb; exact Ne.symm hne), ?_, hI4.apart hneR, fun s hs => ?_⟩
                  · exact (hL3.apart (fun b hb => by cases hb; exact hne)).set htm (fun j hj hjt => (one_left (by omega)).symm) (if_pos rfl).symm
                  · have := hbd3 s hs
                    by_cases e : s = t
                    · subst e
                      have e2 : (one S1 x s).left s = S1.left s - 1 := if_pos rfl
                      rw [e2]; omega
                    · have e2 : (one S1 x t).left s = S1.left s := one_left (by omega)
                      rw [e2]; exact this
                have zw : IntKind.i64.wrap (S1.left t - 1) = S1.left t - 1 := by rw [IntKind.wrap_i64]; omega
                have hbz1 : ((t : Int) != -1) = true := by simp
                clear hG4 hI4 hb4 hG3 hL3 hI3 hbd3
                go_wp2_with (go_at_call 29; refine (unhide C1).mono ?_; rintro e w4 ⟨rfl, hw4⟩; subst w4)
                have HP2 := unhide HP _ rfl
                go_roundw
                case rel => exact ⟨HP2.1, r + 1, one S1 x t, by omega, by go_num, HP2.2.1, HP2.2.2.1, HP2.2.2.2.1, HP2.2.2.2.2, unhide HD2⟩
                case measure => simp [intOf]; omega
            · obtain rfl : r = kR := by omega
              have hDo := unhide HDO
              rw [List.take_of_length_le (by have := unhide HRN; omega)] at hDo
              have HN : Hid (∀ j, S1.got j = -2 → S.got j = -2 ∧ ¬ (j : Int) ∈ R) := fun j hj => by
                have hnj : ¬ (j : Int) ∈ R := fun hjR => by
                  have := hDo.1 j hjR
                  rw [hj] at this
                  rcases fst_spec (p := fun s => 0 < S.left s) (l := lisA WL j) with h | ⟨h, _⟩
                  · have e : Bx (lisA WL) S j = -1 := h
                    omega
                  · have := unhide HR j _ h
                    have e : Bx (lisA WL) S j = fst (fun s => 0 < S.left s) (lisA WL j) := rfl
                    omega
                exact ⟨by rw [← hDo.2.1 j hnj]; exact hj, hnj⟩
              have HMS : Hid (waitN (intAt wz gG) n < waitN (intAt wq gG) n) := by
                show _ < _
                rw [unhide HQ0, wait_same (g := S1.got) n (fun j hj => hG3.intAt hj)]
                refine wait_lt n (fun j _ hj => (unhide HN j hj).1) ?_
                obtain ⟨y, hy⟩ := List.exists_mem_of_ne_nil R (unhide HRG).ne
                have hyr := (unhide HRG).rg y hy
                refine ⟨y.toNat, by omega, hyr.2.2, fun h => (unhide HN _ h).2 ?_⟩
                rw [Int.toNat_of_nonneg hyr.1]; exact hy
              have HRE : Hid (Reach n (lisA WL) (lisA FL) (kk + 1) (Ex0 f0) S1) := reach_add kk 1 _ _ _ hre ⟨_, S1, (unhide HRG).ok, hDo, rfl⟩
              clear hDo
              go_wp2
              go_roundw
              case rel => exact ⟨hbz, kk + 1, S1, unhide HRE, hG3, hL3, hbd3, fun j hj h => unhide HGO j hj (unhide HN j h).1⟩
              case measure => exact unhide HMS
        · have hbz : (S.got p == -2) = false := by simpa using hwt
          clear hgc hgf
          go_wp2
          go_roundw
          case rel =>
            refine ⟨hbq, p + 1, kk, S, by omega, by go_num, hre, hG, hLe, hbd, fun j hj => ?_⟩
            by_cases e : j = p
            · rw [e]; exact hwt
            · exact unhide HGO j (by omega)
          case measure => simp [intOf]; omega
    · obtain rfl : p = n := by omega
      go_wp2
      go_ret
      exact ⟨gG, S, kk, rfl, hG, hre, unhide HGO, hbr⟩
end Go.Proofs.Ytihmbfapbkddeaa
