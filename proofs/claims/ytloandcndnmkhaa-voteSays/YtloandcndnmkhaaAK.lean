import Derived.Test.YtloandcndnmkhaaAG
import Derived.Test.YtloandcndnmkhaaLL
import Derived.Test.YtloandcndnmkhaaOO
import Derived.Test.YtloandcndnmkhaaQQ
import Derived.Test.YtloandcndnmkhaaRR
import Derived.Test.YtloandcndnmkhaaT
import Derived.Test.YtloandcndnmkhaaJJ
import Derived.Test.YtloandcndnmkhaaUU
import Derived.Test.YtloandcndnmkhaaVV
import Derived.Test.YtloandcndnmkhaaYY
namespace Go.Proofs.Ytloandcndnmkhaa
open Go.RowKit
/-- A list and no error; a list. -/
def LP (L : List Int) (w : World) (e : Ending) (w' : World) : Prop := ∃ aa k cc, e = .returned (.tuple #[.slice aa k cc, .int .i64 0]) ∧ Ints w' aa k cc L ∧ Below w.heap.size w w'
def LR (L : List Int) (w : World) (e : Ending) (w' : World) : Prop := ∃ aa k cc, e = .returned (.slice aa k cc) ∧ Ints w' aa k cc L ∧ Below w.heap.size w w'
def fiL (n : Nat) (l : List Bal) : List Int := (List.range n).map (scF pt1 l l.length)
def boL (n : Nat) (l : List Bal) : List Int := (List.range n).map (scF (pt2 n) l l.length)
def coL (n : Nat) (l : List Bal) : List Int := (List.range n).map fun x => cpT (prf l l.length) x n
open Classical in
noncomputable def smiL (n : Nat) (l : List Bal) : List Int := if h : ∃ L, LeastP (prf l l.length) n L then smL (Classical.choose h) n else []
theorem smi_eq {n L : Nat} {l : List Bal} (hn : n ≤ 6) (h : LeastP (prf l l.length) n L) : smL L n = smiL n l := by
  unfold smiL
  have he : ∃ L, LeastP (prf l l.length) n L := ⟨L, h⟩
  rw [dif_pos he, least_uniq hn h (Classical.choose_spec he)]
def keL (n : Nat) (l : List Bal) : List Int := (bestF (fun o => agS (prf l l.length) o n n) (permsL (upL n))).getD []
theorem firsts_lp (n : Nat) (a : Option Addr) (m c : Nat) (l : List Bal) (w : World) (h : Bals w a m c l) (hg : Good n l) : Calls Try.prog 12 #[.int .i64 n, .slice a m c] w fun e w' => LP (fiL n l) w e w' :=
  (firsts_any n a m c l w h hg).mono (by rintro e w' ⟨⟨G, rfl, hv⟩, hb⟩; exact ⟨_, _, _, rfl, hv.ints hg.2.1, hb⟩)
theorem firsts_lr (n : Nat) (a : Option Addr) (m c : Nat) (l : List Bal) (w : World) (h : Bals w a m c l) (hg : Good n l) : Calls Try.prog 32 #[.int .i64 n, .slice a m c] w fun e w' => LR (fiL n l) w e w' :=
  (firstsR_any n a m c l w h hg).mono (by rintro e w' ⟨⟨G, rfl, hv⟩, hb⟩; exact ⟨_, _, _, rfl, hv.ints hg.2.1, hb⟩)
theorem borda_lp (n : Nat) (a : Option Addr) (m c : Nat) (l : List Bal) (w : World) (h : Bals w a m c l) (hg : Good n l) : Calls Try.prog 13 #[.int .i64 n, .slice a m c] w fun e w' => LP (boL n l) w e w' :=
  (borda_any n a m c l w h hg).mono (by rintro e w' ⟨⟨G, rfl, hv⟩, hb⟩; exact ⟨_, _, _, rfl, hv.ints hg.2.1, hb⟩)
theorem borda_lr (n : Nat) (a : Option Addr) (m c : Nat) (l : List Bal) (w : World) (h : Bals w a m c l) (hg : Good n l) : Calls Try.prog 33 #[.int .i64 n, .slice a m c] w fun e w' => LR (boL n l) w e w' :=
  (bordaR_any n a m c l w h hg).mono (by
    rintro e w' ⟨aa, cc, rfl, hI, hb⟩
    refine ⟨_, _, _, rfl, ?_, hb⟩
    have : boL n l = (List.range n).map fun x => boT (prf l l.length) x n := List.map_congr_left fun x hx => (borda_same hg (List.mem_range.1 hx) l.length (Nat.le_refl _)).symm
    rw [this]
    exact hI)
theorem copeland_lp (n : Nat) (a : Option Addr) (m c : Nat) (l : List Bal) (w : World) (h : Bals w a m c l) (hg : Good n l) : Calls Try.prog 14 #[.int .i64 n, .slice a m c] w fun e w' => LP (coL n l) w e w' :=
  (copeland_any n a m c l w h hg).mono (by rintro e w' ⟨⟨G, rfl, hv⟩, hb⟩; exact ⟨_, _, _, rfl, hv.ints hg.2.1, hb⟩)
theorem copeland_lr (n : Nat) (a : Option Addr) (m c : Nat) (l : List Bal) (w : World) (h : Bals w a m c l) (hg : Good n l) : Calls Try.prog 34 #[.int .i64 n, .slice a m c] w fun e w' => LR (coL n l) w e w' :=
  (copelandR_any n a m c l w h hg).mono (by rintro e w' ⟨aa, cc, rfl, hI, hb⟩; exact ⟨_, _, _, rfl, hI, hb⟩)
theorem smith_lp (n : Nat) (a : Option Addr) (m c : Nat) (l : List Bal) (w : World) (h : Bals w a m c l) (hg : Good n l) : Calls Try.prog 15 #[.int .i64 n, .slice a m c] w fun e w' => LP (smiL n l) w e w' :=
  (smith_any n a m c l w h hg).mono (by rintro e w' ⟨L, aa, cc, hL, rfl, hI, hb⟩; rw [smi_eq hg.2.1 hL] at hI ⊢; exact ⟨_, _, _, rfl, hI, hb⟩)
theorem smith_lr (n : Nat) (a : Option Addr) (m c : Nat) (l : List Bal) (w : World) (h : Bals w a m c l) (hg : Good n l) : Calls Try.prog 35 #[.int .i64 n, .slice a m c] w fun e w' => LR (smiL n l) w e w' :=
  (smithR_any n a m c l w h hg).mono (by rintro e w' ⟨L, aa, cc, hL, rfl, hI, hb⟩; rw [smi_eq hg.2.1 hL] at hI ⊢; exact ⟨_, _, _, rfl, hI, hb⟩)
theorem schulze_lp (n : Nat) (a : Option Addr) (m c : Nat) (l : List Bal) (w : World) (h : Bals w a m c l) (hg : Good n l) : Calls Try.prog 16 #[.int .i64 n, .slice a m c] w fun e w' => LP (schL (fw (prf l l.length) n) n n) w e w' :=
  (schulze_any n a m c l w h hg).mono (by rintro e w' ⟨aa, cc, rfl, hI, hb⟩; exact ⟨_, _, _, rfl, hI, hb⟩)
theorem schulze_lr (n : Nat) (a : Option Addr) (m c : Nat) (l : List Bal) (w : World) (h : Bals w a m c l) (hg : Good n l) : Calls Try.prog 36 #[.int .i64 n, .slice a m c] w fun e w' => LR (schL (fw (prf l l.length) n) n n) w e w' :=
  (schulzeR_of n a m c _ w hg.1 hg.2.1 (pathsR_any n a m c l w h hg)).mono (by rintro e w' ⟨aa, cc, rfl, hI, hb⟩; exact ⟨_, _, _, rfl, hI, hb⟩)
theorem runoff_lp (n : Nat) (a : Option Addr) (m c : Nat) (l : List Bal) (w : World) (h : Bals w a m c l) (hg : Good n l) : Calls Try.prog 17 #[.int .i64 n, .slice a m c] w fun e w' => LP (roL l n n) w e w' :=
  (runoff_any n a m c l w h hg).mono (by rintro e w' ⟨aa, cc, rfl, hI, hb⟩; exact ⟨_, _, _, rfl, hI, hb⟩)
theorem runoff_lr (n : Nat) (a : Option Addr) (m c : Nat) (l : List Bal) (w : World) (h : Bals w a m c l) (hg : Good n l) : Calls Try.prog 37 #[.int .i64 n, .slice a m c] w fun e w' => LR (roL l n n) w e w' :=
  (runoffR_any n a m c l w h hg).mono (by rintro e w' ⟨aa, cc, rfl, hI, hb⟩; exact ⟨_, _, _, rfl, hI, hb⟩)
theorem kemeny_lp (n : Nat) (a : Option Addr) (m c : Nat) (l : List Bal) (w : World) (h : Bals w a m c l) (hg : Good n l) (h5 : n ≤ 5) : Calls Try.prog 18 #[.int .i64 n, .slice a m c] w fun e w' => LP (keL n l) w e w' :=
  (kemeny_any n a m c l w h hg).mono (by
    rintro e w' ⟨q, aa, cc, hq, rfl, hI, hb⟩
    rw [grL_perms n hg.1 h5] at hq
    refine ⟨_, _, _, rfl, ?_, hb⟩
    unfold keL
    rw [hq]
    exact hI)
theorem kemeny_lr (n : Nat) (a : Option Addr) (m c : Nat) (l : List Bal) (w : World) (h : Bals w a m c l) (hg : Good n l) : Calls Try.prog 38 #[.int .i64 n, .slice a m c] w fun e w' => LR (keL n l) w e w' :=
  (kemenyR_any n a m c l w h hg).mono (by
    rintro e w' ⟨⟨q, aa, cc, hq, rfl, hI⟩, hb⟩
    refine ⟨_, _, _, rfl, ?_, hb⟩
    unfold keL
    rw [hq]
    exact hI)
/-- A table's rows as lists. -/
theorem Tab.lsts {base : Nat} {W : World} {G n : Nat} {Bf : Nat → Nat} {f : Nat → Nat → Int} (h : Tab base W G Bf n f) (hn : n ≤ 6) : ∃ L, Lsts W (some ⟨G, 0, none⟩) n n L ∧ lists L = rowsL f n n := by
  obtain ⟨h1, h2, h3, h4, h5, h6, h7⟩ := h
  refine ⟨(List.range n).map fun i => ⟨some ⟨Bf i, 0, none⟩, n, n, (List.range n).map (f i)⟩, ⟨by simp, Nat.le_refl _, by unfold maxLen; omega, fun s hs => ?_, .inr ⟨G, 0, rfl, h2, fun j hj => ?_⟩⟩, ?_⟩
  · obtain ⟨i, hi, rfl⟩ := List.mem_map.1 hs
    rw [List.mem_range] at hi
    refine ⟨by simp, Nat.le_refl _, show n ≤ maxLen by unfold maxLen; omega, .inr ⟨Bf i, 0, rfl, (h4 i hi).2.1, fun j hj => ?_⟩⟩
    rw [Nat.zero_add, h6 i j hi hj]
    simp [hj]
  · rw [Nat.zero_add, h3 j hj]
    unfold slAt
    simp [hj]
  · unfold lists rowsL
    rw [List.map_map]
    rfl
/-- No machine holds more. -/
def Small (l : List Bal) : Prop := ∀ g ∈ l, g.on ≤ 140737488351232
theorem Small.at {l : List Bal} (h : Small l) {k : Nat} (hk : k < l.length) : (balAt l k).on ≤ 140737488351232 := by
  refine h _ ?_
  unfold balAt
  rw [List.getElem?_eq_getElem hk]
  simp
def HeavyPost (w : World) (e : Ending) (w' : World) : Prop := ∃ hv : Bool, e = .returned (.bool hv) ∧ w' = w
set_option maxHeartbeats 1000000 in
theorem heavy_any (a : Option Addr) (n c : Nat) (l : List Bal) (w : World) (h : Bals w a n c l) (hs : Small l) (hm0 : n ≤ 140737488351232) :
    Calls Try.prog 7 #[.slice a n c] w fun e w' => HeavyPost w e w' := by
  obtain ⟨hn, hc, hm, hg, hrow⟩ := h
  unfold maxLen at hm
  have HN := hide hn
  clear hn hg
  go_enter Try.func7, Try.ntmps7
  go_wp2
  go_loop [3, 4] (fun nv iv => ∃ (z : Int) (k : Nat), nv = .int .i64 z ∧ iv = .int .i64 k ∧ k ≤ n ∧ 0 ≤ z ∧ z ≤ 1000000000000000) (fun _ iv => n - (intOf iv).toNat)
  case atStart => exact ⟨_, 0, rfl, rfl, Nat.zero_le _, by omega, by omega⟩
  case round =>
    obtain ⟨z, k, rfl, rfl, hk, hz0, hz1⟩ := hrel
    by_cases hlt : k < n
    · by_cases hz5 : z ≤ 500
      · obtain ⟨b, off, rfl, hb, hcell⟩ : ∃ b off, a = some ⟨b, off, none⟩ ∧ b < w.heap.size ∧ ∀ j, j < n →
            w.cell? ⟨b, off + j * 2, none⟩ = some (.int .i64 (balAt l j).count) ∧
            w.cell? ⟨b, off + j * 2 + 1, none⟩ = some (.slice (balAt l j).oa (balAt l j).on (balAt l j).oc) := by
          rcases hrow with hz | hrow
          · omega
          · exact hrow
        obtain ⟨h1, h2⟩ := hcell k hlt
        have hsm := hs.at (show k < l.length by have := unhide HN; omega)
        clear hcell hrow
        generalize balAt l k = G at *
        go_wp2
        refine ⟨⟨_, k+1, rfl, by go_num, by omega, by omega, by omega⟩, by simp [intOf]; omega⟩
      · go_wp2
        go_ret
        exact ⟨_, rfl, rfl⟩
    · go_wp2
      go_ret
      exact ⟨_, rfl, rfl⟩
set_option maxRecDepth 100000 in
set_option maxHeartbeats 4000000 in
/-- voteLists: the seven lists are the document's. -/
theorem voteLists_any (n : Nat) (a : Option Addr) (m c : Nat) (l : List Bal) (w : World) (h : Bals w a m c l) (hg : Good n l) (h5 : n ≤ 5) :
    Calls Try.prog 10 #[.int .i64 n, .slice a m c] w fun e w' => e = .returned (.bool true) ∧ Below w.heap.size w w' := by
  have P1 := hide (fun W (hb : Below w.heap.size w W) => firsts_lp n a m c l W (h.later hb) hg)
  have P2 := hide (fun W (hb : Below w.heap.size w W) => borda_lp n a m c l W (h.later hb) hg)
  have P3 := hide (fun W (hb : Below w.heap.size w W) => copeland_lp n a m c l W (h.later hb) hg)
  have P4 := hide (fun W (hb : Below w.heap.size w W) => smith_lp n a m c l W (h.later hb) hg)
  have P5 := hide (fun W (hb : Below w.heap.size w W) => schulze_lp n a m c l W (h.later hb) hg)
  have P6 := hide (fun W (hb : Below w.heap.size w W) => runoff_lp n a m c l W (h.later hb) hg)
  have P7 := hide (fun W (hb : Below w.heap.size w W) => kemeny_lp n a m c l W (h.later hb) hg h5)
  have R1 := hide (fun W (hb : Below w.heap.size w W) => firsts_lr n a m c l W (h.later hb) hg)
  have R2 := hide (fun W (hb : Below w.heap.size w W) => borda_lr n a m c l W (h.later hb) hg)
  have R3 := hide (fun W (hb : Below w.heap.size w W) => copeland_lr n a m c l W (h.later hb) hg)
  have R4 := hide (fun W (hb : Below w.heap.size w W) => smith_lr n a m c l W (h.later hb) hg)
  have R5 := hide (fun W (hb : Below w.heap.size w W) => schulze_lr n a m c l W (h.later hb) hg)
  have R6 := hide (fun W (hb : Below w.heap.size w W) => runoff_lr n a m c l W (h.later hb) hg)
  have R7 := hide (fun W (hb : Below w.heap.size w W) => kemeny_lr n a m c l W (h.later hb) hg)
  generalize fiL n l = L1 at *
  generalize boL n l = L2 at *
  generalize coL n l = L3 at *
  generalize smiL n l = L4 at *
  generalize schL (fw (prf l l.length) n) n n = L5 at *
  generalize roL l n n = L6 at *
  generalize keL n l = L7 at *
  clear h hg
  go_enter Try.func10, Try.ntmps10
  go_wp2_with fail
  refine (unhide P1 w (Below.refl _ _)).mono ?_
  rintro e w1 ⟨a1, k1, c1, rfl, i1, b1⟩
  have I1 := hide i1
  clear i1
  go_wp2_with fail
  refine (unhide P2 w1 b1).mono ?_
  rintro e w2 ⟨a2, k2, c2, rfl, i2, b2⟩
  have I1 := hide ((unhide I1).later b2)
  have I2 := hide i2
  have b2 := b1.trans (b2.mono b1.size)
  clear i2
  go_wp2_with fail
  refine (unhide P3 w2 b2).mono ?_
  rintro e w3 ⟨a3, k3, c3, rfl, i3, b3⟩
  have I1 := hide ((unhide I1).later b3)
  have I2 := hide ((unhide I2).later b3)
  have I3 := hide i3
  have b3 := b2.trans (b3.mono b2.size)
  clear i3
  go_wp2_with fail
  refine (unhide P4 w3 b3).mono ?_
  rintro e w4 ⟨a4, k4, c4, rfl, i4, b4⟩
  have I1 := hide ((unhide I1).later b4)
  have I2 := hide ((unhide I2).later b4)
  have I3 := hide ((unhide I3).later b4)
  have I4 := hide i4
  have b4 := b3.trans (b4.mono b3.size)
  clear i4
  go_wp2_with fail
  refine (unhide R1 w4 b4).mono ?_
  rintro e w5 ⟨ra1, rk1, rc1, rfl, ri1, b5⟩
  have I1 := hide ((unhide I1).later b5)
  have I2 := hide ((unhide I2).later b5)
  have I3 := hide ((unhide I3).later b5)
  have I4 := hide ((unhide I4).later b5)
  have C1 := hide (intsL_any _ _ _ _ _ _ _ _ w5 (unhide I1) ri1 rfl)
  have b5 := b4.trans (b5.mono b4.size)
  clear ri1 I1
  go_wp2_with fail
  refine (unhide C1).mono ?_
  rintro e w6 ⟨rfl, b6⟩
  have I2 := hide ((unhide I2).later b6)
  have I3 := hide ((unhide I3).later b6)
  have I4 := hide ((unhide I4).later b6)
  have b6 := b5.trans (b6.mono b5.size)
  clear C1
  go_wp2_with fail
  refine (unhide R2 w6 b6).mono ?_
  rintro e w7 ⟨ra2, rk2, rc2, rfl, ri2, b7⟩
  have I2 := hide ((unhide I2).later b7)
  have I3 := hide ((unhide I3).later b7)
  have I4 := hide ((unhide I4).later b7)
  have C2 := hide (intsL_any _ _ _ _ _ _ _ _ w7 (unhide I2) ri2 rfl)
  have b7 := b6.trans (b7.mono b6.size)
  clear ri2 I2
  go_wp2_with fail
  refine (unhide C2).mono ?_
  rintro e w8 ⟨rfl, b8⟩
  have I3 := hide ((unhide I3).later b8)
  have I4 := hide ((unhide I4).later b8)
  have b8 := b7.trans (b8.mono b7.size)
  clear C2
  go_wp2_with fail
  refine (unhide R3 w8 b8).mono ?_
  rintro e w9 ⟨ra3, rk3, rc3, rfl, ri3, b9⟩
  have I3 := hide ((unhide I3).later b9)
  have I4 := hide ((unhide I4).later b9)
  have C3 := hide (intsL_any _ _ _ _ _ _ _ _ w9 (unhide I3) ri3 rfl)
  have b9 := b8.trans (b9.mono b8.size)
  clear ri3 I3
  go_wp2_with fail
  refine (unhide C3).mono ?_
  rintro e w10 ⟨rfl, b10⟩
  have I4 := hide ((unhide I4).later b10)
  have b10 := b9.trans (b10.mono b9.size)
  clear C3
  go_wp2_with fail
  refine (unhide R4 w10 b10).mono ?_
  rintro e w11 ⟨ra4, rk4, rc4, rfl, ri4, b11⟩
  have I4 := hide ((unhide I4).later b11)
  have C4 := hide (intsL_any _ _ _ _ _ _ _ _ w11 (unhide I4) ri4 rfl)
  have b11 := b10.trans (b11.mono b10.size)
  clear ri4 I4
  go_wp2_with fail
  refine (unhide C4).mono ?_
  rintro e w12 ⟨rfl, b12⟩
  have b12 := b11.trans (b12.mono b11.size)
  clear C4
  go_wp2_with fail
  refine (unhide P5 w12 b12).mono ?_
  rintro e w13 ⟨a5, k5, c5, rfl, i5, b13⟩
  have I5 := hide i5
  have b13 := b12.trans (b13.mono b12.size)
  clear i5
  go_wp2_with fail
  refine (unhide P6 w13 b13).mono ?_
  rintro e w14 ⟨a6, k6, c6, rfl, i6, b14⟩
  have I5 := hide ((unhide I5).later b14)
  have I6 := hide i6
  have b14 := b13.trans (b14.mono b13.size)
  clear i6
  go_wp2_with fail
  refine (unhide P7 w14 b14).mono ?_
  rintro e w15 ⟨a7, k7, c7, rfl, i7, b15⟩
  have I5 := hide ((unhide I5).later b15)
  have I6 := hide ((unhide I6).later b15)
  have I7 := hide i7
  have b15 := b14.trans (b15.mono b14.size)
  clear i7
  go_wp2_with fail
  refine (unhide R5 w15 b15).mono ?_
  rintro e w16 ⟨ra5, rk5, rc5, rfl, ri5, b16⟩
  have I5 := hide ((unhide I5).later b16)
  have I6 := hide ((unhide I6).later b16)
  have I7 := hide ((unhide I7).later b16)
  have C5 := hide (intsL_any _ _ _ _ _ _ _ _ w16 (unhide I5) ri5 rfl)
  have b16 := b15.trans (b16.mono b15.size)
  clear ri5 I5
  go_wp2_with fail
  refine (unhide C5).mono ?_
  rintro e w17 ⟨rfl, b17⟩
  have I6 := hide ((unhide I6).later b17)
  have I7 := hide ((unhide I7).later b17)
  have b17 := b16.trans (b17.mono b16.size)
  clear C5
  go_wp2_with fail
  refine (unhide R6 w17 b17).mono ?_
  rintro e w18 ⟨ra6, rk6, rc6, rfl, ri6, b18⟩
  have I6 := hide ((unhide I6).later b18)
  have I7 := hide ((unhide I7).later b18)
  have C6 := hide (intsL_any _ _ _ _ _ _ _ _ w18 (unhide I6) ri6 rfl)
  have b18 := b17.trans (b18.mono b17.size)
  clear ri6 I6
  go_wp2_with fail
  refine (unhide C6).mono ?_
  rintro e w19 ⟨rfl, b19⟩
  have I7 := hide ((unhide I7).later b19)
  have b19 := b18.trans (b19.mono b18.size)
  clear C6
  go_wp2_with fail
  refine (unhide R7 w19 b19).mono ?_
  rintro e w20 ⟨ra7, rk7, rc7, rfl, ri7, b20⟩
  have I7 := hide ((unhide I7).later b20)
  have C7 := hide (intsL_any _ _ _ _ _ _ _ _ w20 (unhide I7) ri7 rfl)
  have b20 := b19.trans (b20.mono b19.size)
  clear ri7 I7
  go_wp2_with fail
  refine (unhide C7).mono ?_
  rintro e w21 ⟨rfl, b21⟩
  have b21 := b20.trans (b21.mono b20.size)
  clear C7
  go_wp2_with fail
  go_ret
  exact ⟨rfl, b21⟩
set_option maxRecDepth 100000 in
set_option maxHeartbeats 1000000 in
theorem against_f (n : Nat) (a : Option Addr) (m c : Nat) (l : List Bal) (oa : Option Addr) (oc : Nat) (o : List Int) (w : World) (h : Bals w a m c l) (hg : Good n l) (hI : Ints w oa n oc o) (ho : ordE o n = 0) :
    Calls Try.prog 22 #[.int .i64 n, .slice a m c, .slice oa n oc] w fun e w' => e = .returned (two (.int .i64 (agS (prf l l.length) o n n)) 0) ∧ Below w.heap.size w w' := by
  have CP := hide (pairs_any n a m c l w h hg)
  have hn1 := hg.1
  have hn6 := hg.2.1
  have HPP : Hid (∀ x y, 0 ≤ prf l l.length x y ∧ prf l l.length x y ≤ 30000) := fun x y => by
    have := prf_le hg x y l.length (Nat.le_refl _)
    have := hg.2.2.1
    omega
  have HI := hide hI
  have HO := hide ho
  clear h hg hI ho
  generalize prf l l.length = p at *
  go_enter Try.func22, Try.ntmps22
  go_wp2_with fail
  refine (unhide CP).mono ?_
  rintro e w1 ⟨G, Bf, rfl, hT, hb1⟩
  unfold two
  have CM := ordersMay_any oa n oc o n w1 ((unhide HI).later hb1)
  rw [unhide HO] at CM
  have CM := hide CM
  have CA := hide (against_any w.heap.size w1 G Bf n p oa oc o hT ((unhide HI).later hb1) (unhide HO) hn1 hn6 (unhide HPP))
  clear hT
  go_wp2_with fail
  refine (unhide CM).mono ?_
  rintro e w2 ⟨rfl, hw2⟩
  subst w2
  go_wp2_with fail
  refine (unhide CA).mono ?_
  rintro e w2 ⟨rfl, hw2⟩
  subst w2
  go_wp2_with fail
  go_ret2
  exact ⟨rfl, hb1⟩
set_option maxRecDepth 100000 in
set_option maxHeartbeats 4000000 in
theorem against_bad (n : Nat) (a : Option Addr) (m c : Nat) (l : List Bal) (oa : Option Addr) (on oc : Nat) (o : List Int) (w : World) (h : Bals w a m c l) (hg : Good n l) (hI : Ints w oa on oc o) (ho : ¬ ordE o n = 0) :
    Calls Try.prog 22 #[.int .i64 n, .slice a m c, .slice oa on oc] w fun e w' => e = .returned (two (.int .i64 0) (ordE o n)) ∧ Below w.heap.size w w' := by
  have CP := hide (pairs_any n a m c l w h hg)
  have hn1 := hg.1
  have hn6 := hg.2.1
  have HI := hide hI
  clear h hg hI
  generalize prf l l.length = p at *
  go_enter Try.func22, Try.ntmps22
  go_wp2_with fail
  refine (unhide CP).mono ?_
  rintro e w1 ⟨G, Bf, rfl, hT, hb1⟩
  unfold two
  have CM := hide (ordersMay_any oa on oc o n w1 ((unhide HI).later hb1))
  clear hT
  obtain ⟨z, hz⟩ : ∃ z, ordE o n = z := ⟨_, rfl⟩
  rw [hz] at CM ho
  have HZ := hide hz
  clear hz
  go_wp2_with fail
  refine (unhide CM).mono ?_
  rintro e w2 ⟨rfl, hw2⟩
  subst w2
  go_wp2_with fail
  go_ret2
  exact ⟨by rw [unhide HZ]; rfl, hb1⟩
set_option maxRecDepth 100000 in
set_option maxHeartbeats 4000000 in
/-- voteOthers: the tables, the one that beats all, and what speaks against an order are the document's. -/
theorem voteOthers_any (n : Nat) (a : Option Addr) (m c : Nat) (l : List Bal) (oa : Option Addr) (on oc : Nat) (o : List Int) (w : World) (h : Bals w a m c l) (hg : Good n l) (hI : Ints w oa on oc o) :
    Calls Try.prog 11 #[.int .i64 n, .slice a m c, .slice oa on oc] w fun e w' => e = .returned (.bool true) ∧ Below w.heap.size w w' := by
  have hn6 := hg.2.1
  have P1 := hide (pairs_any n a m c l w h hg)
  have P2 := hide (fun W (hb : Below w.heap.size w W) => paths_any n a m c l W (h.later hb) hg)
  have P3 := hide (fun W (hb : Below w.heap.size w W) => condorcet_any n a m c l W (h.later hb) hg)
  have R1 := hide (fun W (hb : Below w.heap.size w W) => pairsR_any n a m c l W (h.later hb) hg)
  have R2 := hide (fun W (hb : Below w.heap.size w W) => pathsR_any n a m c l W (h.later hb) hg)
  have R3 := hide (fun W (hb : Below w.heap.size w W) => condR_any n a m c l W (h.later hb) hg)
  have R4 := hide (fun W (hb : Below w.heap.size w W) => orderOf_any oa on oc o n W (hI.later hb))
  have P4 : Hid (∀ W, Below w.heap.size w W → ∃ z : Int, (¬ ordE o n = 0 → z = 0) ∧ Calls Try.prog 22 #[.int .i64 n, .slice a m c, .slice oa on oc] W (fun e w' => e = .returned (two (.int .i64 z) (ordE o n)) ∧ Below W.heap.size W w') ∧ (ordE o n = 0 → ∀ W2, Below w.heap.size w W2 → Calls Try.prog 43 #[.slice a m c, .slice oa on oc] W2 fun e w' => e = .returned (.int .i64 z) ∧ Below W2.heap.size W2 w')) := fun W hb => by
    by_cases ho : ordE o n = 0
    · have hl := ord_len ho
      have hon : on = n := by have := hI.1; omega
      subst hon
      refine ⟨agS (prf l l.length) o on on, fun h => absurd ho h, ?_, fun _ W2 hb2 => againstR_any on a m c l oa oc o W2 (h.later hb2) hg (hI.later hb2) ho⟩
      rw [ho]
      exact against_f on a m c l oa oc o W (h.later hb) hg (hI.later hb) ho
    · exact ⟨0, fun _ => rfl, against_bad n a m c l oa on oc o W (h.later hb) hg (hI.later hb) ho, fun h => absurd h ho⟩
  clear h hg hI
  go_enter Try.func11, Try.ntmps11
  go_wp2_with fail
  refine (unhide P1).mono ?_
  rintro e w1 ⟨G1, B1, rfl, t1, b1⟩
  unfold two
  have T1 := hide t1
  clear t1
  go_wp2_with fail
  refine (unhide P2 w1 b1).mono ?_
  rintro e w2 ⟨G2, B2, rfl, t2, b2⟩
  unfold two
  have T1 := hide ((unhide T1).later b2)
  have T2 := hide t2
  have b2 := b1.trans (b2.mono b1.size)
  clear t2
  go_wp2_with fail
  refine (unhide P3 w2 b2).mono ?_
  rintro e w3 ⟨r3, hr3, rfl, b3⟩
  unfold two
  have T1 := hide ((unhide T1).later b3)
  have T2 := hide ((unhide T2).later b3)
  have HR3 := hide hr3
  have b3 := b2.trans (b3.mono b2.size)
  clear hr3
  obtain ⟨z, hz0, p4, hz1⟩ := unhide P4 w3 b3
  have P5 := hide p4
  have HZ0 := hide hz0
  have HZ1 := hide hz1
  clear p4 hz0 hz1
  go_wp2_with fail
  refine (unhide P5).mono ?_
  rintro e w4 ⟨rfl, b4⟩
  unfold two
  have T1 := hide ((unhide T1).later b4)
  have T2 := hide ((unhide T2).later b4)
  have b4 := b3.trans (b4.mono b3.size)
  go_wp2_with fail
  refine (unhide R1 w4 b4).mono ?_
  rintro e w5 ⟨a5, c5, L5, rfl, l5, ll5, b5⟩
  have T2 := hide ((unhide T2).later b5)
  obtain ⟨M1, m1, m2⟩ := ((unhide T1).later b5).lsts hn6
  have C5 := hide (sameLists_any n _ _ _ _ _ _ w5 m1 l5 (by rw [m2, ll5]))
  have b5 := b4.trans (b5.mono b4.size)
  clear l5 ll5 m1 m2 T1
  go_wp2_with fail
  refine (unhide C5).mono ?_
  rintro e w6 ⟨rfl, b6⟩
  have T2 := hide ((unhide T2).later b6)
  have b6 := b5.trans (b6.mono b5.size)
  go_wp2_with fail
  refine (unhide R2 w6 b6).mono ?_
  rintro e w7 ⟨a7, c7, L7, rfl, l7, ll7, b7⟩
  obtain ⟨M2, m1, m2⟩ := ((unhide T2).later b7).lsts hn6
  have C7 := hide (sameLists_any n _ _ _ _ _ _ w7 m1 l7 (by rw [m2, ll7]))
  have b7 := b6.trans (b7.mono b6.size)
  clear l7 ll7 m1 m2 T2
  go_wp2_with fail
  refine (unhide C7).mono ?_
  rintro e w8 ⟨rfl, b8⟩
  have b8 := b7.trans (b8.mono b7.size)
  go_wp2_with fail
  refine (unhide R3 w8 b8).mono ?_
  rintro e w9 ⟨⟨r9, hr9, rfl⟩, hw9⟩
  subst w9
  obtain rfl : r3 = r9 := con_uniq hn6 (unhide HR3) hr9
  have R4' := hide (unhide R4 w8 b8)
  clear hr9 HR3
  by_cases ho : ordE o n = 0
  · have R5 := hide (unhide HZ1 ho w8 b8)
    rw [ho] at R4'
    rw [ho]
    go_wp2_with fail
    refine (unhide R4').mono ?_
    rintro e w9 ⟨rfl, hw9⟩
    subst w9
    go_wp2_with fail
    refine (unhide R5).mono ?_
    rintro e w10 ⟨rfl, b10⟩
    go_wp2_with fail
    go_ret
    exact ⟨rfl, b8.trans (b10.mono b8.size)⟩
  · have hz := unhide HZ0 ho
    subst hz
    clear HZ0 HZ1
    generalize ordE o n = y at *
    go_wp2_with fail
    refine (unhide R4').mono ?_
    rintro e w9 ⟨rfl, hw9⟩
    subst w9
    go_wp2_with fail
    go_ret
    exact ⟨rfl, b8⟩
theorem good_one : Good 1 [] := ⟨by omega, by omega, by simp, fun k hk => by simp at hk⟩
theorem bals_nil (w : World) : Bals w none 0 0 [] := ⟨rfl, Nat.le_refl _, by unfold maxLen; omega, (fun g hg => by cases hg), .inl rfl⟩
set_option maxRecDepth 100000 in
set_option maxHeartbeats 4000000 in
/-- VoteSays, walked. -/
theorem voteSays_any (x : Int) (a : Option Addr) (n c : Nat) (l : List Bal) (oa : Option Addr) (on oc : Nat) (os : List Int) (w : World) (h : Bals w a n c l) (ho : Ints w oa on oc os) (hs : Small l) (hm0 : n ≤ 140737488351232) :
    Calls Try.prog 3 #[.int .i64 x, .slice a n c, .slice oa on oc] w fun e w' => e = .returned (.bool true) ∧ Below w.heap.size w w' := by
  have hoc := ho.2.1
  have hom := ho.2.2.1
  unfold maxLen at hom
  have HV := hide (heavy_any a n c l w h hs hm0)
  have CV := hide (voteMay_any x a n c l w h)
  by_cases h100 : 100 < on
  · clear h ho
    go_enter Try.func3, Try.ntmps3
    go_wp2_with fail
    refine (unhide HV).mono ?_
    rintro e w1 ⟨hv, rfl, hw1⟩
    subst w1
    cases hv
    · go_wp2_with fail
      go_ret
      exact ⟨rfl, Below.refl _ _⟩
    · go_wp2_with fail
      go_ret
      exact ⟨rfl, Below.refl _ _⟩
  · by_cases h6 : x = 6
    · subst h6
      clear h ho
      go_enter Try.func3, Try.ntmps3
      go_wp2_with fail
      refine (unhide HV).mono ?_
      rintro e w1 ⟨hv, rfl, hw1⟩
      subst w1
      cases hv
      · go_wp2_with fail
        go_ret
        exact ⟨rfl, Below.refl _ _⟩
      · go_wp2_with fail
        go_ret
        exact ⟨rfl, Below.refl _ _⟩
    · by_cases hz : voteE x l = 0
      · obtain ⟨N, rfl⟩ : ∃ N : Nat, x = N := ⟨x.toNat, by
          unfold voteE at hz
          by_cases c : x < 1 ∨ 6 < x
          · rw [if_pos c] at hz; omega
          · omega⟩
        have hg := (good_iff N l).1 hz
        have h5 : N ≤ 5 := by have := hg.2.1; omega
        have CM := may_any N a n c l w h
        have CL := hide (fun W (hb : Below w.heap.size w W) => voteLists_any N a n c l W (h.later hb) hg h5)
        have CO := hide (fun W (hb : Below w.heap.size w W) => voteOthers_any N a n c l oa on oc os W (h.later hb) hg (ho.later hb))
        have CW := hide (fun W (hb : Below w.heap.size w W) => voteMay_any N a n c l W (h.later hb))
        rw [hz] at CV CM CW
        have CM := hide CM
        clear h ho hg hz
        have hx6 : ((N : Int) == 6) = false := by simpa using h6
        have hl1 : ¬ (100 : Int) < on := by omega
        go_enter Try.func3, Try.ntmps3
        go_wp2_with fail
        refine (unhide HV).mono ?_
        rintro e w1 ⟨hv, rfl, hw1⟩
        subst w1
        cases hv
        · go_wp2_with fail
          refine (unhide CV).mono ?_
          rintro e w1 ⟨rfl, hw1⟩
          subst w1
          go_wp2_with fail
          refine (unhide CM).mono ?_
          rintro e w1 ⟨rfl, b1⟩
          go_wp2_with fail
          refine (unhide CW w1 b1).mono ?_
          rintro e w2 ⟨rfl, hw2⟩
          subst w2
          go_wp2_with fail
          refine (unhide CL w1 b1).mono ?_
          rintro e w2 ⟨rfl, b2⟩
          have b2 := b1.trans (b2.mono b1.size)
          go_wp2_with fail
          refine (unhide CO w2 b2).mono ?_
          rintro e w3 ⟨rfl, b3⟩
          go_wp2_with fail
          go_ret
          exact ⟨rfl, b2.trans (b3.mono b2.size)⟩
        · go_wp2_with fail
          go_ret
          exact ⟨rfl, Below.refl _ _⟩
      · have hz1 : voteE (1 : Int) [] = 0 := (good_iff 1 []).2 good_one
        have CM := may_any 1 none 0 0 [] w (bals_nil w)
        have CL := hide (fun W => voteLists_any 1 none 0 0 [] W (bals_nil W) good_one (by omega))
        have CO := hide (fun W (hb : Below w.heap.size w W) => voteOthers_any 1 none 0 0 [] oa on oc os W (bals_nil W) good_one (ho.later hb))
        have CW := hide (fun W => voteMay_any 1 none 0 0 [] W (bals_nil W))
        rw [hz1] at CM CW
        have CM := hide CM
        clear h ho hz1
        have hx6 : (x == 6) = false := by simpa using h6
        have hl1 : ¬ (100 : Int) < on := by omega
        generalize voteE x l = z at *
        go_enter Try.func3, Try.ntmps3
        go_wp2_with fail
        refine (unhide HV).mono ?_
        rintro e w1 ⟨hv, rfl, hw1⟩
        subst w1
        cases hv
        · go_wp2_with fail
          refine (unhide CV).mono ?_
          rintro e w1 ⟨rfl, hw1⟩
          subst w1
          go_wp2_with fail
          refine (unhide CM).mono ?_
          rintro e w1 ⟨rfl, b1⟩
          go_wp2_with fail
          refine (unhide CW w1).mono ?_
          rintro e w2 ⟨rfl, hw2⟩
          subst w2
          go_wp2_with fail
          refine (unhide CL w1).mono ?_
          rintro e w2 ⟨rfl, b2⟩
          have b2 := b1.trans (b2.mono b1.size)
          go_wp2_with fail
          refine (unhide CO w2 b2).mono ?_
          rintro e w3 ⟨rfl, b3⟩
          go_wp2_with fail
          go_ret
          exact ⟨rfl, b2.trans (b3.mono b2.size)⟩
        · go_wp2_with fail
          go_ret
          exact ⟨rfl, Below.refl _ _⟩
end Go.Proofs.Ytloandcndnmkhaa
