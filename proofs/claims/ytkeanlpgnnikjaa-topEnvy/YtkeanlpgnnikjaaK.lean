import Derived.Test.YtkeanlpgnnikjaaJ
namespace Go.Proofs.Ytkeanlpgnnikjaa
open Go.RowKit
/-- Where Circles stands ahead of the k-th good. -/
structure CS (v : Nat → Nat → Int) (n G k : Nat) (gl : List Int) : Prop where
  len : gl.length = G
  inN : InN (nth gl) n G
  done : ∀ j, j < k → j < G → nth gl j ≠ -1
  left : ∀ j, k ≤ j → j < G → nth gl j = -1
  ef : EF v (nth gl) n G
def CirPost (n G : Nat) (L : List Sl) (w : World) (e : Ending) (w' : World) : Prop :=
  ∃ g gl, e = .returned (two (.slice (some ⟨g, 0, none⟩) G G) 0) ∧ Row w.heap.size w' (some ⟨g, 0, none⟩) G (nth gl) ∧ CS (vl L) n G G gl ∧ Below w.heap.size w w'
theorem InN.inR {f : Nat → Int} {n G : Nat} (h : InN f n G) (hn : n ≤ 4) {j : Nat} (hj : j < G) : InR (f j) := by
  rcases h j hj with e | ⟨x, hx, e⟩
  · rw [e]; exact ⟨by omega, by omega⟩
  · rw [e]; exact ⟨by omega, by omega⟩
theorem En.congr {v : Nat → Nat → Int} {f f' : Nat → Int} {G i j : Nat} (e : ∀ j, j < G → f j = f' j) : En v f G i j ↔ En v f' G i j := by
  unfold En
  rw [hv_congr G e, hv_congr (who := (j : Nat)) G e]
/-- One good more is given. -/
theorem CS.give {v : Nat → Nat → Int} {n G k x : Nat} {gl : List Int} (h : CS v n G k gl) (hv0 : ∀ i, i < n → OkF (v i) G) (hk : k < G) (hx : x < n) (hE : ∀ i, i < n → ¬ En v (nth gl) G i x) : CS v n G (k + 1) (lF G (upd (nth gl) k (x : Int))) ∧ ∀ j, j < G → upd (nth gl) k (x : Int) j = nth (lF G (upd (nth gl) k (x : Int))) j := by
  have hat : ∀ j, j < G → upd (nth gl) k (x : Int) j = nth (lF G (upd (nth gl) k (x : Int))) j := fun j hj => (lF_at hj).symm
  refine ⟨⟨lF_len _ _, fun j hj => ?_, fun j hj hG => ?_, fun j hj hG => ?_, (h.ef.give hv0 hk (h.left k (Nat.le_refl _) hk) hE).congr hat⟩, hat⟩
  · rw [← hat j hj]
    by_cases e : j = k
    · subst e; rw [upd_at]; exact .inr ⟨x, hx, rfl⟩
    · rw [upd_ne e]; exact h.inN j hj
  · rw [← hat j hG]
    by_cases e : j = k
    · subst e; rw [upd_at]; omega
    · rw [upd_ne e]; exact h.done j (by omega) hG
  · rw [← hat j hG, upd_ne (by omega)]
    exact h.left j (by omega) hG
/-- A circle. -/
theorem CS.turn {v : Nat → Nat → Int} {n G k r : Nat} {gl : List Int} {be : Nat → Nat} (h : CS v n G k gl) (hbe : ∀ j, j < n → be j < n ∧ En v (nth gl) G (be j) j) (hR : Ring be n r) :
    CS v n G k (lF G (fun j => mpI (mC be n r) (nth gl j))) ∧ (∀ j, j < G → mpI (mC be n r) (nth gl j) = nth (lF G (fun j => mpI (mC be n r) (nth gl j))) j) ∧ own v (nth gl) G n < own v (nth (lF G (fun j => mpI (mC be n r) (nth gl j)))) G n := by
  obtain ⟨h1, h2, h3, h4⟩ := ring_step h.ef h.inN hbe hR
  have hat : ∀ j, j < G → (fun j => mpI (mC be n r) (nth gl j)) j = nth (lF G (fun j => mpI (mC be n r) (nth gl j))) j := fun j hj => (lF_at (f := fun j => mpI (mC be n r) (nth gl j)) hj).symm
  refine ⟨⟨lF_len _ _, fun j hj => ?_, fun j hj hG => ?_, fun j hj hG => ?_, h1.congr hat⟩, hat, ?_⟩
  · rw [← hat j hj]; exact h2 j hj
  · rw [← hat j hG]; exact fun q => h.done j hj hG ((h4 j hG).1 q)
  · rw [← hat j hG]; exact (h4 j hG).2 (h.left j hj hG)
  · have : ∀ k, own v (nth (lF G (fun j => mpI (mC be n r) (nth gl j)))) G k = own v (fun j => mpI (mC be n r) (nth gl j)) G k := fun k => by
      induction k with
      | zero => rfl
      | succ k ih => rw [own, own, ih, hv_congr G hat]
    rw [this]; exact h3
set_option maxRecDepth 100000 in
set_option maxHeartbeats 4000000 in
theorem circles_ok (a : Option Addr) (n c G : Nat) (L : List Sl) (w : World) (h : Lsts w a n c L) (hV : Vals n G L) :
    Calls Try.prog 17 #[.slice a n c] w (CirPost n G L w) := by
  have hn1 := hV.n1
  have hn4 := hV.n4
  have hG := hV.g8
  have CM := may_any a n c L w h
  rw [hV.smE] at CM
  have CM := hide CM
  have CG := hide (given_any a n c G L w h hV)
  have HEv : Hid (∀ W g gl, Below w.heap.size w W → gl.length = G → Row w.heap.size W (some ⟨g, 0, none⟩) G (nth gl) → Calls Try.prog 32 #[.slice a n c, .slice (some ⟨g, 0, none⟩) G G] W fun e w' => ∃ g', e = .returned (.slice (some ⟨g', 0, none⟩) n n) ∧ Row W.heap.size w' (some ⟨g', 0, none⟩) n (fun j => evr (vl L) (nth gl) G j n) ∧ W.heap.size ≤ g' ∧ Below W.heap.size W w') := fun W g gl hb hl hR =>
    enviers_any a n c G L _ _ gl W (h.later hb) hV (hR.ints hl.symm (Nat.le_refl _) (by unfold maxLen; omega) (fun _ _ => rfl))
  have HOK : Hid (∀ i, i < n → OkF (vl L i) G) := fun i hi => hV.okF hi
  clear h hV
  unfold CirPost
  generalize vl L = v at *
  go_enter Try.func17, Try.ntmps17
  go_wp2_with fail
  refine (unhide CM).mono ?_
  rintro e w2 ⟨rfl, hw2⟩
  subst w2
  go_wp2_with fail
  refine (unhide CG).mono ?_
  rintro e w1 ⟨g, rfl, hrow, hg, hb1⟩
  have HB := hide hb1
  have HS : Hid (∃ gl, CS v n G 0 gl ∧ Row w.heap.size w1 (some ⟨g, 0, none⟩) G (nth gl)) := by
    have hat : ∀ j, j < G → (fun _ => (-1 : Int)) j = nth (lF G (fun _ => -1)) j := fun j hj => (lF_at (f := fun _ => (-1 : Int)) hj).symm
    exact ⟨lF G (fun _ => -1), ⟨lF_len _ _, fun j hj => .inl (hat j hj).symm, fun j hj => by omega, fun j _ hj => (hat j hj).symm, EF.none.congr hat⟩, hrow.same hat⟩
  clear hrow hb1 CM CG
  go_wp2
  go_loopw [17, 6, 7] (fun i _ _ wr => Hid (Below w.heap.size w wr) ∧ ∃ k : Nat, k ≤ G ∧ i = .int .i64 k ∧ Hid (∃ gl, CS v n G k gl ∧ Row w.heap.size wr (some ⟨g, 0, none⟩) G (nth gl))) (fun i _ _ _ => G - (intOf i).toNat)
  case atStart => exact ⟨HB, 0, Nat.zero_le _, rfl, HS⟩
  case round =>
    clear HB HS
    obtain ⟨HB, k, hk, rfl, HS⟩ := hrel
    obtain ⟨gl, hcs, hrow⟩ := unhide HS
    clear HS
    have HCS := hide hcs
    have HR := hide hrow
    clear hcs hrow
    by_cases hlt : k < G
    · have CE := hide (unhide HEv wr g gl (unhide HB) (unhide HCS).len (unhide HR))
      go_wp2_with fail
      refine (unhide CE).mono ?_
      rintro e w3 ⟨g3, rfl, hr3, hg3, hb3⟩
      have HB3 : Hid (Below w.heap.size w w3) := (unhide HB).trans (hb3.mono (unhide HB).size)
      have HR3 : Hid (Row w.heap.size w3 (some ⟨g, 0, none⟩) G (nth gl)) := (unhide HR).later hb3
      have HY3 : Hid (Row w.heap.size w3 (some ⟨g3, 0, none⟩) n (fun j => evr v (nth gl) G j n)) := by
        rcases hr3 with q | ⟨g', q1, q2, q3⟩
        · exact .inl q
        · exact .inr ⟨g', q1, Nat.le_trans (unhide HB).size q2, q3⟩
      have hne : g ≠ g3 := by
        obtain ⟨-, -, r3, -⟩ := (unhide HR).at hlt
        omega
      clear hr3 hb3 CE HB HR
      go_wp2
      go_loopg [7] (32000 - own v (nth gl) G n).toNat (fun m b wr => Hid (Below w.heap.size w wr) ∧ ∃ g3 gl, b = .slice (some ⟨g3, 0, none⟩) n n ∧ Hid (CS v n G k gl ∧ Row w.heap.size wr (some ⟨g, 0, none⟩) G (nth gl) ∧ Row w.heap.size wr (some ⟨g3, 0, none⟩) n (fun j => evr v (nth gl) G j n) ∧ m = (32000 - own v (nth gl) G n).toNat))
      case atStart => exact ⟨HB3, g3, gl, rfl, HCS, HR3, HY3, rfl⟩
      case round =>
        clear HB3 HCS HR3 HY3 hne hg3
        clear gl
        obtain ⟨HB, g3, gl, rfl, HX⟩ := hrel
        obtain ⟨hcs, hrow, hby, hm⟩ := unhide HX
        clear HX
        have HCS := hide hcs
        have HR := hide hrow
        have HM := hide hm
        have HBY := hide (hby.ints (l := lF n (fun j => evr v (nth gl) G j n)) (cap := n) (lF_len _ _).symm (Nat.le_refl _) (by unfold maxLen; omega) (fun j hj => (lF_at (f := fun j => evr v (nth gl) G j n) hj).symm))
        have HAT : Hid (∀ j, j < n → nth (lF n (fun j => evr v (nth gl) G j n)) j = evr v (nth gl) G j n) := fun j hj => lF_at (f := fun j => evr v (nth gl) G j n) hj
        have hlen : (lF n (fun j => evr v (nth gl) G j n)).length = n := lF_len _ _
        clear hcs hrow hm hby
        have CC := hide (contains_any _ n n _ (-1) wr (unhide HBY))
        rcases idxFrom_spec (lF n (fun j => evr v (nth gl) G j n)) (-1) _ 0 rfl with ⟨hi, hall⟩ | ⟨m, -, hmn, hmv, hmi, -⟩
        · rw [hi] at CC
          have hall2 : ∀ j, j < n → evr v (nth gl) G j n ≠ -1 := fun j hj => by
            have := hall j (Nat.zero_le _) (by rw [hlen]; exact hj)
            rw [← unhide HAT j hj]
            exact this
          obtain ⟨be, hbe⟩ : ∃ be : Nat → Nat, be = fun j => (evr v (nth gl) G j n).toNat := ⟨_, rfl⟩
          have hbe2 : ∀ j, j < n → nth (lF n (fun j => evr v (nth gl) G j n)) j = (be j : Int) ∧ be j < n ∧ En v (nth gl) G (be j) j := fun j hj => by
            rw [unhide HAT j hj]
            rcases evr_spec (v := v) (give := nth gl) (G := G) (j := j) n with ⟨q, -⟩ | ⟨m, m1, m2, m3⟩
            · exact absurd q (hall2 j hj)
            · have : be j = m := by rw [hbe]; dsimp only; rw [m2]; omega
              rw [this]
              exact ⟨m2, m1, m3⟩
          have hring := ring hn1 hn4 (fun x hx => (hbe2 x hx).2.1)
          have CI := hide (circle_any _ n n _ be wr (unhide HBY) hn1 hn4 (fun x hx => ⟨(hbe2 x hx).1, (hbe2 x hx).2.1⟩) hring.1)
          have HRG := hide hring.2
          have HBE : Hid (∀ j, j < n → be j < n ∧ En v (nth gl) G (be j) j) := fun j hj => (hbe2 j hj).2
          clear hring hbe2 hbe hall2 hall hi HBY HAT hlen
          have hdf : decide ((0 : Int) ≤ -1) = false := by decide
          rw [hdf] at CC
          go_wp2_with fail
          refine (unhide CC).mono ?_
          rintro e w4 ⟨rfl, hw4⟩
          subst w4
          go_wp2_with fail
          refine (unhide CI).mono ?_
          rintro e w4 ⟨b4, r, rfl, hmp, hr, hon, hb4, hbl⟩
          have HRI := hide (unhide HRG r hr hon)
          have hR4 := (unhide HR).later hbl
          have hB4 : Below w.heap.size w w4 := (unhide HB).trans (hbl.mono (unhide HB).size)
          have hne : b4 ≠ g := by
            obtain ⟨-, -, r3, -⟩ := (unhide HR).at hlt
            omega
          have CH := hide (change_any g G G b4 r w.heap.size (nth gl) _ w w4 hR4 (Nat.le_refl _) (by omega) (fun j hj => (unhide HCS).inN.inR hn4 hj) hmp hne hB4)
          clear hR4 hB4 hmp hon hbl
          go_wp2_with fail
          refine (unhide CH).mono ?_
          rintro e w5 ⟨rfl, hr5, hb5⟩
          obtain ⟨hcs5, hat5, hown5⟩ := (unhide HCS).turn (unhide HBE) (unhide HRI)
          have HR5 := hide (hr5.same hat5)
          have HB5 := hide hb5
          have HCS5 := hide hcs5
          have HOW := hide hown5
          clear hr5 hb5 hcs5 hat5 hown5 CH CI CC HRI HBE HRG
          have HLE := hide (own_le (f := nth gl) (unhide HOK) hG n (Nat.le_refl _))
          generalize lF G (fun j => mpI (mC be n r) (nth gl j)) = gl5 at *
          have HLE5 := hide (own_le (f := nth gl5) (unhide HOK) hG n (Nat.le_refl _))
          have CE := hide (unhide HEv w5 g gl5 (unhide HB5) (unhide HCS5).len (unhide HR5))
          go_wp2_with fail
          refine (unhide CE).mono ?_
          rintro e w6 ⟨g6, rfl, hr6, hg6, hb6⟩
          have HB6 : Hid (Below w.heap.size w w6) := (unhide HB5).trans (hb6.mono (unhide HB5).size)
          have HR6 : Hid (Row w.heap.size w6 (some ⟨g, 0, none⟩) G (nth gl5)) := (unhide HR5).later hb6
          have HY6 : Hid (Row w.heap.size w6 (some ⟨g6, 0, none⟩) n (fun j => evr v (nth gl5) G j n)) := by
            rcases hr6 with q | ⟨g', q1, q2, q3⟩
            · exact .inl q
            · exact .inr ⟨g', q1, Nat.le_trans (unhide HB5).size q2, q3⟩
          clear hr6 hb6 CE
          go_wp2
          go_roundg ((32000 - own v (nth gl5) G n).toNat)
          case measure =>
            have q1 := unhide HM
            have q2 := unhide HOW
            have q3 := unhide HLE
            have q4 := unhide HLE5
            omega
          case rel => exact ⟨HB6, g6, gl5, rfl, HCS5, HR6, HY6, rfl⟩
        · have CX := hide (index_any _ n n _ (-1) wr (unhide HBY))
          rw [hmi] at CC CX
          rw [hlen] at hmn
          have hNE : Hid (∀ i, i < n → ¬ En v (nth gl) G i m) := fun i hi => by
            have q := unhide HAT m hmn
            rcases evr_spec (v := v) (give := nth gl) (G := G) (j := m) n with ⟨-, q2⟩ | ⟨m', m1, m2, m3⟩
            · exact q2 i hi
            · rw [m2] at q
              have : (lF n (fun j => evr v (nth gl) G j n))[m]?.getD 0 = (m' : Int) := q
              omega
          have hdt : decide ((0 : Int) ≤ (m : Int)) = true := by simp
          rw [hdt] at CC
          obtain ⟨hcs2, hat2⟩ := (unhide HCS).give (unhide HOK) hlt hmn (unhide hNE)
          obtain ⟨r1, r2, r3, r4⟩ := (unhide HR).at hlt
          have HRN : Hid (Row w.heap.size (wr.setCell ⟨g, k, none⟩ (.int .i64 (m : Int))) (some ⟨g, 0, none⟩) G (nth (lF G (upd (nth gl) k (m : Int))))) := (unhide HR).set hlt (fun j hj e => by rw [← hat2 j hj, upd_ne e]) (by rw [← hat2 k hlt, upd_at])
          have HCS2 := hide hcs2
          have HB2 : Hid (Below w.heap.size w (wr.setCell ⟨g, k, none⟩ (.int .i64 (m : Int)))) := (unhide HB).setCell (p := ⟨g, k, none⟩) hg _
          clear hcs2 hat2 hNE hmv hmi HBY HAT hlen
          go_wp2_with fail
          refine (unhide CC).mono ?_
          rintro e w4 ⟨rfl, hw4⟩
          subst w4
          go_wp2_with fail
          refine (unhide CX).mono ?_
          rintro e w4 ⟨rfl, hw4⟩
          subst w4
          go_wp2
          go_roundw
          case rel => exact ⟨HB2, k + 1, by omega, by go_num, _, HCS2, HRN⟩
          case measure => simp [intOf]; omega
    · obtain rfl : G = k := by omega
      go_wp2
      go_ret2
      exact ⟨g, gl, rfl, HR, HCS, HB⟩
set_option maxRecDepth 100000 in
set_option maxHeartbeats 4000000 in
theorem circles_err (a : Option Addr) (n c : Nat) (L : List Sl) (w : World) (h : Lsts w a n c L) (he : smE L ≠ 0) :
    Calls Try.prog 17 #[.slice a n c] w fun e w' => e = .returned (two (.slice none 0 0) (smE L)) ∧ w' = w := by
  have CM := hide (may_any a n c L w h)
  have hz : (smE L == 0) = false := by simpa using he
  clear h he
  generalize smE L = E at *
  go_enter Try.func17, Try.ntmps17
  go_wp2_with fail
  refine (unhide CM).mono ?_
  rintro e w2 ⟨rfl, hw2⟩
  subst w2
  go_wp2
  go_ret2
  exact ⟨rfl, rfl⟩
end Go.Proofs.Ytkeanlpgnnikjaa
