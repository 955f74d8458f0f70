import Derived.Test.YtcannknicfnkdaaF
namespace Go.Proofs.Ytcannknicfnkdaa
open Go.RowKit
/-- What is read of a player's choice, in every later world. -/
theorem rd_cells {w : World} {ca : Option Addr} {n cc : Nat} {C : List Sl} {K : List Sl} {m : Nat} {pa : Option Addr} {pc : Nat} {p : List Int} (hC : Lsts w ca n cc C) (hp : Ints w pa n pc p) (hR : Rds C K n m) (hO : OkP C n p) :
    ∃ cb co' pb po, ca = some ⟨cb, co', none⟩ ∧ pa = some ⟨pb, po, none⟩ ∧ ∀ i, i < n → ∃ ib io ln lc t x, nth p i = ((t : Nat) : Int) ∧ cv C i (nth p i) = x ∧ (slAt C i).ln = ln ∧ 0 ≤ x ∧ x < 64 ∧ t < ln ∧ ln ≤ lc ∧ ln ≤ 5 ∧ lc ≤ 2 ^ 63 - 1 ∧ ∀ wr, Below w.heap.size w wr → wr.cell? ⟨cb, co' + i, none⟩ = some (.slice (some ⟨ib, io, none⟩) ln lc) ∧ wr.cell? ⟨pb, po + i, none⟩ = some (.int .i64 t) ∧ wr.cell? ⟨ib, io + t, none⟩ = some (.int .i64 x) := by
  obtain ⟨pb, po, rfl, hpb, hpc⟩ := hp.nth hR.n1
  obtain ⟨cb, co', rfl, hcb, hcc⟩ := hC.cellAt hR.n1
  refine ⟨cb, co', pb, po, rfl, rfl, fun i hi => ?_⟩
  have hI := hC.mem hi
  have hO1 := hO.2 i hi
  have hCV := hR.cv hO hi
  have hl := hR.cl i hi
  obtain ⟨ib, io, eib, hib, hic⟩ := hI.nth (by omega)
  refine ⟨ib, io, (slAt C i).ln, (slAt C i).lc, (nth p i).toNat, _, by omega, rfl, rfl, hCV.1, hCV.2, by omega, hI.2.1, hl.2, hI.2.2.1, fun wr hb => ⟨?_, ?_, ?_⟩⟩
  · rw [hb.cell (p := ⟨cb, co' + i, none⟩) hcb, hcc i hi, eib]
  · rw [hb.cell (p := ⟨pb, po + i, none⟩) hpb, hpc i hi, show (((nth p i).toNat : Nat) : Int) = nth p i by omega]
  · rw [hb.cell (p := ⟨ib, io + (nth p i).toNat, none⟩) hib, hic _ (by omega)]; rfl
/-- What is read of a road's costs. -/
theorem kd_cells {w : World} {ka : Option Addr} {n kc : Nat} {C : List Sl} {K : List Sl} {m : Nat} (hK : Lsts w ka m kc K) (hR : Rds C K n m) (hm : 0 < m) :
    ∃ kb ko, ka = some ⟨kb, ko, none⟩ ∧ ∀ e, e < m → ∃ jb jo lc, n ≤ lc ∧ lc ≤ 2 ^ 63 - 1 ∧ ∀ wr, Below w.heap.size w wr → wr.cell? ⟨kb, ko + e, none⟩ = some (.slice (some ⟨jb, jo, none⟩) n lc) ∧ ∀ k, k < n → wr.cell? ⟨jb, jo + k, none⟩ = some (.int .i64 (co K e k)) := by
  obtain ⟨kb, ko, rfl, hkb, hkc⟩ := hK.cellAt hm
  refine ⟨kb, ko, rfl, fun e he => ?_⟩
  have hI := hK.mem he
  have hl := hR.kl e he
  have n1 := hR.n1
  obtain ⟨jb, jo, ej, hjb, hjc⟩ := hI.nth (by omega)
  refine ⟨jb, jo, (slAt K e).lc, by have := hI.2.1; omega, hI.2.2.1, fun wr hb => ⟨?_, fun k hk => ?_⟩⟩
  · rw [hb.cell (p := ⟨kb, ko + e, none⟩) hkb, hkc e he, ej, hl]
  · rw [hb.cell (p := ⟨jb, jo + k, none⟩) hjb, hjc k (by omega)]; rfl
theorem div2 {x : Int} (h0 : 0 ≤ x) (h1 : x < 64) {j : Nat} (hj : j ≤ 6) : ∃ P : Nat, IntKind.i64.wrap ((2 : Int) ^ j) = (P : Int) ∧ 1 ≤ P ∧ P ≤ 64 ∧ (x / (P : Int)).tmod 2 = (bt x j : Int) := by
  have hp := pow6 hj
  have ew : IntKind.i64.wrap ((2 : Int) ^ j) = ((2 ^ j : Nat) : Int) := by rw [wrap_in _ (by omega) (by omega)]; simp
  have e2 : ((2 : Int) ^ j) = ((2 ^ j : Nat) : Int) := by simp
  refine ⟨2 ^ j, ew, by omega, by omega, ?_⟩
  obtain ⟨X, rfl⟩ : ∃ X : Nat, x = X := ⟨x.toNat, by omega⟩
  have h2 : X / 2 ^ j < 64 := Nat.lt_of_le_of_lt (Nat.div_le_self _ _) (by omega)
  have e : ((X : Int) / ((2 ^ j : Nat) : Int)) = ((X / 2 ^ j : Nat) : Int) := by simp
  unfold bt
  rw [e, Int.toNat_natCast]
  rfl
set_option maxRecDepth 100000 in
set_option maxHeartbeats 4000000 in
theorem users_any (ca : Option Addr) (n cc : Nat) (C : List Sl) (ka : Option Addr) (m kc : Nat) (K : List Sl) (pa : Option Addr) (pc : Nat) (p : List Int) (e : Nat) (w : World) (hC : Lsts w ca n cc C) (hK : Lsts w ka m kc K) (hp : Ints w pa n pc p) (hR : Rds C K n m) (hO : OkP C n p) (he : e ≤ 6) :
    Calls Try.prog 30 #[rV ca n cc ka m kc, .slice pa n pc, .int .i64 e] w fun r w' => r = .returned (.int .i64 (us C p e n)) ∧ Below w.heap.size w w' := by
  have hc1 := hC.2.1
  have hc2 := hC.2.2.1
  have hk1 := hK.2.1
  have hk2 := hK.2.2.1
  have hp1 := hp.2.1
  have hp2 := hp.2.2.1
  unfold maxLen at hc2 hk2 hp2
  have n1 := hR.n1
  have n5 := hR.n5
  have m6 := hR.m6
  obtain ⟨W, hW, hbW, hlt0, hbox⟩ := box_cells (w := w) ca n cc ka m kc
  have HW := hide hW
  have HBX0 := hide hbox
  have HBT := hide (fun (wr : World) (hb : Below W.heap.size W wr) => Below.trans hbW (hb.mono hbW.size))
  have w0 := (hbox W (Below.refl _ _)).1
  have w1 := (hbox W (Below.refl _ _)).2
  have hCW := hC.later hbW
  have hKW := hK.later hbW
  have hPW := hp.later hbW
  obtain ⟨cb, co', pb, po, rfl, rfl, hrd⟩ := rd_cells hCW hPW hR hO
  have HRD := hide hrd
  clear hC hK hp hW hbW hbox hlt0 hR hO hrd hCW hKW hPW
  unfold rV
  go_enter Try.func30, Try.ntmps30
  go_wp2_with fail
  rw [unhide HW]
  go_wp2
  go_loopw [7, 8] (fun s i wr => Hid (Below W.heap.size W wr) ∧ ∃ k : Nat, k ≤ n ∧ i = .int .i64 k ∧ s = .int .i64 (us C p e k)) (fun _ i _ => n - (intOf i).toNat)
  case atStart => exact ⟨Below.refl _ _, 0, Nat.zero_le _, rfl, rfl⟩
  case round =>
    clear w0 w1
    obtain ⟨HBr, i, hi, rfl, rfl⟩ := hrel
    have w0 := (unhide HBX0 _ (unhide HBr)).1
    have w1 := (unhide HBX0 _ (unhide HBr)).2
    by_cases hlt : i < n
    · obtain ⟨ib, io, ln, lc, t, x, -, ex, -, x0, x1, htl, l1, -, l2, hcs⟩ := unhide HRD i hlt
      obtain ⟨k1, k2, k3⟩ := hcs _ (unhide HBr)
      have HS : Hid (us C p e (i + 1) = us C p e i + bt x e) := by show us C p e i + bt (cv C i (nth p i)) e = _; rw [ex]
      have hul := us_le C p e i
      obtain ⟨P, hP, P1, P2, hd2⟩ := div2 x0 x1 he
      have hbt := bt_le x e
      clear hcs ex
      generalize us C p e i = u at *
      go_wp2_with fail
      go_quiet (fail)
      go_wp2
      go_roundw
      case rel => exact ⟨(unhide HBr).trans (below_drewN _ _ _), i + 1, by omega, by go_num, by rw [unhide HS]; simp⟩
      case measure => simp [intOf]; omega
    · obtain rfl : n = i := by omega
      have HBX := hide (unhide HBT _ (unhide HBr))
      go_wp2
      go_ret
      exact ⟨rfl, unhide HBX⟩
set_option maxRecDepth 100000 in
set_option maxHeartbeats 4000000 in
theorem cost_any (ca : Option Addr) (n cc : Nat) (C : List Sl) (ka : Option Addr) (m kc : Nat) (K : List Sl) (pa : Option Addr) (pc : Nat) (p : List Int) (i : Nat) (w : World) (hC : Lsts w ca n cc C) (hK : Lsts w ka m kc K) (hp : Ints w pa n pc p) (hR : Rds C K n m) (hO : OkP C n p) (hi : i < n) :
    Calls Try.prog 23 #[rV ca n cc ka m kc, .slice pa n pc, .int .i64 i] w fun r w' => r = .returned (.int .i64 (cs C K n p i m)) ∧ Below w.heap.size w w' := by
  have hc1 := hC.2.1
  have hc2 := hC.2.2.1
  have hk1 := hK.2.1
  have hk2 := hK.2.2.1
  have hp1 := hp.2.1
  have hp2 := hp.2.2.1
  unfold maxLen at hc2 hk2 hp2
  have n1 := hR.n1
  have n5 := hR.n5
  have m6 := hR.m6
  obtain ⟨W, hW, hbW, hlt0, hbox⟩ := box_cells (w := w) ca n cc ka m kc
  have HW := hide hW
  have HBX0 := hide hbox
  have HBT := hide (fun (wr : World) (hb : Below W.heap.size W wr) => Below.trans hbW (hb.mono hbW.size))
  have w0 := (hbox W (Below.refl _ _)).1
  have w1 := (hbox W (Below.refl _ _)).2
  have hCW := hC.later hbW
  have hKW := hK.later hbW
  have hPW := hp.later hbW
  have HKD := hide (fun hm => kd_cells (C := C) hKW hR hm)
  have CT := taken_any ca n cc C ka m kc K pa pc p W hCW hKW hPW hR hO
  have HBD := hide (fun e he => cs_bd (C := C) hR.ok p i hi e he)
  have HOK := hide hR.ok
  obtain ⟨cb, co', pb, po, rfl, rfl, hrd⟩ := rd_cells hCW hPW hR hO
  have CT := hide CT
  obtain ⟨ib, io, ln, lc, t, x, -, ex, -, x0, x1, htl, l1, -, l2, hcs⟩ := hrd i hi
  have HCS := hide hcs
  have HX : Hid (∀ e, cs C K n p i (e + 1) = cs C K n p i e + if bt x e = 1 then co K e (us C p e n - 1) else 0) := fun e => by show cs C K n p i e + (if bt (cv C i (nth p i)) e = 1 then _ else _) = _; rw [ex]
  have HUG : Hid (∀ e, bt x e ≤ us C p e n) := fun e => by rw [← ex]; exact us_ge C p e i n hi
  clear hC hK hp hW hbW hbox hlt0 hR hO hrd hCW hKW hPW hcs ex
  unfold rV at *
  go_enter Try.func23, Try.ntmps23
  go_wp2_with fail
  rw [unhide HW]
  go_wp2_with fail
  refine (unhide CT).mono ?_
  rintro r w2 ⟨g, rfl, hT, hb2⟩
  have HT := hide hT
  have HB2 := hide hb2
  clear hT hb2 w0 w1
  go_wp2
  go_loopw [14, 7, 8, 9] (fun i' s _ _ wr => Hid (Below w2.heap.size w2 wr) ∧ ∃ k : Nat, k ≤ m ∧ i' = .int .i64 k ∧ s = .int .i64 (cs C K n p i k)) (fun i' _ _ _ _ => m - (intOf i').toNat)
  case atStart => exact ⟨Below.refl _ _, 0, Nat.zero_le _, rfl, rfl⟩
  case round =>
    obtain ⟨HB3, e, he, rfl, rfl⟩ := hrel
    have HBr : Hid (Below W.heap.size W wr) := (unhide HB2).trans ((unhide HB3).mono (unhide HB2).size)
    have w0 := (unhide HBX0 _ (unhide HBr)).1
    have w1 := (unhide HBX0 _ (unhide HBr)).2
    obtain ⟨k1, k2, k3⟩ := unhide HCS _ (unhide HBr)
    by_cases hlt : e < m
    · obtain ⟨tb, to', et, htb, htc⟩ := ((unhide HT).later (unhide HB3)).nth (by omega)
      cases et
      have hte := htc e hlt
      rw [lF_at hlt, Nat.zero_add] at hte
      have hul := us_le C p e n
      have hug := unhide HUG e
      have HS := hide (unhide HX e)
      have hbd := unhide HBD e (by omega)
      clear htc
      have ha := and1 x0 x1 e
      obtain ⟨kb, ko, rfl, hkd⟩ := unhide HKD (by omega)
      obtain ⟨jb, jo, lk, q1, q2, hkd⟩ := hkd e hlt
      obtain ⟨q3, q4⟩ := hkd _ (unhide HBr)
      clear hkd
      have hok := unhide HOK e hlt (us C p e n - 1) (by omega)
      by_cases hb : bt x e = 1
      · rw [hb] at hug ha
        have hq := q4 (us C p e n - 1) (by omega)
        have HS2 : Hid (cs C K n p i (e + 1) = cs C K n p i e + co K e (us C p e n - 1)) := by show _ = _; rw [unhide HS, if_pos hb]
        obtain ⟨u, hu⟩ : ∃ u, us C p e n = u + 1 := ⟨us C p e n - 1, by omega⟩
        rw [hu] at hte hul hq hok HS2
        rw [Nat.add_sub_cancel] at hq hok HS2
        clear q4 hb HS hu
        generalize cs C K n p i e = S at *
        generalize co K e u = Z at *
        go_wp2_with fail
        go_quiet (fail)
        go_wp2
        go_roundw
        case rel => exact ⟨(unhide HB3).trans (below_drewN _ _ _), e + 1, by omega, by go_num, by rw [unhide HS2]⟩
        case measure => simp [intOf]; omega
      · have hb0 : bt x e = 0 := by have := bt_le x e; omega
        rw [hb0] at ha
        have HS2 : Hid (cs C K n p i (e + 1) = cs C K n p i e) := by show _ = _; rw [unhide HS, if_neg hb, Int.add_zero]
        clear q4 hb hb0 HS hug hok
        generalize us C p e n = u at *
        generalize cs C K n p i e = S at *
        go_wp2_with fail
        go_quiet (fail)
        go_wp2
        go_roundw
        case rel => exact ⟨(unhide HB3).trans (below_drewN _ _ _), e + 1, by omega, by go_num, by rw [unhide HS2]⟩
        case measure => simp [intOf]; omega
    · obtain rfl : m = e := by omega
      have HBX := hide (unhide HBT _ (unhide HBr))
      go_wp2
      go_ret
      exact ⟨rfl, unhide HBX⟩
set_option maxRecDepth 100000 in
set_option maxHeartbeats 4000000 in
theorem costOf_any (ca : Option Addr) (n cc : Nat) (C : List Sl) (ka : Option Addr) (m kc : Nat) (K : List Sl) (pa : Option Addr) (pc : Nat) (p : List Int) (i : Nat) (w : World) (hC : Lsts w ca n cc C) (hK : Lsts w ka m kc K) (hp : Ints w pa n pc p) (hR : Rds C K n m) (hO : OkP C n p) (hi : i < n) :
    Calls Try.prog 12 #[rV ca n cc ka m kc, .slice pa n pc, .int .i64 i] w fun r w' => r = .returned (.int .i64 (cs C K n p i m)) ∧ Below w.heap.size w w' := by
  have hc1 := hC.2.1
  have hc2 := hC.2.2.1
  have hk1 := hK.2.1
  have hk2 := hK.2.2.1
  have hp1 := hp.2.1
  have hp2 := hp.2.2.1
  unfold maxLen at hc2 hk2 hp2
  have n1 := hR.n1
  have n5 := hR.n5
  have m6 := hR.m6
  obtain ⟨W, hW, hbW, hlt0, hbox⟩ := box_cells (w := w) ca n cc ka m kc
  have HW := hide hW
  have HBX0 := hide hbox
  have HBT := hide (fun (wr : World) (hb : Below W.heap.size W wr) => Below.trans hbW (hb.mono hbW.size))
  have w0 := (hbox W (Below.refl _ _)).1
  have w1 := (hbox W (Below.refl _ _)).2
  have hCW := hC.later hbW
  have hKW := hK.later hbW
  have hPW := hp.later hbW
  have HKD := hide (fun hm => kd_cells (C := C) hKW hR hm)
  have CU : Hid (∀ (wr : World), Below W.heap.size W wr → ∀ e : Nat, e ≤ 6 → Calls Try.prog 30 #[rV ca n cc ka m kc, .slice pa n pc, .int .i64 (e : Int)] wr fun r w' => r = .returned (.int .i64 (us C p e n)) ∧ Below wr.heap.size wr w') := fun wr hb e he => users_any ca n cc C ka m kc K pa pc p e wr (hCW.later hb) (hKW.later hb) (hPW.later hb) hR hO he
  have HBD := hide (fun e he => cs_bd (C := C) hR.ok p i hi e he)
  have HOK := hide hR.ok
  obtain ⟨cb, co', pb, po, rfl, rfl, hrd⟩ := rd_cells hCW hPW hR hO
  obtain ⟨ib, io, ln, lc, t, x, -, ex, -, x0, x1, htl, l1, -, l2, hcs⟩ := hrd i hi
  have HCS := hide hcs
  have HX : Hid (∀ e, cs C K n p i (e + 1) = cs C K n p i e + if bt x e = 1 then co K e (us C p e n - 1) else 0) := fun e => by show cs C K n p i e + (if bt (cv C i (nth p i)) e = 1 then _ else _) = _; rw [ex]
  have HUG : Hid (∀ e, bt x e ≤ us C p e n) := fun e => by rw [← ex]; exact us_ge C p e i n hi
  clear hC hK hp hW hbW hbox hlt0 hR hO hrd hCW hKW hPW hcs ex
  unfold rV at *
  go_enter Try.func12, Try.ntmps12
  go_wp2_with fail
  rw [unhide HW]
  go_wp2
  go_loopw [7, 8, 9] (fun s i' _ wr => Hid (Below W.heap.size W wr) ∧ ∃ k : Nat, k ≤ m ∧ i' = .int .i64 k ∧ s = .int .i64 (cs C K n p i k)) (fun _ i' _ _ => m - (intOf i').toNat)
  case atStart => exact ⟨Below.refl _ _, 0, Nat.zero_le _, rfl, rfl⟩
  case round =>
    clear w0 w1
    obtain ⟨HBq, e, he, rfl, rfl⟩ := hrel
    have w0 := (unhide HBX0 _ (unhide HBq)).1
    have w1 := (unhide HBX0 _ (unhide HBq)).2
    by_cases hlt : e < m
    · have CE := hide (unhide CU _ (unhide HBq) e (by omega))
      have hul := us_le C p e n
      have hug := unhide HUG e
      have HS := hide (unhide HX e)
      have hbd := unhide HBD e (by omega)
      obtain ⟨P, hP, P1, P2, hd2⟩ := div2 x0 x1 (show e ≤ 6 by omega)
      obtain ⟨kb, ko, rfl, hkd⟩ := unhide HKD (by omega)
      obtain ⟨jb, jo, lk, q1, q2, hkd⟩ := hkd e hlt
      have hok := unhide HOK e hlt (us C p e n - 1) (by omega)
      have HQ := hide hkd
      clear hkd
      go_wp2_with fail
      refine (unhide CE).mono ?_
      rintro r w2 ⟨rfl, hb2⟩
      have HBr : Hid (Below W.heap.size W w2) := (unhide HBq).trans (hb2.mono (unhide HBq).size)
      clear hb2 w0 w1 CE
      have w0 := (unhide HBX0 _ (unhide HBr)).1
      have w1 := (unhide HBX0 _ (unhide HBr)).2
      obtain ⟨k1, k2, k3⟩ := unhide HCS _ (unhide HBr)
      obtain ⟨q3, q4⟩ := unhide HQ _ (unhide HBr)
      by_cases hb : bt x e = 1
      · rw [hb] at hug hd2
        have hq := q4 (us C p e n - 1) (by omega)
        have HS2 : Hid (cs C K n p i (e + 1) = cs C K n p i e + co K e (us C p e n - 1)) := by show _ = _; rw [unhide HS, if_pos hb]
        obtain ⟨u, hu⟩ : ∃ u, us C p e n = u + 1 := ⟨us C p e n - 1, by omega⟩
        rw [hu] at hul hq hok HS2
        rw [hu]
        rw [Nat.add_sub_cancel] at hq hok HS2
        clear q4 hb HS hu
        generalize cs C K n p i e = S at *
        generalize co K e u = Z at *
        go_wp2_with fail
        go_quiet (fail)
        go_wp2
        go_roundw
        case rel => exact ⟨(unhide HBr).trans (below_drewN _ _ _), e + 1, by omega, by go_num, by rw [unhide HS2]⟩
        case measure => simp [intOf]; omega
      · have hb0 : bt x e = 0 := by have := bt_le x e; omega
        rw [hb0] at hd2
        have HS2 : Hid (cs C K n p i (e + 1) = cs C K n p i e) := by show _ = _; rw [unhide HS, if_neg hb, Int.add_zero]
        clear q4 hb hb0 HS hug hok
        generalize us C p e n = u at *
        generalize cs C K n p i e = S at *
        go_wp2_with fail
        go_quiet (fail)
        go_wp2
        go_roundw
        case rel => exact ⟨(unhide HBr).trans (below_drewN _ _ _), e + 1, by omega, by go_num, by rw [unhide HS2]⟩
        case measure => simp [intOf]; omega
    · obtain rfl : m = e := by omega
      have HBX := hide (unhide HBT _ (unhide HBq))
      go_wp2
      go_ret
      exact ⟨rfl, unhide HBX⟩
end Go.Proofs.Ytcannknicfnkdaa
