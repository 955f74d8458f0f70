import Derived.Test.YtcannknicfnkdaaG
namespace Go.Proofs.Ytcannknicfnkdaa
open Go.RowKit
theorem lF_succ (n : Nat) (f : Nat → Int) : lF (n + 1) f = lF n f ++ [f n] := by unfold lF; rw [List.range_succ, List.map_append]; rfl
theorem cost7_err (ca : Option Addr) (cn cc : Nat) (C : List Sl) (ka : Option Addr) (kn kc : Nat) (K : List Sl) (pa : Option Addr) (pn pc : Nat) (p : List Int) (w : World) (hC : Lsts w ca cn cc C) (hK : Lsts w ka kn kc K) (hp : Ints w pa pn pc p) (hE : aE C K p ≠ 0) :
    Calls Try.prog 7 #[rV ca cn cc ka kn kc, .slice pa pn pc] w fun e w' => e = .returned (two (.slice none 0 0) (aE C K p)) ∧ Below w.heap.size w w' := by
  obtain ⟨W, hW, hbW, hlt0, hbox⟩ := box_cells (w := w) ca cn cc ka kn kc
  have HW := hide hW
  have HBW := hide hbW
  have w0 := (hbox W (Below.refl _ _)).1
  have w1 := (hbox W (Below.refl _ _)).2
  have CR := hide (mayBeAt_any ca cn cc C ka kn kc K pa pn pc p W (hC.later hbW) (hK.later hbW) (hp.later hbW))
  clear hC hK hp hW hbW hbox hlt0
  unfold rV at *
  generalize aE C K p = E at *
  have hd : (E == 0) = false := by simp [hE]
  clear hE
  go_enter Try.func7, Try.ntmps7
  go_wp2_with fail
  rw [unhide HW]
  go_wp2_with fail
  refine (unhide CR).mono ?_
  rintro e wa ⟨rfl, hba⟩
  have HBa := hide (Below.trans (unhide HBW) (hba.mono (unhide HBW).size))
  clear hba w0 w1
  go_wp2
  go_ret2
  exact ⟨rfl, unhide HBa⟩
theorem height_err (ca : Option Addr) (cn cc : Nat) (C : List Sl) (ka : Option Addr) (kn kc : Nat) (K : List Sl) (pa : Option Addr) (pn pc : Nat) (p : List Int) (w : World) (hC : Lsts w ca cn cc C) (hK : Lsts w ka kn kc K) (hp : Ints w pa pn pc p) (hE : aE C K p ≠ 0) :
    Calls Try.prog 8 #[rV ca cn cc ka kn kc, .slice pa pn pc] w fun e w' => e = .returned (two (.int .i64 0) (aE C K p)) ∧ Below w.heap.size w w' := by
  obtain ⟨W, hW, hbW, hlt0, hbox⟩ := box_cells (w := w) ca cn cc ka kn kc
  have HW := hide hW
  have HBW := hide hbW
  have w0 := (hbox W (Below.refl _ _)).1
  have w1 := (hbox W (Below.refl _ _)).2
  have CR := hide (mayBeAt_any ca cn cc C ka kn kc K pa pn pc p W (hC.later hbW) (hK.later hbW) (hp.later hbW))
  clear hC hK hp hW hbW hbox hlt0
  unfold rV at *
  generalize aE C K p = E at *
  have hd : (E == 0) = false := by simp [hE]
  clear hE
  go_enter Try.func8, Try.ntmps8
  go_wp2_with fail
  rw [unhide HW]
  go_wp2_with fail
  refine (unhide CR).mono ?_
  rintro e wa ⟨rfl, hba⟩
  have HBa := hide (Below.trans (unhide HBW) (hba.mono (unhide HBW).size))
  clear hba w0 w1
  go_wp2
  go_ret2
  exact ⟨rfl, unhide HBa⟩
set_option maxRecDepth 100000 in
set_option maxHeartbeats 4000000 in
theorem cost7_ok (ca : Option Addr) (n cc : Nat) (C : List Sl) (ka : Option Addr) (m kc : Nat) (K : List Sl) (pa : Option Addr) (pc : Nat) (p : List Int) (w : World) (hC : Lsts w ca n cc C) (hK : Lsts w ka m kc K) (hp : Ints w pa n pc p) (hR : Rds C K n m) (hO : OkP C n p) (hE : aE C K p = 0) :
    Calls Try.prog 7 #[rV ca n cc ka m kc, .slice pa n pc] w fun e w' => ∃ va vc, e = .returned (two (.slice va n vc) 0) ∧ Ints w' va n vc (lF n (fun i => cs C K n p i m)) ∧ Below w.heap.size w w' := by
  have hc1 := hC.2.1
  have hc2 := hC.2.2.1
  have hk1 := hK.2.1
  have hk2 := hK.2.2.1
  have hp1 := hp.2.1
  have hp2 := hp.2.2.1
  unfold maxLen at hc2 hk2 hp2
  have n1 := hR.n1
  have n5 := hR.n5
  have m6 := hR.m6
  obtain ⟨W, hW, hbW, hlt0, hbox⟩ := box_cells (w := w) ca n cc ka m kc
  have HW := hide hW
  have HBX0 := hide hbox
  have HBT := hide (fun (wr : World) (hb : Below W.heap.size W wr) => Below.trans hbW (hb.mono hbW.size))
  have w0 := (hbox W (Below.refl _ _)).1
  have w1 := (hbox W (Below.refl _ _)).2
  have hCW := hC.later hbW
  have hKW := hK.later hbW
  have hPW := hp.later hbW
  have CM := mayBeAt_any ca n cc C ka m kc K pa n pc p W hCW hKW hPW
  rw [hE] at CM
  have CM := hide CM
  have CC : Hid (∀ (wr : World), Below W.heap.size W wr → ∀ i : Nat, i < n → Calls Try.prog 23 #[rV ca n cc ka m kc, .slice pa n pc, .int .i64 (i : Int)] wr fun r w' => r = .returned (.int .i64 (cs C K n p i m)) ∧ Below wr.heap.size wr w') := fun wr hb i hi => cost_any ca n cc C ka m kc K pa pc p i wr (hCW.later hb) (hKW.later hb) (hPW.later hb) hR hO hi
  clear hC hK hp hW hbW hbox hlt0 hR hO hCW hKW hPW hE
  unfold rV at *
  generalize hf : (fun i => cs C K n p i m) = f
  have HF : Hid (∀ i, cs C K n p i m = f i) := fun i => by rw [← hf]
  clear hf
  go_enter Try.func7, Try.ntmps7
  go_wp2_with fail
  rw [unhide HW]
  go_wp2_with fail
  refine (unhide CM).mono ?_
  rintro e wa ⟨rfl, hba⟩
  have HBa := hide hba
  clear hba w0 w1 CM
  go_wp2
  go_loopw [17, 7, 8] (fun i r _ wr => Hid (Below W.heap.size W wr) ∧ ∃ k : Nat, k ≤ n ∧ i = .int .i64 k ∧ Hid (wr.ownsRow W.heap.size 3 1 r k (intVals (lF k f)))) (fun i _ _ _ => n - (intOf i).toNat)
  case atStart => exact ⟨HBa, 0, Nat.zero_le _, rfl, World.ownsRow_nil _ _ _ _⟩
  case round =>
    clear HBa
    obtain ⟨HBr, k, hk, rfl, HR⟩ := hrel
    have w0 := (unhide HBX0 _ (unhide HBr)).1
    have w1 := (unhide HBX0 _ (unhide HBr)).2
    by_cases hlt : k < n
    · have C1 := unhide CC _ (unhide HBr) k hlt
      rw [unhide HF k] at C1
      have C1 := hide C1
      have HFK : Hid (∃ fk, fk = f k) := ⟨_, rfl⟩
      obtain ⟨fk, hfk⟩ := unhide HFK
      rw [← hfk] at C1
      have HFK := hide hfk
      clear hfk
      go_wp2_with fail
      refine (unhide C1).mono ?_
      rintro e w4 ⟨rfl, hb4⟩
      have HB4 := hide ((unhide HBr).trans (hb4.mono (unhide HBr).size))
      have HR4 := hide (owns_later (unhide HR) hb4)
      clear hb4 w0 w1 C1
      go_wp2_with (at_builtin; refine wpList_append_int _ rfl _ _ rfl W.heap.size _ _ _ rfl ((unhide HR4).alloc _) w4.heap.size fk rfl (by simp) (by omega) (by have := (unhide HB4).size; simp; omega) ?_; intro v2 w3 ho2 hg2)
      go_roundw
      case rel =>
        have hb5 := (((Below.refl W.heap.size w4).alloc (unhide HB4).size (.cells #[.int .i64 fk] 3)).grown hg2 (by have := (unhide HB4).size; simp; omega) (fun q hq => ((unhide HR4).lt q hq).1))
        refine ⟨(unhide HB4).trans hb5, k + 1, by omega, by go_num, ?_⟩
        show _root_.Go.World.ownsRow _ _ _ _ _ _ _
        rw [lF_succ, intVals_append, ← unhide HFK]
        exact ho2
      case measure => simp [intOf]; omega
    · obtain rfl : n = k := by omega
      obtain ⟨va, vc, hv, hI, _⟩ := Ints.of_owns (unhide HR) (by omega)
      subst hv
      have HBX := hide (unhide HBT _ (unhide HBr))
      have HI := hide hI
      clear hI
      go_wp2
      go_ret2
      exact ⟨va, vc, rfl, unhide HI, unhide HBX⟩
set_option maxRecDepth 100000 in
set_option maxHeartbeats 4000000 in
theorem height_ok (ca : Option Addr) (n cc : Nat) (C : List Sl) (ka : Option Addr) (m kc : Nat) (K : List Sl) (pa : Option Addr) (pc : Nat) (p : List Int) (w : World) (hC : Lsts w ca n cc C) (hK : Lsts w ka m kc K) (hp : Ints w pa n pc p) (hR : Rds C K n m) (hO : OkP C n p) (hE : aE C K p = 0) :
    Calls Try.prog 8 #[rV ca n cc ka m kc, .slice pa n pc] w fun e w' => e = .returned (two (.int .i64 (hg C K n p m)) 0) ∧ Below w.heap.size w w' := by
  have hc1 := hC.2.1
  have hc2 := hC.2.2.1
  have hk1 := hK.2.1
  have hk2 := hK.2.2.1
  have hp1 := hp.2.1
  have hp2 := hp.2.2.1
  unfold maxLen at hc2 hk2 hp2
  have n1 := hR.n1
  have n5 := hR.n5
  have m6 := hR.m6
  obtain ⟨W, hW, hbW, hlt0, hbox⟩ := box_cells (w := w) ca n cc ka m kc
  have HW := hide hW
  have HBX0 := hide hbox
  have HBT := hide (fun (wr : World) (hb : Below W.heap.size W wr) => Below.trans hbW (hb.mono hbW.size))
  have w0 := (hbox W (Below.refl _ _)).1
  have w1 := (hbox W (Below.refl _ _)).2
  have hCW := hC.later hbW
  have hKW := hK.later hbW
  have hPW := hp.later hbW
  have CM := mayBeAt_any ca n cc C ka m kc K pa n pc p W hCW hKW hPW
  rw [hE] at CM
  have CM := hide CM
  have HKD := hide (fun hm => kd_cells (C := C) hKW hR hm)
  have CT : Hid (∀ (wr : World), Below W.heap.size W wr → Calls Try.prog 24 #[rV ca n cc ka m kc, .slice pa n pc] wr fun e w' => ∃ g, e = .returned (.slice (some ⟨g, 0, none⟩) m m) ∧ Ints w' (some ⟨g, 0, none⟩) m m (lF m (fun e => (us C p e n : Int))) ∧ Below wr.heap.size wr w') := fun wr hb => taken_any ca n cc C ka m kc K pa pc p wr (hCW.later hb) (hKW.later hb) (hPW.later hb) hR hO
  have HBD := hide (fun e he => hg_bd (C := C) hR.ok p hR.n5 e he)
  have HSD := hide (fun e he k hk => sm_bd hR.ok e he k hk)
  have HOK := hide hR.ok
  clear hC hK hp hW hbW hbox hlt0 hR hO hCW hKW hPW hE
  unfold rV at *
  go_enter Try.func8, Try.ntmps8
  go_wp2_with fail
  rw [unhide HW]
  go_wp2_with fail
  refine (unhide CM).mono ?_
  rintro e wa ⟨rfl, hba⟩
  have HBa := hide hba
  clear hba w0 w1 CM
  have w0 := (unhide HBX0 _ (unhide HBa)).1
  have w1 := (unhide HBX0 _ (unhide HBa)).2
  have CT := hide (unhide CT _ (unhide HBa))
  go_wp2_with fail
  refine (unhide CT).mono ?_
  rintro r w2 ⟨g, rfl, hT, hb2⟩
  have HT := hide hT
  have HB2 := hide ((unhide HBa).trans (hb2.mono (unhide HBa).size))
  clear hT hb2 w0 w1 HBa CT
  have w0 := (unhide HBX0 _ (unhide HB2)).1
  have w1 := (unhide HBX0 _ (unhide HB2)).2
  have HBX := hide (unhide HBT _ (unhide HB2))
  go_wp2
  go_loop [22, 7, 8, 9, 11] (fun i' s _ _ _ => ∃ k : Nat, k ≤ m ∧ i' = .int .i64 k ∧ s = .int .i64 (hg C K n p k)) (fun i' _ _ _ _ => m - (intOf i').toNat)
  case atStart => exact ⟨0, Nat.zero_le _, rfl, rfl⟩
  case round =>
    obtain ⟨e, he, rfl, rfl⟩ := hrel
    by_cases hlt : e < m
    · obtain ⟨tb, to', et, htb, htc⟩ := (unhide HT).nth (by omega)
      cases et
      have hte := htc e hlt
      rw [lF_at hlt, Nat.zero_add] at hte
      clear htc
      have hul := us_le C p e n
      have hbd := unhide HBD e (by omega)
      obtain ⟨kb, ko, rfl, hkd⟩ := unhide HKD (by omega)
      obtain ⟨jb, jo, lk, q1, q2, hkd⟩ := hkd e hlt
      obtain ⟨q3, q4⟩ := hkd _ (unhide HB2)
      have HQ := hide q4
      clear q4 hkd
      have HNX : Hid (∀ u, us C p e n = u → hg C K n p (e + 1) = hg C K n p e + sm K e u) := fun u hu => by rw [← hu]; rfl
      have HSD := hide (unhide HSD e hlt)
      have HOK := hide (unhide HOK e hlt)
      have HNX := hide (unhide HNX _ rfl)
      generalize us C p e n = u at *
      generalize hg C K n p e = S at *
      go_wp2
      go_loop [35, 7, 11] (fun i' s _ => ∃ k : Nat, k ≤ u ∧ i' = .int .i64 k ∧ s = .int .i64 (S + sm K e k)) (fun i' _ _ => u - (intOf i').toNat)
      case atStart => exact ⟨0, Nat.zero_le _, rfl, by show _ = Value.int .i64 (S + 0); rw [Int.add_zero]⟩
      case round =>
        obtain ⟨k, hk, rfl, rfl⟩ := hrel
        by_cases hlk : k < u
        · have hq := unhide HQ k (by omega)
          have b1 := unhide HSD k (by omega)
          have b2 := unhide HOK k (by omega)
          have HS : Hid (S + sm K e (k + 1) = S + sm K e k + co K e k) := by show S + (sm K e k + co K e k) = _; omega
          generalize sm K e k = T at *
          generalize co K e k = Z at *
          have ew : IntKind.i64.wrap (S + T + Z) = S + T + Z := wrap_in _ (by omega) (by omega)
          go_wp2
          exact ⟨⟨k + 1, by omega, by go_num, by rw [unhide HS]⟩, by simp [intOf]; omega⟩
        · obtain rfl : u = k := by omega
          go_wp2
          exact ⟨⟨e + 1, by omega, by go_num, by rw [unhide HNX]⟩, by simp [intOf]; omega⟩
    · obtain rfl : m = e := by omega
      go_wp2
      go_ret2
      exact ⟨rfl, unhide HBX⟩
set_option maxRecDepth 100000 in
set_option maxHeartbeats 4000000 in
theorem heightOf_any (ca : Option Addr) (n cc : Nat) (C : List Sl) (ka : Option Addr) (m kc : Nat) (K : List Sl) (pa : Option Addr) (pc : Nat) (p : List Int) (w : World) (hC : Lsts w ca n cc C) (hK : Lsts w ka m kc K) (hp : Ints w pa n pc p) (hR : Rds C K n m) (hO : OkP C n p) :
    Calls Try.prog 14 #[rV ca n cc ka m kc, .slice pa n pc] w fun e w' => e = .returned (.int .i64 (hg C K n p m)) ∧ Below w.heap.size w w' := by
  have hc1 := hC.2.1
  have hc2 := hC.2.2.1
  have hk1 := hK.2.1
  have hk2 := hK.2.2.1
  have hp1 := hp.2.1
  have hp2 := hp.2.2.1
  unfold maxLen at hc2 hk2 hp2
  have n1 := hR.n1
  have n5 := hR.n5
  have m6 := hR.m6
  obtain ⟨W, hW, hbW, hlt0, hbox⟩ := box_cells (w := w) ca n cc ka m kc
  have HW := hide hW
  have HBX0 := hide hbox
  have HBT := hide (fun (wr : World) (hb : Below W.heap.size W wr) => Below.trans hbW (hb.mono hbW.size))
  have w0 := (hbox W (Below.refl _ _)).1
  have w1 := (hbox W (Below.refl _ _)).2
  have hCW := hC.later hbW
  have hKW := hK.later hbW
  have hPW := hp.later hbW
  have HKD := hide (fun hm => kd_cells (C := C) hKW hR hm)
  have CU : Hid (∀ (wr : World), Below W.heap.size W wr → ∀ e : Nat, e ≤ 6 → Calls Try.prog 30 #[rV ca n cc ka m kc, .slice pa n pc, .int .i64 (e : Int)] wr fun r w' => r = .returned (.int .i64 (us C p e n)) ∧ Below wr.heap.size wr w') := fun wr hb e he => users_any ca n cc C ka m kc K pa pc p e wr (hCW.later hb) (hKW.later hb) (hPW.later hb) hR hO he
  have HBD := hide (fun e he => hg_bd (C := C) hR.ok p hR.n5 e he)
  have HSD := hide (fun e he k hk => sm_bd hR.ok e he k hk)
  have HOK := hide hR.ok
  clear hC hK hp hW hbW hbox hlt0 hR hO hCW hKW hPW
  unfold rV at *
  go_enter Try.func14, Try.ntmps14
  go_wp2_with fail
  rw [unhide HW]
  go_wp2
  go_loopw [5, 6, 7, 8] (fun s i' _ _ wr => Hid (Below W.heap.size W wr) ∧ ∃ k : Nat, k ≤ m ∧ i' = .int .i64 k ∧ s = .int .i64 (hg C K n p k)) (fun _ i' _ _ _ => m - (intOf i').toNat)
  case atStart => exact ⟨Below.refl _ _, 0, Nat.zero_le _, rfl, rfl⟩
  case round =>
    clear w0 w1
    obtain ⟨HBq, e, he, rfl, rfl⟩ := hrel
    have w0 := (unhide HBX0 _ (unhide HBq)).1
    have w1 := (unhide HBX0 _ (unhide HBq)).2
    by_cases hlt : e < m
    · have CE := hide (unhide CU _ (unhide HBq) e (by omega))
      have hul := us_le C p e n
      have hbd := unhide HBD e (by omega)
      obtain ⟨kb, ko, rfl, hkd⟩ := unhide HKD (by omega)
      obtain ⟨jb, jo, lk, q1, q2, hkd⟩ := hkd e hlt
      have HQ0 := hide hkd
      have HSD := hide (unhide HSD e hlt)
      have HOK := hide (unhide HOK e hlt)
      have HNX : Hid (hg C K n p (e + 1) = hg C K n p e + sm K e (us C p e n)) := rfl
      clear hkd
      generalize us C p e n = u at *
      generalize hg C K n p e = S at *
      go_wp2_with fail
      refine (unhide CE).mono ?_
      rintro r w2 ⟨rfl, hb2⟩
      have HBr : Hid (Below W.heap.size W w2) := (unhide HBq).trans (hb2.mono (unhide HBq).size)
      clear hb2 w0 w1 CE
      have w0 := (unhide HBX0 _ (unhide HBr)).1
      have w1 := (unhide HBX0 _ (unhide HBr)).2
      obtain ⟨q3, q4⟩ := unhide HQ0 _ (unhide HBr)
      have HQ := hide q4
      clear q4 HQ0
      go_wp2
      go_loop [5, 8] (fun s i' => ∃ k : Nat, k ≤ u ∧ i' = .int .i64 k ∧ s = .int .i64 (S + sm K e k)) (fun _ i' => u - (intOf i').toNat)
      case atStart => exact ⟨0, Nat.zero_le _, rfl, by show _ = Value.int .i64 (S + 0); rw [Int.add_zero]⟩
      case round =>
        obtain ⟨k, hk, rfl, rfl⟩ := hrel
        by_cases hlk : k < u
        · have hq := unhide HQ k (by omega)
          have b1 := unhide HSD k (by omega)
          have b2 := unhide HOK k (by omega)
          have HS : Hid (S + sm K e (k + 1) = S + sm K e k + co K e k) := by show S + (sm K e k + co K e k) = _; omega
          generalize sm K e k = T at *
          generalize co K e k = Z at *
          have ew : IntKind.i64.wrap (S + T + Z) = S + T + Z := wrap_in _ (by omega) (by omega)
          go_wp2
          exact ⟨⟨k + 1, by omega, by go_num, by rw [unhide HS]⟩, by simp [intOf]; omega⟩
        · obtain rfl : u = k := by omega
          go_wp2
          go_roundw
          case rel => exact ⟨HBr, e + 1, by omega, by go_num, by rw [unhide HNX]⟩
          case measure => simp [intOf]; omega
    · obtain rfl : m = e := by omega
      have HBX := hide (unhide HBT _ (unhide HBq))
      go_wp2
      go_ret
      exact ⟨rfl, unhide HBX⟩
end Go.Proofs.Ytcannknicfnkdaa
