import Derived.Test.YtffnhflbhckhbaaDoorQS
import Derived.Test.YtffnhflbhckhbaaDoorRX
import Derived.BigQuiet
namespace Go.Proofs.YtffnhflbhckhbaaDoor
open Go.RowKit Go.Shelf
attribute [local go_sem] Oper.semAt_some
theorem alloc_later (w : World) (o : Obj) : Below w.heap.size w (w.alloc o) := by go_grown
theorem xor_not : ∀ u : Nat, u < 256 → bits .xor .u64 IntKind.u64.max (u : Int) = ((18446744073709551615 - u : Nat) : Int) := by decide +kernel
theorem pow_lt {n u : Nat} (hn : n ≤ 8) (hu : u < 2 ^ n) : u < 256 := Nat.lt_of_lt_of_le hu (Nat.le_trans (Nat.pow_le_pow_right (by omega) hn) (by decide))
theorem full_bits : ∀ n : Nat, n ≤ 8 → ∀ j, j < n → (2 ^ n - 1).testBit j = true := by decide +kernel
theorem or_lt_pow : ∀ n : Nat, n ≤ 8 → ∀ u : Nat, u < 2 ^ n → ∀ k, k < n → u ||| 2 ^ k < 2 ^ n := by
  intro n _ u hu k hk
  exact Nat.or_lt_two_pow hu (Nat.pow_lt_pow_right (by omega) hk)
theorem free_sub (n : Nat) {u v : Nat} (h : ∀ j, u.testBit j = true → v.testBit j = true) : freeN n v ≤ freeN n u := by
  unfold freeN cntF
  induction n with
  | zero => exact Nat.le_refl _
  | succ n ih =>
    rw [List.range_succ, List.filter_append, List.filter_append, List.length_append, List.length_append]
    have := h n
    cases hu : u.testBit n <;> cases hv : v.testBit n <;> simp_all <;> omega
/-- What the search of a round leaves. -/
def RR (s : Sw) (S : Nat → Prop) (bM u : Nat) (m : Nat → Option Value) (W : World) (v : Int) (X' : World) : Prop :=
  ∃ X N' m', Below W.heap.size W X ∧ Opt s (Ub u) v ∧ Fnd s (fun b => S b ∨ (X.heap.size ≤ b ∧ b < X'.heap.size)) X' bM N' m' ∧ (∀ x st, m x = some st → m' x = some st) ∧ (∀ x, m x = none → (m' x).isSome = true → ∀ j, u.testBit j = true → x.testBit j = true) ∧ (u = 2 ^ s.n - 1 ∨ (m' u).isSome = true) ∧ Keep (fun b => b < X.heap.size ∧ b ≠ bM) X X'
set_option maxRecDepth 100000 in
set_option maxHeartbeats 8000000 in
theorem search_any {gv rd rw : Int} {fa : Option Addr} {fn fc : Nat} {F : List Sl} (hs : (sOf gv rd rw F).Ok) (h8 : F.length ≤ 8) (hfl : ∀ x ∈ F, x.ln ≤ 1024) (bM : Nat) (hM1 : bM ≠ 1) : ∀ (f u : Nat), freeN F.length u < f → u < 2 ^ F.length → ∀ (W : World) (N : Nat) (m : Nat → Option Value) (S : Nat → Prop), (∀ b, S b → b < W.heap.size) → Fnd (sOf gv rd rw F) S W bM N m → Lsts W fa fn fc F → Tab W →
    Calls Tryd.prog 13 #[swV gv rd rw fa fn fc, .int .i64 (u : Int), .map (some bM)] W (SPost (sOf gv rd rw F) S bM u m W) := by
  intro f
  induction f with
  | zero => intro u hf; omega
  | succ f ih =>
    intro u hf hu W N m S hS hFd hF hT
    have HFN : Hid (fn = F.length) := hF.1
    have hu8 := pow_lt h8 hu
    have hbM := hFd.lt
    obtain ⟨W1, hW1⟩ : ∃ y, y = ((W.alloc (.cells #[.int .i64 gv, .slice fa fn fc, .int .i64 rd, .int .i64 rw] 24)).alloc (.cells #[.int .i64 (u : Int)] 3)).alloc (.cells #[.map (some bM)] 37) := ⟨_, rfl⟩
    have hb1 : Below W.heap.size W W1 := by rw [hW1]; go_grown
    have hs1 : W1.heap.size = W.heap.size + 1 + 1 + 1 := by rw [hW1]; simp
    have n0 : ∀ (i : Nat) (v : Value), (#[.int .i64 gv, .slice fa fn fc, .int .i64 rd, .int .i64 rw] : Array Value)[i]? = some v → W1.cell? ⟨W.heap.size, i, none⟩ = some v := fun i v h => by rw [hW1]; exact cell_alloc (cell_alloc (cell_new rfl h))
    have b0 : SBox W1 W.heap.size gv rd rw fa fn fc := ⟨n0 0 _ rfl, n0 1 _ rfl, n0 2 _ rfl, n0 3 _ rfl⟩
    have b1 : W1.cell? ⟨W.heap.size + 1, 0, none⟩ = some (.int .i64 (u : Int)) := by rw [hW1]; exact cell_alloc (cell_new (by simp) rfl)
    have b2 : W1.cell? ⟨W.heap.size + 1 + 1, 0, none⟩ = some (.map (some bM)) := by rw [hW1]; exact cell_new (by simp) rfl
    have HW1 := hide hW1
    clear hW1 n0
    have HIH := hide ih
    have HFD := hide hFd
    clear ih hFd
    unfold swV
    refine (callsIn_wide (n := 9)).1 ?_
    refine callsIn_of_wp_marks Tryd.func13 rfl trivial ?_
    simp only [Tryd.ntmps13, List.size_toArray, List.length_cons, List.length_nil, Nat.reduceAdd, Nat.reduceSub, Array.replicate_succ, Array.replicate_zero, List.push_toArray, List.append_toArray, List.nil_append, List.cons_append]
    refine (wpIn_wide).2 ?_
    go_wp2_with fail
    rw [← unhide HW1]
    obtain ⟨eb, heb⟩ : ∃ eb, ((u : Int) == ((2 ^ fn - 1 : Nat) : Int)) = eb := ⟨_, rfl⟩
    refine (wpIn_wide (n := 9)).1 ?_
    refine wp_region_vals (fun _ => trivial) rfl Da Sa _ (by kernel_rfl) (by kernel_rfl) (by kernel_rfl) (by kernel_rfl) (by kernel_rfl) (by kernel_rfl) (by kernel_rfl) ⟨Det.nil _, (Below.refl _ _).drew⟩ (stepsa (W := W1) (Bu := W.heap.size + 1) (Bs := W.heap.size) rfl rfl (by omega) b1 b0 (by rw [unhide HFN]; exact h8) heb rfl rfl rfl rfl rfl rfl rfl rfl) ?_
    rintro l vals w2 ⟨hDt, hb2⟩ hall
    have v3 := hDt 3 _ rfl (hall 3 (by decide))
    clear hDt hall
    simp only [finA, Sa, Act.put, List.setIfInBounds_toArray, List.set_cons_succ, List.set_cons_zero, v3]
    have hbw2 : Below W.heap.size W w2 := hb1.trans (hb2.mono hb1.size)
    have s0 := b0.later hb2
    have s1 := (hb2.cell (p := ⟨W.heap.size + 1, 0, none⟩) (by show W.heap.size + 1 < W1.heap.size; omega)).trans b1
    have s2 := (hb2.cell (p := ⟨W.heap.size + 1 + 1, 0, none⟩) (by show W.heap.size + 1 + 1 < W1.heap.size; omega)).trans b2
    have hs2 : W.heap.size + 1 + 1 + 1 ≤ w2.heap.size := by have := hb2.size; omega
    clear b0 b1 b2 hb1 hs1 HW1 hb2
    cases eb with
    | true =>
      have hue : u = 2 ^ F.length - 1 := by
        have := eq_of_beq heb
        rw [unhide HFN] at this
        omega
      have HFIN : Hid (SPost (sOf gv rd rw F) S bM u m W (.returned (.int .i64 0)) w2) := by
        refine ⟨0, N, m, rfl, opt_full (fun x h0 hx => ?_), (unhide HFD).keep (T := fun b => b < W.heap.size) (Keep.of_below hbw2 (fun _ h => h)) hS hbM (fun b h => .inl h), fun _ _ h => h, (fun x h1 h2 => by rw [h1] at h2; cases h2), .inl hue, Keep.of_below hbw2 (fun _ h => h.1)⟩
        unfold Ub
        rw [hue]
        exact full_bits _ h8 _ (by show x.toNat < F.length; have : x < (F.length : Int) := hx; omega)
      clear s0 s1 s2
      go_wp2_with fail
      refine ⟨_, results_tmp rfl _ _ _, ?_⟩
      exact unhide HFIN
    | false =>
      have hFw : Fm w2 bM N m := (unhide HFD).map.keep (S := fun b => b < W.heap.size) (Keep.of_below hbw2 (fun _ h => h)) hbM
      have hlk := hFw.look hu8
      have HFW := hide hFw
      cases hmu : m u with
      | some st =>
        obtain ⟨la, ln, lc, c, g, u', hst, e2, e3, e4, e5⟩ := (unhide HFD).ent u st hu hmu
        have HFIN : Hid (∀ w3, Below W.heap.size W w3 → SPost (sOf gv rd rw F) S bM u m W (.returned (.int .i64 g)) w3) := fun w3 hw3 => ⟨g, N, m, rfl, e3, (unhide HFD).keep (T := fun b => b < W.heap.size) (Keep.of_below hw3 (fun _ h => h)) hS hbM (fun b h => .inl h), fun _ _ h => h, (fun x h1 h2 => by rw [h1] at h2; cases h2), .inr (by rw [hmu]; rfl), Keep.of_below hw3 (fun _ h => h.1)⟩
        subst hst
        rw [hmu] at hlk
        simp only [Option.getD_some, Option.isSome_some] at hlk
        have HBW2 := hide hbw2
        clear e2 e3 e4 e5 hFw hmu s0
        go_wp2_with fail
        refine ⟨_, results_tmp rfl _ _ _, ?_⟩
        exact unhide HFIN _ ((unhide HBW2).alloc (by omega) _)
      | none =>
        rw [hmu] at hlk
        simp only [Option.getD_none, Option.isSome_none, zst] at hlk
        have q0 : W.heap.size < w2.heap.size := by omega
        have q1 : W.heap.size + 1 < w2.heap.size := by omega
        have q2 : W.heap.size + 1 + 1 < w2.heap.size := by omega
        obtain ⟨w3, hw3⟩ : ∃ y, y = w2.alloc (.cells #[.slice none 0 0, .int .i64 0, .int .i64 0] 40) := ⟨_, rfl⟩
        have hb3 : Below w2.heap.size w2 w3 := by rw [hw3]; exact alloc_later _ _
        have hbw3 : Below W.heap.size W w3 := hbw2.trans (hb3.mono hbw2.size)
        have HW3 := hide hw3
        have hT3 := hT.later hbw3
        have hu255 : u < 255 := by
          have h1 : ¬ u = 2 ^ F.length - 1 := fun q => by
            rw [unhide HFN, q] at heb
            simp at heb
          have : 2 ^ F.length ≤ 2 ^ 8 := Nat.pow_le_pow_right (by omega) h8
          omega
        have HTZ := hide (tz_any u hu255 w3 hT3)
        have xr : ((18446744073709551615 - u : Nat) : Int) = 18446744073709551615 - (u : Int) := by omega
        clear hw3
        go_wp2_with fail
        rw [xor_not u hu8, ← unhide HW3]
        refine (unhide HTZ).mono ?_
        rintro e w' ⟨rfl, hw'⟩
        subst w'
        have hne : u ≠ 2 ^ F.length - 1 := fun q => by
          rw [unhide HFN, q] at heb
          simp at heb
        have ha := low_lt F.length h8 u hu hne
        have ha8 : lowB u < 8 := by omega
        have hab := (low_spec u hu8).1 ha8
        have hbl := (low_spec u hu8).2
        obtain ⟨a0, ha0⟩ : ∃ a0, a0 = lowB u := ⟨_, rfl⟩
        rw [← ha0] at ha ha8 hab hbl ⊢
        have hor := or_bit u hu8 a0 ha8
        have c0 := (s0.later hb3).c0
        have c1 := (s0.later hb3).c1
        have c2 := (s0.later hb3).c2
        have c3 := (s0.later hb3).c3
        have t1 := (hb3.cell (p := ⟨W.heap.size + 1, 0, none⟩) q1).trans s1
        have t2 := (hb3.cell (p := ⟨W.heap.size + 1 + 1, 0, none⟩) q2).trans s2
        have hs3 := hb3.size
        have S3 := hide (s0.later hb3)
        have HA0 := hide ha0
        clear s0 s1 s2 hlk HW3 HTZ xr hT3 hb3 ha0 hFw hbw2
        go_wp2_with fail
        go_quiet (fail)
        have hbz := below_drewN w3.heap.size w3 nq
        have hbw4 : Below W.heap.size W (w3.drewN nq) := hbw3.trans (hbz.mono hbw3.size)
        have hs4 := hbz.size
        have S4 := hide ((unhide S3).later hbz)
        have d0 := (unhide S4).c0
        have d1 := (unhide S4).c1
        have d2 := (unhide S4).c2
        have d3 := (unhide S4).c3
        have e1 := (hbz.cell (p := ⟨W.heap.size + 1, 0, none⟩) (by show W.heap.size + 1 < _; omega)).trans t1
        have e2 := (hbz.cell (p := ⟨W.heap.size + 1 + 1, 0, none⟩) (by show W.heap.size + 1 + 1 < _; omega)).trans t2
        clear c0 c1 c2 c3 t1 t2 hbz S3
        generalize w3.drewN nq = w4 at *
        have hu1 : u ||| 2 ^ a0 < 2 ^ F.length := or_lt_pow F.length h8 u hu a0 ha
        have hfr : freeN F.length (u ||| 2 ^ a0) < f := by have := free_step ha hab; omega
        have hFd4 : Fnd (sOf gv rd rw F) S w4 bM N m := (unhide HFD).keep (T := fun b => b < W.heap.size) (Keep.of_below hbw4 (fun _ h => h)) hS hbM (fun b h => h)
        have HREC := hide (unhide HIH (u ||| 2 ^ a0) hfr hu1 w4 N m S (fun b h => Nat.lt_of_lt_of_le (hS b h) hbw4.size) hFd4 (hF.later hbw4) (hT.later hbw4))
        unfold swV at HREC
        go_wp2_with fail
        refine (unhide HREC).mono ?_
        rintro e w5 ⟨v0, N1, m1, rfl, o1, F1, x1, x2, x3, k1⟩
        have S5 : SBox w5 W.heap.size gv rd rw fa fn fc := ⟨(k1.cell (p := ⟨W.heap.size, 0, none⟩) ⟨by show W.heap.size < _; omega, by show W.heap.size ≠ bM; omega⟩).trans d0, (k1.cell (p := ⟨W.heap.size, 1, none⟩) ⟨by show W.heap.size < _; omega, by show W.heap.size ≠ bM; omega⟩).trans d1, (k1.cell (p := ⟨W.heap.size, 2, none⟩) ⟨by show W.heap.size < _; omega, by show W.heap.size ≠ bM; omega⟩).trans d2, (k1.cell (p := ⟨W.heap.size, 3, none⟩) ⟨by show W.heap.size < _; omega, by show W.heap.size ≠ bM; omega⟩).trans d3⟩
        have f1 := (k1.cell (p := ⟨W.heap.size + 1, 0, none⟩) ⟨by show W.heap.size + 1 < _; omega, by show W.heap.size + 1 ≠ bM; omega⟩).trans e1
        have f2 := (k1.cell (p := ⟨W.heap.size + 1 + 1, 0, none⟩) ⟨by show W.heap.size + 1 + 1 < _; omega, by show W.heap.size + 1 + 1 ≠ bM; omega⟩).trans e2
        have hs5 := k1.size
        have g0 := S5.c0
        have g1 := S5.c1
        have g2 := S5.c2
        have g3 := S5.c3
        have r0 : W.heap.size < w5.heap.size := by omega
        have r1 : W.heap.size + 1 < w5.heap.size := by omega
        have r2 : W.heap.size + 1 + 1 < w5.heap.size := by omega
        have HO1 := hide o1
        have HF1 := hide F1
        have HX := hide (And.intro x1 (And.intro x2 x3))
        have HK1 := hide k1
        clear d0 d1 d2 d3 e1 e2 o1 F1 x1 x2 x3 k1 HREC
        go_wp2_with fail
        obtain ⟨w6, hw6⟩ : ∃ y, y = w5.alloc (.cells #[.slice none 0 0, .int .i64 v0, .int .i64 ((u ||| 2 ^ a0 : Nat) : Int)] 40) := ⟨_, rfl⟩
        have hb6 : Below w5.heap.size w5 w6 := by rw [hw6]; exact alloc_later _ _
        have hs6 : w6.heap.size = w5.heap.size + 1 := by rw [hw6]; simp
        have hB6 : w6.heap[w5.heap.size]? = some (.cells #[.slice none 0 0, .int .i64 v0, .int .i64 ((u ||| 2 ^ a0 : Nat) : Int)] 40 (0, 0)) := by rw [hw6]; exact heap_alloc_new _ _
        have S6 := hide (S5.later hb6)
        have i1 := (hb6.cell (p := ⟨W.heap.size + 1, 0, none⟩) r1).trans f1
        have i2 := (hb6.cell (p := ⟨W.heap.size + 1 + 1, 0, none⟩) r2).trans f2
        rw [← hw6]
        clear hw6 S5 f1 f2 g0 g1 g2 g3
        refine (chains_any gv rd rw (a0 : Int) fa fn fc u w6).mono ?_
        rintro e w7 ⟨Bm, Bs, Bf, Bu, rfl, l1, l2, l3, l4, hIt, hb7⟩
        have hs7 := hb7.size
        -- from the call to the range
        have HWX : Hid (Keep (fun b => b < W.heap.size ∧ b ≠ bM) W w6) := ((Keep.of_below hbw4 (fun b hb => hb.1)).trans ((unhide HK1).sub fun b hb => ⟨by have := hb.1; omega, hb.2⟩)).trans (Keep.of_below hb6 (fun b hb => by have := hb.1; omega))
        have HE : Hid (∀ pre S' W', SI (sOf gv rd rw F) S bM w5.heap.size u a0 v0 m W w6 pre S' W' → Keep (fun b => b < W.heap.size ∧ b ≠ bM) W W' ∧ Lsts W' fa fn fc F ∧ Tab W') := fun pre S' W' h => by
          have hk : Keep (fun b => b < W.heap.size ∧ b ≠ bM) W W' := (unhide HWX).trans (h.kx.sub fun b hb => ⟨by have := hb.1; omega, hb.2, by have := hb.1; omega⟩)
          refine ⟨hk, hF.frame hk.size (fun b hb hc => hk.block b ⟨hb, fun e => ?_⟩), hT.keep hk ⟨?_, fun e => hM1 e.symm⟩⟩
          · subst e
            obtain ⟨es, clock, hmap⟩ := (unhide HFD).map.isMap
            obtain ⟨cs, t, fz, hc⟩ := hc
            rw [hmap] at hc
            cases hc
          · exact World.block_lt_of_cell? W ⟨1, 0, none⟩ (hT 0 (by decide))
        have HSI : Hid (SI (sOf gv rd rw F) S bM w5.heap.size u a0 v0 m W w6 [] (fun b => b < w6.heap.size) w7) := by
          obtain ⟨x1, x2, x3⟩ := unhide HX
          refine ⟨fun b hb => by omega, fun b hb => hb, Keep.of_below hb7 (fun b hb => hb.1), N1, m1, ?_, x1, x2, none, 0, 0, [], v0, u ||| 2 ^ a0, (hb7.block _ (by omega)).trans hB6, ⟨⟨rfl, Nat.le_refl _, Nat.zero_le _, .inl rfl⟩, .inl rfl⟩, ⟨hu1, v0, unhide HO1, .inl ⟨rfl, rfl, by rw [← unhide HA0]⟩⟩, x3, Int.le_refl _, fun o ho => by cases ho⟩
          refine (unhide HF1).keep (T := fun b => b < w5.heap.size) (Keep.of_below (hb6.trans (hb7.mono (by omega))) (fun b hb => hb)) (fun b hb => ?_) (unhide HF1).lt (fun b hb => ?_)
          · rcases hb with hb | hb
            · have := hS b hb; omega
            · exact hb.2
          · rcases hb with hb | hb
            · exact .inl hb
            · exact .inr ⟨by omega, by omega, by omega⟩
        clear HK1 HF1 HX hB6
        go_wp2_with fail
        refine (wpIn_wide (n := 9)).1 ?_
        refine range_ex (Wy (sOf gv rd rw F) u (a0 : Int)) (by omega) (gf := 31) (lb := #[.pointer (some ⟨Bm, 0, none⟩), .pointer (some ⟨Bs, 0, none⟩), .pointer (some ⟨Bf, 0, none⟩), .pointer (some ⟨Bu, 0, none⟩)]) rfl (enters_of Tryd.func31 (by kernel_rfl) rfl) rfl (SI (sOf gv rd rw F) S bM w5.heap.size u a0 v0 m W w6) (SI.inv (by omega) hS (by omega) (by omega)) (fun W' => Lsts W' fa fn fc F) (fun pre S' W' h => (unhide HE pre S' W' h).2.1) (fun b => b < w6.heap.size) (unhide HSI) (chF (sOf gv rd rw F) a0 u) ?iterG ?bodyG ?doneG
        case iterG =>
          intro lp J JI hJE hY S' W' hJ hbW' hSS
          refine callsIn_wide.2 ?_
          refine chains1_any JI hs h8 hJE hfl ha hu8 hab hY S' W' hJ (hIt.later hbW') (fun h => ?_) (fun h => ?_)
          · rcases hSS _ h with q | q
            · omega
            · have := hIt.lm; omega
          · rcases hSS _ h with q | q
            · omega
            · have := hIt.ls; omega
        case bodyG =>
          apply Exists.intro
          apply And.intro
          · intro lp mm o gb cb W' K hK
            gi_wp2
            exact hK
          · intro lp mm pre o S' W' gb cb hI hin hgS hWy
            obtain ⟨hk', hL', hT'⟩ := unhide HE _ _ _ hI
            have hkx := hI.kx
            have hsx := hkx.size
            obtain ⟨N', m', hF', y2, y3, la, ln, lc, c, g, u', y4, y5, y6, y7, y8, y9⟩ := hI.kn
            have sX : SBox W' W.heap.size gv rd rw fa fn fc := ⟨(hkx.cell (p := ⟨W.heap.size, 0, none⟩) ⟨by show W.heap.size < _; omega, by show W.heap.size ≠ bM; omega, by show W.heap.size ≠ w5.heap.size; omega⟩).trans (unhide S6).c0, (hkx.cell (p := ⟨W.heap.size, 1, none⟩) ⟨by show W.heap.size < _; omega, by show W.heap.size ≠ bM; omega, by show W.heap.size ≠ w5.heap.size; omega⟩).trans (unhide S6).c1, (hkx.cell (p := ⟨W.heap.size, 2, none⟩) ⟨by show W.heap.size < _; omega, by show W.heap.size ≠ bM; omega, by show W.heap.size ≠ w5.heap.size; omega⟩).trans (unhide S6).c2, (hkx.cell (p := ⟨W.heap.size, 3, none⟩) ⟨by show W.heap.size < _; omega, by show W.heap.size ≠ bM; omega, by show W.heap.size ≠ w5.heap.size; omega⟩).trans (unhide S6).c3⟩
            have p1 := (hkx.cell (p := ⟨W.heap.size + 1, 0, none⟩) ⟨by show W.heap.size + 1 < _; omega, by show W.heap.size + 1 ≠ bM; omega, by show W.heap.size + 1 ≠ w5.heap.size; omega⟩).trans i1
            have p2 := (hkx.cell (p := ⟨W.heap.size + 1 + 1, 0, none⟩) ⟨by show W.heap.size + 1 + 1 < _; omega, by show W.heap.size + 1 + 1 ≠ bM; omega, by show W.heap.size + 1 + 1 ≠ w5.heap.size; omega⟩).trans i2
            have ho8 : Eight o := fun x hx => by have := hWy.1.rng x hx; exact ⟨this.1, by have h2 : x < (F.length : Int) := this.2; omega⟩
            have hol : o.length ≤ 8 := Nat.le_trans (nodup_len8 hWy.2.1 (fun x hx => hWy.1.rng x hx)) h8
            have hsn : setN o < 2 ^ F.length := by
              refine Nat.lt_pow_two_of_testBit _ (fun j hj => ?_)
              rw [setN_bit o j ho8, decide_eq_false_iff_not]
              intro hm
              have : (j : Int) < (F.length : Int) := (hWy.1.rng _ hm).2
              omega
            have hu2 : u ||| setN o < 2 ^ F.length := Nat.or_lt_two_pow hu hsn
            have hsub : ∀ j, (u ||| 2 ^ a0).testBit j = true → (u ||| setN o).testBit j = true := fun j hj => by
              rw [bit_or, Bool.or_eq_true, decide_eq_true_eq] at hj
              rw [Nat.testBit_or, Bool.or_eq_true]
              refine hj.imp id fun e => ?_
              subst e
              rw [setN_bit o _ ho8, decide_eq_true_eq]
              have h1 := hWy.2.2.1
              have h2 := hWy.1.two
              unfold hd at h1
              rw [List.getElem?_eq_getElem (by omega), Option.getD_some] at h1
              rw [← h1]
              exact List.getElem_mem _
            have hfr2 : freeN F.length (u ||| setN o) < f := Nat.lt_of_le_of_lt (free_sub F.length hsub) hfr
            have HSR : Hid (∀ X, Below W'.heap.size W' X → Calls Tryd.prog 13 #[swV gv rd rw fa fn fc, .int .i64 ((u ||| setN o : Nat) : Int), .map (some bM)] X fun e X' => ∃ v, e = .returned (.int .i64 v) ∧ (0 ≤ v ∧ v ≤ 8) ∧ RR (sOf gv rd rw F) (Qs S W w5.heap.size S') bM (u ||| setN o) m' W' v X') := fun X hX => by
              have hsX := hX.size
              have hq : ∀ b, Qs S W w5.heap.size S' b → b < W'.heap.size := fun b hb => by
                rcases hb with hb | hb
                · have := hS b hb; omega
                · exact hI.lt b hb.2.1
              refine (unhide HIH (u ||| setN o) hfr2 hu2 X N' m' (Qs S W w5.heap.size S') (fun b hb => by have := hq b hb; omega) (hF'.keep (T := fun b => b < W'.heap.size) (Keep.of_below hX (fun _ h => h)) hq hF'.lt (fun _ h => h)) (hL'.later hX) (hT'.later hX)).mono ?_
              rintro e X' ⟨v, N2, m2, rfl, z1, z2, z3, z4, z5, z6⟩
              have := opt_bound z1
              exact ⟨v, rfl, ⟨this.1, by have h2 : v ≤ (F.length : Int) := this.2; omega⟩, X, N2, m2, hX, z1, z2, z3, z4, z5, z6⟩
            have hgf : (0 : Int) ≤ gift (sOf gv rd rw F) o ∧ gift (sOf gv rd rw F) o ≤ 100 := by
              have := hWy.1.two
              unfold gift
              split <;> omega
            have HSI' := hide hI
            have HY := hide (And.intro y2 (And.intro y3 (And.intro y5 (And.intro y6 (And.intro y7 (And.intro y8 y9))))))
            clear hI hF' y2 y3 y5 y6 y7 y8 y9 HSI
            gi_wp2
            refine wp_region_vals (F := Fence.wide.inRound lp) (fun _ => trivial) rfl Db Sb _ (by kernel_rfl) (by kernel_rfl) (by kernel_rfl) (by kernel_rfl) (by kernel_rfl) (by kernel_rfl) (by kernel_rfl) ⟨Det.nil _, (Below.refl _ _).drew⟩ (stepsb (W := W') (Bu := W.heap.size + 1) (gb := gb) (n := o.length) (cb := cb) (o := o) (u := u) rfl rfl (by omega) p1 hu8 hin ho8 rfl rfl rfl rfl rfl rfl rfl rfl rfl rfl) ?_
            rintro lb valb w8 ⟨hDb, hb8⟩ hallb
            have vb4 := hDb 4 _ rfl (hallb 4 (by decide))
            clear hDb hallb
            simp only [finA, Sb, Act.put, List.setIfInBounds_toArray, List.set_cons_succ, List.set_cons_zero, vb4]
            have hs8 := hb8.size
            gi_wp2
            refine wp_region_vals (F := Fence.wide.inRound lp) (fun _ => trivial) rfl Dc Sc _ (by kernel_rfl) (by kernel_rfl) (by kernel_rfl) (by kernel_rfl) (by kernel_rfl) (by kernel_rfl) (by kernel_rfl) ⟨Det.nil _, fun _ => (Below.refl _ _).drew, fun q => absurd q (by simp)⟩ (stepsc (W := w8) (gf := gift (sOf gv rd rw F) o) (R := RR (sOf gv rd rw F) (Qs S W w5.heap.size S') bM (u ||| setN o) m' W') (Bs := W.heap.size) (Bf := W.heap.size + 1 + 1) (gb := gb) (n := o.length) (cb := cb) (u2 := u ||| setN o) (bM := bM) rfl rfl rfl rfl (by omega) ((hb8.cell (p := ⟨W.heap.size + 1 + 1, 0, none⟩) (by show W.heap.size + 1 + 1 < _; omega)).trans p2) (sX.later hb8) hgf (fun X hX => ?g) (fun X hX => unhide HSR X (hb8.trans (hX.mono hb8.size))) rfl rfl rfl rfl rfl rfl rfl rfl rfl rfl rfl rfl rfl rfl rfl rfl rfl rfl) ?_
            case g =>
              refine (giftsOf_any gv rd rw fa fn fc gb o.length cb o X ((hin.later hb8).later hX) (by have := hWy.1.two; omega) (by omega)).mono ?_
              rintro e X' ⟨rfl, hX'⟩
              refine ⟨?_, hX'⟩
              unfold gift isRow hd
              simp only [decide_eq_true_eq]
              rfl
            rintro lc8 valc w9 ⟨-, hMc⟩ hallc
            obtain ⟨v, -, hv8, ⟨X, N2, m2, hX, z1, z2, z3, z4, z5, z6⟩, -, vc8⟩ := hMc.2 (hallc 6 (by decide))
            have vc8 := vc8 (hallc 8 (by decide))
            clear hMc hallc
            simp only [finA, Sc, Act.put, List.setIfInBounds_toArray, List.set_cons_succ, List.set_cons_zero, vc8]
            have hsX := hX.size
            have hs9 := z6.size
            have hbox : w9.heap[w5.heap.size]? = some (.cells #[.slice la ln lc, .int .i64 g, .int .i64 ((u' : Nat) : Int)] 40 (0, 0)) := (z6.block _ ⟨by omega, by omega⟩).trans ((hX.block _ (by omega)).trans y4)
            have hg1 : w9.cell? ⟨w5.heap.size, 1, none⟩ = some (.int .i64 g) := by unfold World.cell?; simp only [hbox]; rfl
            have hg0 : w9.cell? ⟨w5.heap.size, 0, none⟩ = some (.slice la ln lc) := by unfold World.cell?; simp only [hbox]; rfl
            have hg2 : w9.cell? ⟨w5.heap.size, 2, none⟩ = some (.int .i64 ((u' : Nat) : Int)) := by unfold World.cell?; simp only [hbox]; rfl
            have fz0 : w9.frozen? ⟨w5.heap.size, 0, none⟩ = false := by unfold World.frozen?; simp only [hbox]; rfl
            have fz1 : w9.frozen? ⟨w5.heap.size, 1, none⟩ = false := by unfold World.frozen?; simp only [hbox]; rfl
            have fz2 : w9.frozen? ⟨w5.heap.size, 2, none⟩ = false := by unfold World.frozen?; simp only [hbox]; rfl
            clear hbox sX p1 p2
            by_cases hgt : g < gift (sOf gv rd rw F) o + v
            · have HEND := hide (SI.better (s := sOf gv rd rw F) h8 (by omega) hS (by omega) (by omega) (by omega) (by omega) (unhide HA0) hu (unhide HSI') (unhide HY).1 (unhide HY).2.1 y4 (unhide HY).2.2.2.2.2.1 (unhide HY).2.2.2.2.2.2 hX hin hgS hWy z1 hsub z2 z3 z4 z5 z6 hgt)
              gi_wp2
              exact unhide HEND
            · have HEND := hide (SI.same (s := sOf gv rd rw F) (wn := (Value.slice gb o.length cb).ownBlock) (by omega) hS (by omega) (by omega) (by omega) (unhide HSI') (unhide HY).1 (unhide HY).2.1 y4 (unhide HY).2.2.1 (unhide HY).2.2.2.1 (unhide HY).2.2.2.2.1 (unhide HY).2.2.2.2.2.1 (unhide HY).2.2.2.2.2.2 hX (z1.same (fun x h0 _ => set_bit u o ho8 x h0)) hsub z2 z3 z4 z6 (by omega))
              gi_wp2
              exact unhide HEND
        case doneG =>
          intro D S' W' hD hI hdef hnD
          obtain ⟨hk', hL', hT'⟩ := unhide HE _ _ _ hI
          have hkx := hI.kx
          have hsx := hkx.size
          obtain ⟨N', m', hF', y2, y3, la, ln, lc, c, g, u', y4, y5, y6, y7, y8, y9⟩ := hI.kn
          have p1 := (hkx.cell (p := ⟨W.heap.size + 1, 0, none⟩) ⟨by show W.heap.size + 1 < _; omega, by show W.heap.size + 1 ≠ bM; omega, by show W.heap.size + 1 ≠ w5.heap.size; omega⟩).trans i1
          have p2 := (hkx.cell (p := ⟨W.heap.size + 1 + 1, 0, none⟩) ⟨by show W.heap.size + 1 + 1 < _; omega, by show W.heap.size + 1 + 1 ≠ bM; omega, by show W.heap.size + 1 + 1 ≠ w5.heap.size; omega⟩).trans i2
          have hg0 : W'.cell? ⟨w5.heap.size, 0, none⟩ = some (.slice la ln lc) := by unfold World.cell?; simp only [y4]; rfl
          have hg1 : W'.cell? ⟨w5.heap.size, 1, none⟩ = some (.int .i64 g) := by unfold World.cell?; simp only [y4]; rfl
          have hg2 : W'.cell? ⟨w5.heap.size, 2, none⟩ = some (.int .i64 ((u' : Nat) : Int)) := by unfold World.cell?; simp only [y4]; rfl
          have hopt : Opt (sOf gv rd rw F) (Ub u) g := by
            refine opt_step hs (a := (a0 : Int)) (by omega) (by show (a0 : Int) < (F.length : Int); omega) (by show ¬ u.testBit (a0 : Int).toNat = true; rw [Int.toNat_natCast, hab]; simp) (fun x h0 hx => hbl x.toNat (by omega)) ((unhide HO1).same (fun x h0 _ => one_bit u a0 x h0)) y8 (fun c h1 h2 h3 h4 => y9 c ?_) ?_
            · cases c with
              | nil => have := h1.two; simp at this
              | cons x e =>
                have hx : x = (a0 : Int) := h2
                subst hx
                have hle : e.length < 9 := by
                  have := nodup_len8 h3 (fun x hx => h1.rng x hx)
                  rw [List.length_cons] at this
                  have : (sOf gv rd rw F).n = F.length := rfl
                  omega
                refine chL_all hs e 9 [(a0 : Int)] (u ||| 2 ^ a0) (beg_one ha) hle h1 h3 (fun x hx => ?_)
                have hxu := h4 x (List.mem_cons_of_mem _ hx)
                rw [bit_or]
                have hne2 : x ≠ (a0 : Int) := fun q => by
                  subst q
                  exact (List.nodup_cons.1 h3).1 hx
                have hr := h1.rng x (List.mem_cons_of_mem _ hx)
                have hxu' : u.testBit x.toNat = false := by
                  cases q : u.testBit x.toNat with
                  | false => rfl
                  | true => exact absurd q hxu
                rw [hxu', Bool.false_or, decide_eq_false_iff_not]
                omega
            · obtain ⟨g1, v', g2, g3⟩ := y6
              rcases g3 with ⟨_, g4, g5⟩ | ⟨g4, g5, g6, g7, g8, g9⟩
              · left
                rw [← unhide HA0] at g5
                rw [g5] at g2
                rw [g4]
                exact g2.uniq (unhide HO1)
              · right
                rw [g8] at g2
                refine ⟨c, v', g4, g5, fun x hx q => ?_, g2.same (fun x h0 _ => set_bit u c (fun x hx => ?_) x h0), g9⟩
                · have := g7 x hx
                  unfold Ub at q
                  rw [this] at q
                  cases q
                · have := g4.rng x hx
                  exact ⟨this.1, by have h2 : x < (F.length : Int) := this.2; omega⟩
          obtain ⟨w10, hrun, hFm, hgr⟩ := hF'.map.put hu8 (by have := hF'.room; omega) (.agg #[.slice la ln lc, .int .i64 g, .int .i64 ((u' : Nat) : Int)])
          have hs10 := hgr.size
          have q1 : w10.cell? ⟨w5.heap.size, 1, none⟩ = some (.int .i64 g) := hgr.cell hg1 (by show some w5.heap.size ≠ some bM; intro h; cases h; omega)
          have hdef' : w10.heap[D]? = some (.deferred (some [])) := (hgr.block D (Array.getElem?_eq_some_iff.1 hdef).1 (by intro h; cases h; omega)).trans hdef
          have hHmu := hide hmu
          have HFIN : Hid (SPost (sOf gv rd rw F) S bM u m W (.returned (.int .i64 g)) (w10.putObj D (.deferred none))) := by
            have hDW : W.heap.size ≤ D := by omega
            have kD : Keep (fun b => b ≠ D) w10 (w10.putObj D (.deferred none)) := Keep.putObj _ (fun h => h rfl)
            have s11 : (w10.putObj D (.deferred none)).heap.size = w10.heap.size := by simp
            have hmN : m' u = none := by
              cases q : m' u with
              | none => rfl
              | some st =>
                have := y3 u (unhide hHmu) (by rw [q]; rfl) a0 (by rw [bit_or]; simp)
                rw [hab] at this
                cases this
            have hq : ∀ b, Qs S W w5.heap.size S' b → b < W'.heap.size := fun b hb => by
              rcases hb with hb | hb
              · have := hS b hb; omega
              · exact hI.lt b hb.2.1
            have kg : Keep (fun b => b < W'.heap.size ∧ b ≠ bM) W' w10 := ⟨hgr.os, hgr.tape, hgr.output, hgr.size, fun b hb => hgr.block b hb.1 (fun e => hb.2 (by cases e; rfl))⟩
            have hF2 : Fnd (sOf gv rd rw F) (Qs S W w5.heap.size S') w10 bM (N' + 1) (fun z => if z = u then some (.agg #[.slice la ln lc, .int .i64 g, .int .i64 ((u' : Nat) : Int)]) else m' z) := by
              refine hF'.put h8 hu hmN hFm kg hq ⟨la, ln, lc, c, g, u', rfl, y5.keep kg (fun b hb hc => ⟨hq b hb, fun e => ?_⟩), hopt, y6, y7.imp id fun h => ?_⟩
              · subst e
                obtain ⟨es, clock, hmap⟩ := hF'.map.isMap
                obtain ⟨cs, t, fz, hc⟩ := hc
                rw [hmap] at hc
                cases hc
              · by_cases e : u' = u
                · simp [e]
                · simp only [if_neg e]; exact h
            refine ⟨g, _, _, rfl, hopt, hF2.keep kD (fun b hb => ?_) (by show bM ≠ D; omega) (fun b hb => ?_), fun x st hx => ?_, fun x hx hx2 j hj => ?_, .inr (by simp), (hk'.trans (kg.sub fun b hb => ⟨by have := hb.1; have := hk'.size; omega, hb.2⟩)).trans (kD.sub fun b hb => by have := hb.1; omega)⟩
            · rcases hb with hb | hb
              · have := hS b hb; omega
              · exact fun e => hnD (e ▸ hb.2.1)
            · have h1 := hq b hb
              rcases hb with hb | hb
              · exact .inl hb
              · exact .inr ⟨hb.1, by omega⟩
            · by_cases e : x = u
              · subst e; rw [unhide hHmu] at hx; cases hx
              · simp only [if_neg e]; exact y2 x st hx
            · by_cases e : x = u
              · subst e; exact hj
              · simp only [if_neg e] at hx2
                exact y3 x hx hx2 j (by rw [bit_or, hj]; rfl)
          clear hI hF' y2 y3 y4 y5 y6 y7 y8 y9 hFm hgr hopt hkx hnD
          go_wp2_with fail
          refine ⟨by simp, .inl ⟨_, _, rfl, run_takeDeferred hdef', ?_⟩⟩
          refine ⟨_, results_tmp rfl _ _ _, ?_⟩
          exact unhide HFIN
end Go.Proofs.YtffnhflbhckhbaaDoor
