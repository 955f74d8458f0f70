import Derived.Test.YtkeanlpgnnikjaaZQ
namespace Go.Proofs.Ytkeanlpgnnikjaa
open Go.RowKit
set_option maxRecDepth 100000 in
set_option maxHeartbeats 8000000 in
theorem valuesOf_any (a : Option Addr) (m c : Nat) (l : List Int) (n G : Nat) (w : World) (h : Ints w a m c l) (hR : ∀ x ∈ l, InR x) (hm : m ≤ 256) (hn1 : 1 ≤ n) (hn4 : n ≤ 4) (hG : G ≤ 8) :
    Calls Try.prog 20 #[.slice a m c, .int .i64 n, .int .i64 G] w fun e w' => ∃ aa cc LL, e = .returned (.slice aa n cc) ∧ Lsts w' aa n cc LL ∧ Vals n G LL ∧ Below w.heap.size w w' := by
  have CA : Hid (∀ W, Below w.heap.size w W → ∀ k, k ≤ 1000 → Calls Try.prog 22 #[.slice a m c, .int .i64 (k : Nat)] W fun e w' => e = .returned (.int .i64 (atV l k)) ∧ w' = W) := fun W hW k hk => at_val a m c l k W (h.later hW) hk hm
  have CP : Hid (∀ W k, Calls Try.prog 19 #[.int .i64 (atV l k), .int .i64 12] W fun e w' => e = .returned (.int .i64 (pkN (atV l k) 12)) ∧ w' = W) := fun W k => pick_val (atV l k) 12 (atV_in hR k) (by omega) (by omega) W
  have m1 := h.2.1
  have m2 := h.2.2.1
  unfold maxLen at m2
  clear h hR
  obtain ⟨p, hp⟩ : ∃ p : Nat → Nat → Int, p = fun i k => ((pkN (atV l (i * G + k)) 12 : Nat) : Int) := ⟨_, rfl⟩
  have HP : Hid (∀ i k, ((pkN (atV l (i * G + k)) 12 : Nat) : Int) = p i k) := fun i k => by rw [hp]
  have HPR : Hid (∀ i k, 0 ≤ p i k ∧ p i k ≤ 1000) := fun i k => by rw [hp]; have := pkN_lt (atV l (i * G + k)) (n := 12) (by omega); dsimp only; omega
  clear hp
  go_enter Try.func20, Try.ntmps20
  go_wp2
  go_loopw [8, 7, 9, 10] (fun i o _ _ wr => Hid (Below w.heap.size w wr) ∧ ∃ (k : Nat) (LL : List Sl), k ≤ n ∧ i = .int .i64 k ∧ Hid (wr.ownsRow w.heap.size 23 1 o k (slVals LL)) ∧ Hid (lists LL = rowsL p G k) ∧ Hid (∀ s ∈ LL, (Ints wr s.la s.ln s.lc s.ints ∧ T3 wr s.la s.ln) ∧ s.ln = G)) (fun i _ _ _ _ => n - (intOf i).toNat)
  case atStart => exact ⟨Below.refl _ _, 0, [], Nat.zero_le _, rfl, World.ownsRow_nil _ _ _ _, rfl, fun s hs => (by cases hs)⟩
  case round =>
    obtain ⟨HBr, i, LL, hi, rfl, HOWN, HLS, HLL⟩ := hrel
    by_cases hlt2 : i < n
    · go_wp2
      rename World => wq
      go_loopw [10, 9] (fun i' r wr => Hid (Below wq.heap.size wq wr) ∧ ∃ t : Nat, t ≤ G ∧ i' = .int .i64 t ∧ Hid (wr.ownsRow wq.heap.size 3 1 r t (intVals ((List.range t).map (p i))))) (fun i _ _ => G - (intOf i).toNat)
      case atStart => exact ⟨Below.refl _ _, 0, Nat.zero_le _, rfl, World.ownsRow_nil _ _ _ _⟩
      case round =>
        obtain ⟨HB2, k, hk2, rfl, HR⟩ := hrel
        have HBB : Hid (Below w.heap.size w wr) := (unhide HBr).trans ((unhide HB2).mono (unhide HBr).size)
        by_cases hlt3 : k < G
        · have hmul : i * G ≤ 32 := Nat.le_trans (Nat.mul_le_mul (show i ≤ 4 by omega) hG) (by omega)
          have C1 := unhide CA wr (unhide HBB) (i * G + k) (by omega)
          have C2 := unhide CP wr (i * G + k)
          rw [unhide HP] at C2
          have e1 : ((i * G + k : Nat) : Int) = (i : Int) * (G : Int) + (k : Int) := by simp
          rw [e1] at C1
          have C1 := hide C1
          have C2 := hide C2
          have HPV : Hid (∃ pv, pv = p i k) := ⟨_, rfl⟩
          obtain ⟨pv, hpv⟩ := unhide HPV
          rw [← hpv] at C2
          have HPV := hide hpv
          have b1 : 0 ≤ (i : Int) * (G : Int) ∧ (i : Int) * (G : Int) ≤ 32 := by
            have : ((i * G : Nat) : Int) = (i : Int) * (G : Int) := by simp
            omega
          have w1 : wrap64 ((i : Int) * (G : Int)) = (i : Int) * (G : Int) := wrap64_in _ (by omega) (by omega)
          have w2 : wrap64 ((i : Int) * (G : Int) + (k : Int)) = (i : Int) * (G : Int) + (k : Int) := wrap64_in _ (by omega) (by omega)
          generalize atV l (i * G + k) = av at *
          clear hpv e1
          go_wp2_with (first
            | (go_at_call 22; refine (unhide C1).mono ?_; rintro e w4 ⟨rfl, hw4⟩; subst w4)
            | (go_at_call 19; refine (unhide C2).mono ?_; rintro e w4 ⟨rfl, hw4⟩; subst w4)
            | (at_builtin; refine wpList_append_int _ rfl _ _ rfl wq.heap.size _ _ _ rfl ((unhide HR).alloc _) wr.heap.size pv rfl (by simp) (by omega) (by have := (unhide HB2).size; simp; omega) ?_; intro v2 w3 ho2 hg2))
          go_roundw
          case rel =>
            have hb5 := (((Below.refl wq.heap.size wr).alloc (unhide HB2).size (.cells #[.int .i64 pv] 3)).grown hg2 (by have := (unhide HB2).size; simp; omega) (fun q hq => ((unhide HR).lt q hq).1))
            refine ⟨(unhide HB2).trans hb5, k + 1, by omega, by go_num, ?_⟩
            show _root_.Go.World.ownsRow _ _ _ _ _ _ _
            rw [List.range_succ, List.map_append, intVals_append]
            show _root_.Go.World.ownsRow _ _ _ _ _ _ (_ ++ intVals [p i k])
            rw [← unhide HPV]
            exact ho2
          case measure => simp [intOf]; omega
        · obtain rfl : G = k := by omega
          obtain ⟨a2, c2', hv2, hI2, _⟩ := Ints.of_owns (unhide HR) (by omega)
          have hT2 := T3.of_owns (by rw [hv2] at HR; exact unhide HR)
          subst hv2
          have hbA : Below wr.heap.size wr (wr.alloc (.cells #[.slice a2 G c2'] 23)) := by go_grown
          have HBA := hide hbA
          have HI3 := hide (hI2.later hbA)
          have HT3 := hide (hT2.later hbA)
          have HO3 := hide (owns_later (unhide HOWN) ((unhide HB2).trans (hbA.mono (unhide HB2).size)))
          have HX := hide (show Lsts (wr.alloc (.cells #[.slice a2 G c2'] 23)) (some ⟨wr.heap.size, 0, none⟩) 1 1 [⟨a2, G, c2', (List.range G).map (p i)⟩] from lsts_one (s := ⟨a2, G, c2', (List.range G).map (p i)⟩) (by simp) (unhide HI3))
          clear hI2 hT2 hbA
          go_wp2_with (at_builtin; refine wpList_append_lsts _ rfl _ _ rfl w.heap.size _ i LL rfl (unhide HO3) _ 1 1 [⟨a2, G, c2', (List.range G).map (p i)⟩] rfl (unhide HX) (by omega) (by have := (unhide HBB).size; simp; omega) ?_; intro v4 w4 ho4 hg4)
          go_roundw
          case rel =>
            have hbA2 : Below wq.heap.size wq (wr.alloc (.cells #[.slice a2 G c2'] 23)) := (unhide HB2).trans ((unhide HBA).mono (unhide HB2).size)
            have hbw : Below w.heap.size w (wr.alloc (.cells #[.slice a2 G c2'] 23)) := (unhide HBB).trans ((unhide HBA).mono (unhide HBB).size)
            refine ⟨hbw.trans ((Below.refl w.heap.size _).grown hg4 hbw.size (fun q hq => ((unhide HO3).lt q hq).1)), i + 1, LL ++ [(⟨a2, G, c2', (List.range G).map (p i)⟩ : Sl)], by omega, by go_num, hide ho4, ?_, fun s hs => ?_⟩
            · show _ = _
              rw [rowsL_succ, ← unhide HLS]; simp [lists]
            · rcases List.mem_append.1 hs with h | h
              · have h1 := unhide HLL s h
                have := (h1.1.2.later hbA2).grown (h1.1.1.later hbA2) (unhide HO3) hg4
                exact ⟨⟨this.2, this.1⟩, h1.2⟩
              · rw [List.mem_singleton] at h
                subst h
                have := (unhide HT3).grown (unhide HI3) (unhide HO3) hg4
                exact ⟨⟨this.2, this.1⟩, rfl⟩
          case measure => simp [intOf]; omega
    · obtain rfl : n = i := by omega
      obtain ⟨aa, cc, hv, hLL⟩ := Lsts.of_owns (unhide HOWN) (fun s hs => (unhide HLL s hs).1.1)
      subst hv
      have HV : Hid (Vals n G LL) := by
        have hl : LL.length = n := by have := hLL.1; omega
        refine ⟨hl, hn1, hn4, hG, fun j hj => (unhide HLL _ (slAt_mem (by omega))).2, fun i hi g hg => ?_⟩
        unfold vl
        rw [rows_at2 (unhide HLS) hi, lF_at hg]
        exact unhide HPR i g
      go_wp2
      go_ret
      exact ⟨aa, cc, LL, rfl, hLL, HV, HBr⟩
end Go.Proofs.Ytkeanlpgnnikjaa
