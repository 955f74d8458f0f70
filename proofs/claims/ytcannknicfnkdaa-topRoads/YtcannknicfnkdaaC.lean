import Derived.Test.YtcannknicfnkdaaB
namespace Go.Proofs.Ytcannknicfnkdaa
open Go.RowKit
/-- What is said of the roads' costs, and of the players' choices. -/
def kE (n : Nat) : List Sl → Int
  | [] => 0
  | s :: t => if s.ln = n then (if s.ints.any badK = true then 9 else kE n t) else 7
def cE (m : Nat) : List Sl → Int
  | [] => 0
  | s :: t => if s.ln < 1 ∨ 5 < s.ln then 7 else if s.ints.any (badC m) = true then 8 else cE m t
def rE (C K : List Sl) : Int := if C.length < 1 ∨ 5 < C.length ∨ 6 < K.length then 7 else if kE C.length K = 0 then cE K.length C else kE C.length K
theorem drop_at {L : List Sl} {k : Nat} (h : k < L.length) : L.drop k = slAt L k :: L.drop (k + 1) := by
  rw [List.drop_eq_getElem_cons h]
  unfold slAt
  rw [List.getElem?_eq_getElem h]
  rfl
theorem kE_len {n : Nat} {L : List Sl} {k : Nat} (h : k < L.length) (e : (slAt L k).ln ≠ n) : kE n (L.drop k) = 7 := by
  rw [drop_at h]
  unfold kE
  rw [if_neg e]
theorem kE_bad {n : Nat} {L : List Sl} {k : Nat} (h : k < L.length) (e : (slAt L k).ln = n) (b : (slAt L k).ints.any badK = true) : kE n (L.drop k) = 9 := by
  rw [drop_at h]
  unfold kE
  rw [if_pos e, if_pos b]
theorem kE_next {n : Nat} {L : List Sl} {k : Nat} (h : k < L.length) (e : (slAt L k).ln = n) (b : (slAt L k).ints.any badK = false) : kE n (L.drop k) = kE n (L.drop (k + 1)) := by
  rw [drop_at h]
  conv => lhs; unfold kE
  rw [if_pos e, if_neg (by rw [b]; decide)]
theorem kE_end {n : Nat} {L : List Sl} {k : Nat} (h : ¬ k < L.length) : kE n (L.drop k) = 0 := by
  rw [List.drop_eq_nil_of_le (by omega)]
  rfl
theorem cE_len {m : Nat} {L : List Sl} {k : Nat} (h : k < L.length) (e : (slAt L k).ln < 1 ∨ 5 < (slAt L k).ln) : cE m (L.drop k) = 7 := by
  rw [drop_at h]
  unfold cE
  rw [if_pos e]
theorem cE_bad {m : Nat} {L : List Sl} {k : Nat} (h : k < L.length) (e : ¬ ((slAt L k).ln < 1 ∨ 5 < (slAt L k).ln)) (b : (slAt L k).ints.any (badC m) = true) : cE m (L.drop k) = 8 := by
  rw [drop_at h]
  unfold cE
  rw [if_neg e, if_pos b]
theorem cE_next {m : Nat} {L : List Sl} {k : Nat} (h : k < L.length) (e : ¬ ((slAt L k).ln < 1 ∨ 5 < (slAt L k).ln)) (b : (slAt L k).ints.any (badC m) = false) : cE m (L.drop k) = cE m (L.drop (k + 1)) := by
  rw [drop_at h]
  conv => lhs; unfold cE
  rw [if_neg e, if_neg (by rw [b]; decide)]
theorem cE_end {m : Nat} {L : List Sl} {k : Nat} (h : ¬ k < L.length) : cE m (L.drop k) = 0 := by
  rw [List.drop_eq_nil_of_le (by omega)]
  rfl
theorem rE_k {C K : List Sl} (h : ¬ (C.length < 1 ∨ 5 < C.length ∨ 6 < K.length)) {x : Int} (e : kE C.length K = x) (hx : x ≠ 0) : rE C K = x := by
  unfold rE
  rw [if_neg h, if_neg (by rw [e]; exact hx), e]
theorem rE_c {C K : List Sl} (h : ¬ (C.length < 1 ∨ 5 < C.length ∨ 6 < K.length)) (e : kE C.length K = 0) : rE C K = cE K.length C := by
  unfold rE
  rw [if_neg h, if_pos e]
def rV (ca : Option Addr) (cn cc : Nat) (ka : Option Addr) (kn kc : Nat) : Value := .agg #[.slice ca cn cc, .slice ka kn kc]
/-- A part of it that the walk meets: its length and its cells. -/
theorem Lsts.part {w : World} {a : Option Addr} {n c : Nat} {L : List Sl} (h : Lsts w a n c L) {k : Nat} (hk : k < n) : ∃ la ln lc ints, slAt L k = ⟨la, ln, lc, ints⟩ ∧ ln ≤ lc ∧ lc ≤ 2 ^ 63 - 1 ∧ Ints w la ln lc ints := by
  have hm := h.mem hk
  refine ⟨_, _, _, _, rfl, hm.2.1, hm.2.2.1, hm⟩
set_option maxRecDepth 100000 in
set_option maxHeartbeats 4000000 in
theorem roads_any (ca : Option Addr) (cn cc : Nat) (C : List Sl) (ka : Option Addr) (kn kc : Nat) (K : List Sl) (w : World) (hC : Lsts w ca cn cc C) (hK : Lsts w ka kn kc K) :
    Calls Try.prog 10 #[rV ca cn cc ka kn kc] w fun e w' => e = .returned (.int .i64 (rE C K)) ∧ Below w.heap.size w w' := by
  have hc1 := hC.2.1
  have hc2 := hC.2.2.1
  have hk1 := hK.2.1
  have hk2 := hK.2.2.1
  unfold maxLen at hc2 hk2
  have hlC : cn = C.length := hC.1
  have hlK : kn = K.length := hK.1
  have HLC := hide hlC
  have HLK := hide hlK
  unfold rV
  have hbW : Below w.heap.size w ((w.alloc (.cells #[.slice ca cn cc, .slice ka kn kc] 24)).alloc (.cells #[.int .i64 kn] 3)).drew := by go_grown
  have HBW := hide hbW
  by_cases hn : C.length < 1 ∨ 5 < C.length ∨ 6 < K.length
  · have hr : rE C K = 7 := by unfold rE; rw [if_pos hn]
    rw [hr]
    rw [← hlC, ← hlK] at hn
    clear hC hK hlC hlK hr hbW
    by_cases h1 : cn < 1
    · obtain rfl : cn = 0 := by omega
      go_enter Try.func10, Try.ntmps10
      go_wp2_with fail
      go_region
      go_wp2
      go_ret
      exact ⟨rfl, unhide HBW⟩
    · have h1' : 1 ≤ cn := by omega
      clear h1
      by_cases h2 : 5 < cn
      · clear hn
        go_enter Try.func10, Try.ntmps10
        go_wp2_with fail
        go_region
        go_wp2
        go_ret
        exact ⟨rfl, unhide HBW⟩
      · have h2' : cn ≤ 5 := by omega
        have h3 : 6 < kn := by omega
        clear hn h2
        go_enter Try.func10, Try.ntmps10
        go_wp2_with fail
        go_region
        go_wp2
        go_ret
        exact ⟨rfl, unhide HBW⟩
  · have RK := hide (fun (x : Int) (e : kE cn K = x) (hx : x ≠ 0) => rE_k hn (by rw [← hlC]; exact e) hx)
    have RC := hide (fun (e : kE cn K = 0) => rE_c hn (by rw [← hlC]; exact e))
    rw [← hlC, ← hlK] at hn
    rw [← hlK] at RC
    have h1 : 1 ≤ cn := by omega
    have h5 : cn ≤ 5 := by omega
    have h6 : kn ≤ 6 := by omega
    have HCW := hide (hC.later hbW)
    have HKW := hide (hK.later hbW)
    clear hn hC hK hlC hlK
    generalize rE C K = E at *
    go_enter Try.func10, Try.ntmps10
    go_wp2_with fail
    go_region
    obtain ⟨W, hW⟩ : ∃ W, ((w.alloc (.cells #[.slice ca cn cc, .slice ka kn kc] 24)).alloc (.cells #[.int .i64 kn] 3)).drew = W := ⟨_, rfl⟩
    have w0 : W.cell? ⟨w.heap.size, 0, none⟩ = some (.slice ca cn cc) := by rw [← hW]; simp [World.cell?_alloc_past, World.cell?_alloc_at]
    have w1 : W.cell? ⟨w.heap.size, 1, none⟩ = some (.slice ka kn kc) := by rw [← hW]; simp [World.cell?_alloc_past, World.cell?_alloc_at]
    have w2 : W.cell? ⟨w.heap.size + 1, 0, none⟩ = some (.int .i64 kn) := by rw [← hW]; simp [World.cell?_alloc_at]
    rw [hW] at HBW HCW HKW
    rw [hW]
    clear hW hbW
    go_wp2
    go_loop [28, 6] (fun i _ => ∃ k : Nat, k ≤ kn ∧ i = .int .i64 k ∧ kE cn (K.drop k) = kE cn K) (fun i _ => kn - (intOf i).toNat)
    case atStart => exact ⟨0, Nat.zero_le _, rfl, by rw [List.drop_zero]⟩
    case round =>
      obtain ⟨k, hk, rfl, hke⟩ := hrel
      have HKE := hide hke
      clear hke
      by_cases hlt : k < kn
      · have hkl : k < K.length := by have := unhide HLK; omega
        obtain ⟨kb, ko, rfl, hkb, hcell⟩ := (unhide HKW).cellAt (by omega)
        have hck := hcell k hlt
        clear hcell
        obtain ⟨la, ln, lc, ints, es, l1, l2, hI⟩ := (unhide HKW).part hlt
        rw [es] at hck
        simp only at hck
        by_cases hln : ln = cn
        · have dl : ((ln : Int) == (cn : Int)) = true := by simp [hln]
          have C2 := contains1 la ln lc ints W hI
          cases hf : ints.any badK with
          | true =>
            rw [hf] at C2
            have C2 := hide C2
            have HR : Hid (E = 9) := unhide RK 9 (by rw [← unhide HKE]; exact kE_bad hkl (by rw [es]; exact hln) (by rw [es]; exact hf)) (by decide)
            clear hln hf hkl es hI
            go_wp2_with fail
            refine (unhide C2).mono ?_
            rintro e w3 ⟨rfl, hw3⟩
            subst w3
            go_wp2
            go_ret
            exact ⟨ret_int (unhide HR).symm, unhide HBW⟩
          | false =>
            rw [hf] at C2
            have C2 := hide C2
            have HR : Hid (kE cn (K.drop (k + 1)) = kE cn K) := by rw [← unhide HKE]; exact (kE_next hkl (by rw [es]; exact hln) (by rw [es]; exact hf)).symm
            clear hln hf hkl es hI
            go_wp2_with fail
            refine (unhide C2).mono ?_
            rintro e w3 ⟨rfl, hw3⟩
            subst w3
            go_wp2
            exact ⟨⟨k + 1, by omega, by go_num, unhide HR⟩, by simp [intOf]; omega⟩
        · have dl : ((ln : Int) == (cn : Int)) = false := by simp; omega
          have HR : Hid (E = 7) := unhide RK 7 (by rw [← unhide HKE]; exact kE_len hkl (by rw [es]; exact hln)) (by decide)
          clear hln hkl es hI
          go_wp2
          go_ret
          exact ⟨ret_int (unhide HR).symm, unhide HBW⟩
      · obtain rfl : kn = k := by omega
        have HR := hide (unhide RC (by rw [← unhide HKE]; exact kE_end (by have := unhide HLK; omega)))
        clear RK RC
        go_wp2
        go_loop [42, 8] (fun i _ => ∃ k : Nat, k ≤ cn ∧ i = .int .i64 k ∧ cE kn (C.drop k) = cE kn C) (fun i _ => cn - (intOf i).toNat)
        case atStart => exact ⟨0, Nat.zero_le _, rfl, by rw [List.drop_zero]⟩
        case round =>
          obtain ⟨k, hk, rfl, hce⟩ := hrel
          have HCE := hide hce
          clear hce
          by_cases hlt : k < cn
          · have hkl : k < C.length := by have := unhide HLC; omega
            obtain ⟨kb, ko, rfl, hkb, hcell⟩ := (unhide HCW).cellAt (by omega)
            have hck := hcell k hlt
            clear hcell
            obtain ⟨la, ln, lc, ints, es, l1, l2, hI⟩ := (unhide HCW).part hlt
            rw [es] at hck
            simp only at hck
            by_cases hln : ln < 1 ∨ 5 < ln
            · have HR : Hid (E = 7) := by rw [unhide HR, ← unhide HCE]; exact cE_len hkl (by rw [es]; exact hln)
              clear hkl es hI
              by_cases h0 : ln < 1
              · obtain rfl : ln = 0 := by omega
                go_wp2
                go_ret
                exact ⟨ret_int (unhide HR).symm, unhide HBW⟩
              · have h0' : 1 ≤ ln := by omega
                have h5' : 5 < ln := by omega
                clear hln h0
                go_wp2
                go_ret
                exact ⟨ret_int (unhide HR).symm, unhide HBW⟩
            · have C2 := contains2 la ln lc ints (w.heap.size + 1) kn W hI w2 h6
              have h0' : 1 ≤ ln := by omega
              have h5' : ln ≤ 5 := by omega
              cases hf : ints.any (badC kn) with
              | true =>
                rw [hf] at C2
                have C2 := hide C2
                have HR : Hid (E = 8) := by rw [unhide HR, ← unhide HCE]; exact cE_bad hkl (by rw [es]; exact hln) (by rw [es]; exact hf)
                clear hln hf hkl es hI
                go_wp2_with fail
                refine (unhide C2).mono ?_
                rintro e w3 ⟨rfl, hw3⟩
                subst w3
                go_wp2
                go_ret
                exact ⟨ret_int (unhide HR).symm, unhide HBW⟩
              | false =>
                rw [hf] at C2
                have C2 := hide C2
                have HR2 : Hid (cE kn (C.drop (k + 1)) = cE kn C) := by rw [← unhide HCE]; exact (cE_next hkl (by rw [es]; exact hln) (by rw [es]; exact hf)).symm
                clear hln hf hkl es hI
                go_wp2_with fail
                refine (unhide C2).mono ?_
                rintro e w3 ⟨rfl, hw3⟩
                subst w3
                go_wp2
                exact ⟨⟨k + 1, by omega, by go_num, unhide HR2⟩, by simp [intOf]; omega⟩
          · have HR2 : Hid (E = 0) := by rw [unhide HR, ← unhide HCE]; exact cE_end (by have := unhide HLC; omega)
            go_wp2
            go_ret
            exact ⟨ret_int (unhide HR2).symm, unhide HBW⟩
end Go.Proofs.Ytcannknicfnkdaa
