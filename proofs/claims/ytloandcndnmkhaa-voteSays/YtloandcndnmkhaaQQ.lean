import Derived.Test.YtloandcndnmkhaaPP
import Derived.Test.YtloandcndnmkhaaS
import Derived.Test.YtloandcndnmkhaaGG
namespace Go.Proofs.Ytloandcndnmkhaa
open Go.RowKit
theorem take_snoc {l : List (List Int)} {j : Nat} {o : List Int} (h : l[j]? = some o) : l.take (j + 1) = l.take j ++ [o] := by
  rw [List.take_add_one, h]; rfl
set_option maxRecDepth 100000 in
set_option maxHeartbeats 4000000 in
theorem kemenyR_any (n : Nat) (a : Option Addr) (m c : Nat) (l : List Bal) (w : World) (h : Bals w a m c l) (hg : Good n l) :
    Calls Try.prog 38 #[.int .i64 n, .slice a m c] w fun e w' => (∃ q aa cc, bestF (fun o => agS (prf l l.length) o n n) (permsL (upL n)) = some q ∧ e = .returned (.slice aa n cc) ∧ Ints w' aa n cc q) ∧ Below w.heap.size w w' := by
  have hn1 := hg.1
  have hn6 := hg.2.1
  have CU := hide (upTo_any n w hn6)
  have CA : Hid (∀ (aa : Option Addr) (cc : Nat) (o : List Int) (X : World), Below w.heap.size w X → Ints X aa n cc o → ordE o n = 0 → Calls Try.prog 43 #[.slice a m c, .slice aa n cc] X fun e w' => e = .returned (.int .i64 (agS (prf l l.length) o n n)) ∧ Below X.heap.size X w') := fun aa cc o X hX hI ho => againstR_any n a m c l aa cc o X (h.later hX) hg hI ho
  clear h hg
  obtain ⟨s, hs⟩ : ∃ s : List Int → Int, s = fun o => agS (prf l l.length) o n n := ⟨_, rfl⟩
  have CA : Hid (∀ (aa : Option Addr) (cc : Nat) (o : List Int) (X : World), Below w.heap.size w X → Ints X aa n cc o → ordE o n = 0 → Calls Try.prog 43 #[.slice a m c, .slice aa n cc] X fun e w' => e = .returned (.int .i64 (s o)) ∧ Below X.heap.size X w') := by rw [hs]; exact CA
  rw [← hs]
  clear hs
  go_enter Try.func38, Try.ntmps38
  go_wp2_with fail
  refine (unhide CU).mono ?_
  rintro e w1 ⟨v, rfl, ho1, hb1⟩
  obtain ⟨a1, c1, rfl, hI1, _⟩ := Ints.of_owns ho1 (by omega)
  have CPm := hide (perms_any n a1 n c1 (upL n) w1 (by simp [upL]) hn6 hI1)
  have HB1 := hide hb1
  clear ho1 hI1 hb1
  go_wp2_with fail
  refine (unhide CPm).mono ?_
  rintro e w2 ⟨v, L, rfl, ho, hL, hls, hb2⟩
  obtain ⟨al, cl, rfl, hLs⟩ := Lsts.of_owns ho (fun s hs => (hL s hs).1)
  have hb12 := (unhide HB1).trans (hb2.mono (unhide HB1).size)
  have hlen : 0 < L.length := by
    have := congrArg List.length hls
    rcases Nat.eq_zero_or_pos L.length with h0 | h0
    · have hm : upL n ∈ permsL (upL n) := (perms_mem' _ _).2 (List.Perm.refl _)
      rw [← hls] at hm
      have : L = [] := List.eq_nil_of_length_eq_zero h0
      rw [this] at hm
      cases hm
    · exact h0
  have HO : Hid (∀ j, j < L.length → ordE (slAt L j).ints n = 0 ∧ (slAt L j).ln = n ∧ (permsL (upL n))[j]? = some (slAt L j).ints) := fun j hj => by
    have e : (permsL (upL n))[j]? = some (slAt L j).ints := by
      rw [← hls]
      unfold lists slAt
      rw [List.getElem?_map, List.getElem?_eq_getElem hj]
      rfl
    have hm : (slAt L j).ints ∈ permsL (upL n) := List.mem_of_getElem? e
    have hp := (perms_mem' _ _).1 hm
    refine ⟨ord_up hp, ?_, e⟩
    have := (hL _ (slAt_mem hj)).1.1
    rw [this, hp.length_eq]
    simp [upL]
  have HLS := hide hLs
  have HB := hide hb12
  have hcl := hLs.2.1
  have hcm := hLs.2.2.1
  unfold maxLen at hcm
  have hPL : Hid ((permsL (upL n)).length = L.length) := by show _ = _; rw [← hls]; simp [lists]
  obtain ⟨bl, ol, rfl, hbl, hcell⟩ := hLs.cellAt hlen
  have HC := hide hcell
  have q0 := hcell 0 hlen
  rw [(unhide HO 0 hlen).2.1, Nat.add_zero] at q0
  have hI0 := (hL _ (slAt_mem hlen)).1
  rw [(unhide HO 0 hlen).2.1] at hI0
  have CA0 := hide (unhide CA _ _ _ w2 hb12 hI0 (unhide HO 0 hlen).1)
  have HI0 := hide hI0
  clear hL hls ho hLs hcell hb2 hb12 hI0 CPm CU HB1
  go_wp2_with fail
  refine (unhide CA0).mono ?_
  rintro e w3 ⟨rfl, hb3⟩
  have HV0 : Hid (Below w2.heap.size w2 w3) := hb3
  clear hb3
  go_wp2_with fail
  go_loopw [8, 6, 7, 9] (fun i bsl lst _ wr => Below w2.heap.size w2 wr ∧ ∃ (j : Nat) (q : List Int) (aa : Option Addr) (cc : Nat), 1 ≤ j ∧ j ≤ L.length ∧ i = .int .i64 (j : Int) ∧ bsl = .slice aa n cc ∧ lst = .int .i64 (s q) ∧ Ints w2 aa n cc q ∧ bestF s ((permsL (upL n)).take j) = some q) (fun i _ _ _ _ => L.length - (intOf i).toNat)
  case atStart => exact ⟨unhide HV0, 1, (slAt L 0).ints, _, _, by omega, by omega, rfl, rfl, rfl, unhide HI0, by rw [take_snoc (unhide HO 0 hlen).2.2, List.take_zero, bestF_snoc]; rfl⟩
  case round =>
    obtain ⟨hbr, j, q, aa, cc, hj1, hjL, rfl, rfl, rfl, hIq, hbest⟩ := hrel
    by_cases hlt : j < L.length
    · obtain ⟨o1, o2, o3⟩ := unhide HO j hlt
      have hIj := (unhide HLS).2.2.2.1 _ (slAt_mem hlt)
      rw [o2] at hIj
      have qj := (hbr.cell (p := ⟨bl, ol + j, none⟩) hbl).trans (unhide HC j hlt)
      rw [o2] at qj
      have hbw := (unhide HB).trans (hbr.mono (unhide HB).size)
      have CAj := hide (unhide CA _ _ _ wr hbw (hIj.later hbr) o1)
      have HBS : Hid (bestF s ((permsL (upL n)).take (j + 1)) = if s (slAt L j).ints < s q then some (slAt L j).ints else some q) := by
        show _ = _
        rw [take_snoc o3, bestF_snoc, hbest]
      have HIJ := hide hIj
      have HIQ := hide hIq
      have HBR := hide hbr
      have hji : (j : Int) < L.length := by omega
      clear hbest hIj hIq hbr hbw o1 o3
      generalize (slAt L j).ints = oj at *
      generalize (slAt L j).la = laj at *
      generalize (slAt L j).lc = lcj at *
      by_cases hless : s oj < s q
      · go_wp2_with fail
        refine (unhide CAj).mono ?_
        rintro e w4 ⟨rfl, hb4⟩
        have qj4 := (hb4.cell (p := ⟨bl, ol + j, none⟩) (by show bl < wr.heap.size; have := (unhide HBR).size; omega)).trans qj
        have HB4 := hide hb4
        clear hb4
        go_wp2_with fail
        go_roundw
        case rel => exact ⟨(unhide HBR).trans ((unhide HB4).mono (unhide HBR).size), j + 1, oj, laj, lcj, by omega, by omega, by go_num, rfl, rfl, unhide HIJ, by rw [unhide HBS, if_pos hless]⟩
        case measure => simp [intOf]; omega
      · go_wp2_with fail
        refine (unhide CAj).mono ?_
        rintro e w4 ⟨rfl, hb4⟩
        have HB4 := hide hb4
        clear hb4
        go_wp2_with fail
        go_roundw
        case rel => exact ⟨(unhide HBR).trans ((unhide HB4).mono (unhide HBR).size), j + 1, q, aa, cc, by omega, by omega, by go_num, rfl, rfl, unhide HIQ, by rw [unhide HBS, if_neg (by omega)]⟩
        case measure => simp [intOf]; omega
    · obtain rfl : j = L.length := by omega
      have HIQ := hide (hIq.later hbr)
      have HBF := hide hbest
      have HBR := hide hbr
      clear hIq hbest hbr
      go_wp2_with fail
      go_ret
      refine ⟨⟨q, aa, cc, ?_, rfl, unhide HIQ⟩, (unhide HB).trans ((unhide HBR).mono (unhide HB).size)⟩
      have := unhide HBF
      rw [List.take_of_length_le (by rw [unhide hPL]; exact Nat.le_refl _)] at this
      exact this
end Go.Proofs.Ytloandcndnmkhaa
