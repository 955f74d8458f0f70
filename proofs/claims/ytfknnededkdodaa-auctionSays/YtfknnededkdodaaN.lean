import Derived.Test.YtfknnededkdodaaM
namespace Go.Proofs.Ytfknnededkdodaa
open Go.RowKit
theorem slotsPay_val {a : Option Addr} {n c : Nat} {l : List Int} {sa : Option Addr} {m sc : Nat} {sl : List Int} {i : Nat} {w : World} (h : Ints w a n c l) (hS : Ints w sa m sc sl) (hz : smE n (nth l) m (nth sl) = 0) (hi : i < n) {p : Int} (hp : PayP (nth l) n (sN sl) m i p) :
    Calls Try.prog 14 #[.slice a n c, .slice sa m sc, .int .i64 i] w fun e w' => e = .returned (.int .i64 p) ∧ Below w.heap.size w w' := by
  obtain ⟨hz0, hT⟩ := smE_zero hz
  obtain ⟨hn1, hn4, hB⟩ := bE_zero hz0
  refine (slotsPay_any a n c l sa m sc sl i w h hS hn1 hn4 hB hT hi).mono ?_
  rintro e w' ⟨p', hp', rfl, hb⟩
  exact ⟨by rw [hp'.uniq hp], hb⟩
theorem slotsWin_val {a : Option Addr} {n c : Nat} {l : List Int} {sa : Option Addr} {m sc : Nat} {sl : List Int} {w : World} (h : Ints w a n c l) (hS : Ints w sa m sc sl) (hz : smE n (nth l) m (nth sl) = 0) :
    Calls Try.prog 13 #[.slice a n c, .slice sa m sc] w fun e w' => e = .returned (.int .i64 (wS (nth l) n (sN sl) m).2) ∧ Below w.heap.size w w' := by
  obtain ⟨hz0, hT⟩ := smE_zero hz
  obtain ⟨hn1, hn4, hB⟩ := bE_zero hz0
  exact slotsWin_any a n c l sa m sc sl w h hS hn1 hn4 hB hT
set_option maxRecDepth 100000 in
set_option maxHeartbeats 4000000 in
theorem auctionSays_any (a : Option Addr) (n c : Nat) (l : List Int) (sa : Option Addr) (m sc : Nat) (sl : List Int) (w : World) (h : Ints w a n c l) (hS : Ints w sa m sc sl) (hm0 : n ≤ 140737488351232) (hm1 : m ≤ 140737488351232) :
    Calls Try.prog 3 #[.slice a n c, .slice sa m sc] w fun e w' => e = .returned (.bool true) ∧ Below w.heap.size w w' := by
  by_cases hbig : 100 < n + m
  · clear h hS
    go_enter Try.func3, Try.ntmps3
    go_wp2
    go_ret
    exact ⟨rfl, Below.refl _ _⟩
  · have HI := hide h
    have HS := hide hS
    clear h hS
    have C5 := hide (fun W hW => bidsMay_any a n c l W ((unhide HI).later hW))
    have C6 := hide (fun W hW => first_any a n c l W ((unhide HI).later hW))
    have C7 := hide (fun W hW => second_any a n c l W ((unhide HI).later hW))
    have C8 := hide (fun W hW => clock_any a n c l W ((unhide HI).later hW))
    have C11 := hide (fun W hW => slots_any a n c l sa m sc sl W ((unhide HI).later hW) ((unhide HS).later hW))
    have C12 := hide (fun W hW => slotsMay_any a n c l sa m sc sl W ((unhide HI).later hW) ((unhide HS).later hW))
    by_cases hz : bE n (nth l) = 0
    · have hn1 := (bE_zero hz).1
      have C9 := hide (fun W hW => winner_any a n c l W ((unhide HI).later hW) hn1)
      have C10 := hide (fun W hW => clockR_any a n c l W ((unhide HI).later hW) hz)
      have HZ := hide hz
      have hl1 := (unhide HI).2.1
      have hl2 := (unhide HI).2.2.1
      unfold maxLen at hl2
      rw [hz] at C5
      clear hz
      go_enter Try.func3, Try.ntmps3
      go_wp2_with fail
      refine (unhide C5 w (Below.refl _ _)).mono ?_
      rintro e w2 ⟨rfl, hw2⟩
      subst w2
      go_wp2_with fail
      refine (unhide C6 w (Below.refl _ _)).mono ?_
      rintro e w2 ⟨hw2, ⟨hne, -⟩ | ⟨-, q, hq, rfl⟩⟩
      · exact absurd (unhide HZ) hne
      subst w2
      unfold three
      go_wp2_with fail
      refine (unhide C7 w (Below.refl _ _)).mono ?_
      rintro e w2 ⟨hb2, ⟨hne, -⟩ | ⟨-, q2, s2, hq2, hs2, rfl⟩⟩
      · exact absurd (unhide HZ) hne
      obtain rfl : q2 = q := hq2.uniq hq
      clear hq2
      unfold three
      go_wp2_with fail
      refine (unhide C8 w2 hb2).mono ?_
      rintro e w3 ⟨hb3, ⟨hne, -⟩ | ⟨-, q3, s3, hq3, hs3, rfl⟩⟩
      · exact absurd (unhide HZ) hne
      obtain rfl : q3 = q2 := hq3.uniq hq
      obtain rfl : s3 = s2 := hs3.uniq hs2
      clear hq3 hs3
      have hbA := hb2.trans (hb3.mono hb2.size)
      unfold three
      go_wp2_with fail
      refine (unhide C9 w3 hbA).mono ?_
      rintro e w4 ⟨hb4, q4, s4, hq4, hs4, rfl⟩
      obtain rfl : q4 = q3 := hq4.uniq hq
      obtain rfl : s4 = s3 := hs4.uniq hs2
      clear hq4 hs4
      have hbB := hbA.trans (hb4.mono hbA.size)
      unfold three
      go_wp2_with fail
      refine (unhide C10 w4 hbB).mono ?_
      rintro e w5 ⟨hb5, q5, s5, hq5, hs5, rfl⟩
      obtain rfl : q5 = q4 := hq5.uniq hq
      obtain rfl : s5 = s4 := hs5.uniq hs2
      have hbC := hbB.trans (hb5.mono hbB.size)
      clear hq5 hs5 hq hs2 C5 C6 C7 C8 C9 C10
      unfold duo
      by_cases hsm : smE n (nth l) m (nth sl) = 0
      · have HSM := hide hsm
        rw [hsm] at C12
        clear hsm
        go_wp2_with fail
        refine (unhide C11 w5 hbC).mono ?_
        rintro e w6 ⟨hb6, ⟨hne, -⟩ | ⟨-, pa, pc, PL, rfl, hPI, hPP⟩⟩
        · exact absurd (unhide HSM) hne
        unfold slo
        have hbD := hbC.trans (hb6.mono hbC.size)
        go_wp2_with fail
        refine (unhide C12 w6 hbD).mono ?_
        rintro e w7 ⟨rfl, hb7⟩
        have hbE := hbD.trans (hb7.mono hbD.size)
        have C13 := hide (slotsWin_val ((unhide HI).later hbE) ((unhide HS).later hbE) (unhide HSM))
        have hPI7 := hide (hPI.later hb7)
        have hp1 := hPI.2.1
        have hp2 := hPI.2.2.1
        unfold maxLen at hp2
        have HPP := hide hPP
        clear hPI hPP C11 C12
        go_wp2_with fail
        refine (unhide C13).mono ?_
        rintro e w8 ⟨rfl, hb8⟩
        have hbF := hbE.trans (hb8.mono hbE.size)
        have hPI8 := hide ((unhide hPI7).later hb8)
        clear C13 hPI7
        generalize (wS (nth l) n (sN sl) m).2 = q0 at *
        generalize nth l q5 = y5 at *
        go_wp2
        go_loopw [22] (fun i wr => Below w8.heap.size w8 wr ∧ ∃ k : Nat, k ≤ n ∧ i = .int .i64 k) (fun i _ => n - (intOf i).toNat)
        case atStart => exact ⟨Below.refl _ _, 0, Nat.zero_le _, rfl⟩
        case round =>
          obtain ⟨hbr, k, hk, rfl⟩ := hrel
          have hbG := hbF.trans (hbr.mono hbF.size)
          by_cases hlt : k < n
          · obtain ⟨b1, o1, e1, hb1, hc1⟩ := ((unhide hPI8).later hbr).nth (by omega)
            subst e1
            have hck := hc1 k hlt
            have C14 := hide (fun d os => Calls.regrown_of (v := .int .i64 (nth PL k)) (slotsPay_val (((unhide HI).later hbG).later (below_regrown wr d os)) (((unhide HS).later hbG).later (below_regrown wr d os)) (unhide HSM) hlt (unhide HPP k hlt)))
            clear hc1
            generalize nth PL k = y at *
            have q1' := fun d os => cell_regrown hck d os
            go_wp2_with fail
            refine wp_region_quiet_below (by kernel_rfl) (by kernel_rfl) ?_
            iterate 9 (quiet_step (first | with_reducible exact unhide C14 _ _))
            refine wpQuiet_nil ?_
            intro _ hw'
            obtain ⟨⟨dq, osq⟩, hw''⟩ := hw'
            subst hw''
            have hbq := below_regrown wr dq osq
            go_wp2_with fail
            go_roundw
            case rel => exact ⟨hbr.trans (hbq.mono hbr.size), k + 1, by omega, by go_num⟩
            case measure => simp [intOf]; omega
          · obtain rfl : n = k := by omega
            go_wp2
            go_ret
            exact ⟨rfl, hbG⟩
      · have hz2 : (smE n (nth l) m (nth sl) == 0) = false := by simpa using hsm
        have HSM := hide hsm
        clear hsm
        go_wp2_with fail
        refine (unhide C11 w5 hbC).mono ?_
        rintro e w6 ⟨hb6, ⟨-, rfl⟩ | ⟨hne, -⟩⟩
        rotate_left
        · exact absurd hne (unhide HSM)
        unfold slo
        have hbD := hbC.trans (hb6.mono hbC.size)
        go_wp2_with fail
        refine (unhide C12 w6 hbD).mono ?_
        rintro e w7 ⟨rfl, hb7⟩
        have hbE := hbD.trans (hb7.mono hbD.size)
        go_wp2
        go_ret
        exact ⟨rfl, hbE⟩
    · have hsm : smE n (nth l) m (nth sl) = bE n (nth l) := smE_bad hz
      have hz2 : (bE n (nth l) == 0) = false := by simpa using hz
      have HZ := hide hz
      have HSM := hide hsm
      clear hz hsm
      go_enter Try.func3, Try.ntmps3
      go_wp2_with fail
      refine (unhide C5 w (Below.refl _ _)).mono ?_
      rintro e w2 ⟨rfl, hw2⟩
      subst w2
      go_wp2_with fail
      refine (unhide C6 w (Below.refl _ _)).mono ?_
      rintro e w2 ⟨hw2, ⟨-, rfl⟩ | ⟨hne, -⟩⟩
      rotate_left
      · exact absurd hne (unhide HZ)
      subst w2
      unfold three
      go_wp2_with fail
      refine (unhide C7 w (Below.refl _ _)).mono ?_
      rintro e w2 ⟨hb2, ⟨-, rfl⟩ | ⟨hne, -⟩⟩
      rotate_left
      · exact absurd hne (unhide HZ)
      unfold three
      go_wp2_with fail
      refine (unhide C8 w2 hb2).mono ?_
      rintro e w3 ⟨hb3, ⟨-, rfl⟩ | ⟨hne, -⟩⟩
      rotate_left
      · exact absurd hne (unhide HZ)
      have hbA := hb2.trans (hb3.mono hb2.size)
      unfold three
      go_wp2_with fail
      refine (unhide C11 w3 hbA).mono ?_
      rintro e w4 ⟨hb4, ⟨-, rfl⟩ | ⟨hne, -⟩⟩
      rotate_left
      · exact absurd ((unhide HSM).symm.trans hne) (unhide HZ)
      rw [unhide HSM]
      unfold slo
      have hbB := hbA.trans (hb4.mono hbA.size)
      go_wp2_with fail
      refine (unhide C12 w4 hbB).mono ?_
      rintro e w5 ⟨rfl, hb5⟩
      rw [unhide HSM]
      have hbC := hbB.trans (hb5.mono hbB.size)
      go_wp2
      go_ret
      exact ⟨rfl, hbC⟩
end Go.Proofs.Ytfknnededkdodaa
