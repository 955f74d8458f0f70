import Derived.Test.YtbcchbhchfdbiaaO
namespace Go.Proofs.Ytbcchbhchfdbiaa
open Go.RowKit Go.Shelf
def BadC (L : List Nd) (q : List Int) (j : Nat) : Prop := nth q j < 0 ∨ max 1 ((ndAt L j).k.ln : Int) ≤ nth q j
open Classical in
noncomputable def mcE (P : Int) (n : Nat) (L : List Nd) (q : List Int) : Int := if tmE P n L ≠ 0 then tmE P n L else if q.length ≠ n then 7 else if ∃ j, j < n ∧ BadC L q j then 9 else 0
theorem mcE_t {P : Int} {n : Nat} {L : List Nd} {q : List Int} (h : tmE P n L ≠ 0) : mcE P n L q = tmE P n L := by unfold mcE; rw [if_pos h]
theorem mcE_7 {P : Int} {n : Nat} {L : List Nd} {q : List Int} (h : tmE P n L = 0) (h2 : q.length ≠ n) : mcE P n L q = 7 := by unfold mcE; rw [if_neg (fun e => e h), if_pos h2]
theorem mcE_9 {P : Int} {n : Nat} {L : List Nd} {q : List Int} (h : tmE P n L = 0) (h2 : q.length = n) {j : Nat} (hj : j < n) (hb : BadC L q j) : mcE P n L q = 9 := by unfold mcE; rw [if_neg (fun e => e h), if_neg (fun e => e h2), if_pos ⟨j, hj, hb⟩]
theorem mcE_0 {P : Int} {n : Nat} {L : List Nd} {q : List Int} (h : tmE P n L = 0) (h2 : q.length = n) (h3 : ∀ j, j < n → ¬ BadC L q j) : mcE P n L q = 0 := by
  unfold mcE; rw [if_neg (fun e => e h), if_neg (fun e => e h2), if_neg]
  rintro ⟨j, hj, hb⟩
  exact h3 j hj hb
theorem mcE_ok {P : Int} {n : Nat} {L : List Nd} {q : List Int} (h : mcE P n L q = 0) : tmE P n L = 0 ∧ q.length = n ∧ ChOk L n q := by
  by_cases h1 : tmE P n L = 0
  · by_cases h2 : q.length = n
    · refine ⟨h1, h2, fun j hj => ?_⟩
      have : ¬ BadC L q j := fun hb => by rw [mcE_9 h1 h2 hj hb] at h; omega
      unfold BadC at this
      omega
    · rw [mcE_7 h1 h2] at h; omega
  · rw [mcE_t h1] at h; exact absurd h h1
set_option maxRecDepth 100000 in
set_option maxHeartbeats 4000000 in
theorem mayChoose_any (P : Int) (a : Option Addr) (n c : Nat) (L : List Nd) (qa : Option Addr) (qn qc : Nat) (q : List Int) (w : World) (h : Nodes w a n c L) (hq : Ints w qa qn qc q) :
    Calls Try.prog 31 #[tV P a n c, .slice qa qn qc] w fun e w' => e = .returned (.int .i64 (mcE P n L q)) ∧ Below w.heap.size w w' := by
  obtain ⟨W, hW, hbW, hlt0, hbox⟩ := tbox (w := w) P a n c
  have HW := hide hW
  have HBW := hide hbW
  have HBX0 := hide hbox
  have w0 := (hbox W (Below.refl _ _)).1
  have w1 := (hbox W (Below.refl _ _)).2
  have hN := h.later hbW
  have hQ := hq.later hbW
  have CM := hide (may_any P a n c L W hN)
  have HQL := hide hq.1
  have gq1 := hq.2.1
  have gq2 := hq.2.2.1
  unfold maxLen at gq2
  by_cases hm : tmE P n L = 0
  · obtain ⟨p, rfl, hT⟩ := gt_of h hm
    have HM := hide hm
    rw [hm] at CM
    have n40 := hT.n40
    have n1 := hT.n1
    by_cases hqn : qn = n
    · subst hqn
      have hne : ((qn : Int) == (qn : Int)) = true := by simp
      have HN := hide hN
      have HQ := hide hQ
      unfold tV at CM ⊢
      clear h hW hbW hbox hN hT hm hQ hq
      go_enter Try.func31, Try.ntmps31
      go_wp2_with fail
      rw [unhide HW]
      go_wp2_with fail
      refine (unhide CM).mono ?_
      rintro e w2 ⟨rfl, hb2⟩
      have HB2 := hide hb2
      obtain ⟨v0, v1⟩ := unhide HBX0 w2 hb2
      obtain ⟨b, off, ea, hb, hcell⟩ := ((unhide HN).later hb2).cellAt (by omega)
      obtain ⟨b3, off3, ea3, hb3, hcell3⟩ := ((unhide HQ).later hb2).nth (by omega)
      subst ea ea3
      have HC := hide (hcell w2 (Below.refl _ _))
      have HC3 := hide hcell3
      clear hb2 w0 w1 hcell hcell3
      go_wp2_with fail
      go_loop [21, 6, 7] (fun i _ _ => ∃ k : Nat, k ≤ qn ∧ i = .int .i64 k ∧ Hid (∀ j, j < k → ¬ BadC L q j)) (fun i _ _ => qn - (intOf i).toNat)
      case atStart => exact ⟨0, Nat.zero_le _, rfl, fun j hj => by omega⟩
      case round =>
        obtain ⟨k, hk, rfl, HI⟩ := hrel
        by_cases hlt : k < qn
        · obtain ⟨-, z1, -⟩ := unhide HC k hlt
          have z2 := unhide HC3 k hlt
          by_cases hbad : BadC L q k
          · have HE := hide (mcE_9 (unhide HM) (unhide HQL).symm hlt hbad)
            by_cases e1 : nth q k < 0
            · clear hbad
              go_wp2
              go_ret
              exact ⟨ret_int (by rw [unhide HE]), (unhide HBW).trans ((unhide HB2).mono (unhide HBW).size)⟩
            · have e2 : max 1 ((ndAt L k).k.ln : Int) ≤ nth q k := by unfold BadC at hbad; omega
              clear hbad
              go_wp2
              go_ret
              exact ⟨ret_int (by rw [unhide HE]), (unhide HBW).trans ((unhide HB2).mono (unhide HBW).size)⟩
          · have HE := hide hbad
            have e1 : ¬ nth q k < 0 := by unfold BadC at hbad; omega
            have e2 : ¬ max 1 ((ndAt L k).k.ln : Int) ≤ nth q k := by unfold BadC at hbad; omega
            clear hbad
            go_wp2
            refine ⟨⟨k+1, by omega, by go_num, fun j hj => ?_⟩, by simp [intOf]; omega⟩
            by_cases e : j = k
            · subst e; exact unhide HE
            · exact unhide HI j (by omega)
        · go_wp2
          go_ret
          exact ⟨ret_int (by rw [mcE_0 (unhide HM) (unhide HQL).symm (fun j hj => unhide HI j (by omega))]), (unhide HBW).trans ((unhide HB2).mono (unhide HBW).size)⟩
    · have hne : ((qn : Int) == (n : Int)) = false := by simp; omega
      have HE := hide (mcE_7 (q := q) hm (by have := unhide HQL; omega))
      have hc1 := h.2.1
      have hc2 := h.2.2.1
      unfold maxLen at hc2
      unfold tV at CM ⊢
      clear h hW hbW hbox hN hT hm hQ hq
      go_enter Try.func31, Try.ntmps31
      go_wp2_with fail
      rw [unhide HW]
      go_wp2_with fail
      refine (unhide CM).mono ?_
      rintro e w2 ⟨rfl, hb2⟩
      have HB2 := hide hb2
      obtain ⟨v0, v1⟩ := unhide HBX0 w2 hb2
      clear hb2 w0 w1
      go_wp2
      go_ret
      exact ⟨ret_int (by rw [unhide HE]), (unhide HBW).trans ((unhide HB2).mono (unhide HBW).size)⟩
  · have HE := hide (mcE_t (q := q) hm)
    have hmd : (tmE P n L == 0) = false := by simpa using hm
    unfold tV at CM ⊢
    clear h hW hbW hbox hN hm hQ hq
    generalize tmE P n L = T at *
    go_enter Try.func31, Try.ntmps31
    go_wp2_with fail
    rw [unhide HW]
    go_wp2_with fail
    refine (unhide CM).mono ?_
    rintro e w2 ⟨rfl, hb2⟩
    have HB2 := hide hb2
    clear hb2 w0 w1
    go_wp2
    go_ret
    exact ⟨ret_int (by rw [unhide HE]), (unhide HBW).trans ((unhide HB2).mono (unhide HBW).size)⟩
end Go.Proofs.Ytbcchbhchfdbiaa
