import Derived.Test.YtihmbfapbkddeaaJ
namespace Go.Proofs.Ytihmbfapbkddeaa
open Go.RowKit
theorem lisA_out {L : List Sl} {i : Nat} (h : ¬ i < L.length) : lisA L i = [] := by
  unfold lisA slAt
  rw [List.getElem?_eq_none (by omega)]
  rfl
theorem sch_ok {WL FL : List Sl} {rl : List Int} {n m fn : Nat} (hn : n = WL.length) (hf : fn = FL.length) (h : schE WL FL rl n m fn = 0) :
    n ≤ 6 ∧ m ≤ 6 ∧ fn = m ∧ (∀ i, ∀ x ∈ lisA WL i, 0 ≤ x ∧ x < m) ∧ (∀ s, ∀ x ∈ lisA FL s, 0 ≤ x ∧ x < n) ∧ (∀ s, s < m → ∀ k, k < n → (k : Int) ∈ lisA FL s) ∧ ∀ s, s < m → 0 ≤ rl[s]?.getD 0 ∧ rl[s]?.getD 0 ≤ 6 := by
  unfold schE at h
  by_cases c1 : 6 < n ∨ 6 < m
  · rw [if_pos c1] at h; omega
  rw [if_neg c1] at h
  by_cases c2 : fn ≠ m
  · rw [if_pos c2] at h; omega
  rw [if_neg c2] at h
  by_cases c3 : nzFrom (wE WL m) n 0 ≠ 0
  · rw [if_pos c3] at h; exact absurd h c3
  rw [if_neg c3] at h
  have hw := nz_all _ 0 rfl (show nzFrom (wE WL m) n 0 = 0 by omega)
  have hs := nz_all _ 0 rfl h
  have ho : ∀ s, s < m → ordE (lisA FL s) n = 0 ∧ 0 ≤ rl[s]?.getD 0 ∧ rl[s]?.getD 0 ≤ 6 := fun s hsm => by
    have := hs s (Nat.zero_le _) hsm
    unfold sE at this
    by_cases d1 : ordE (lisA FL s) n ≠ 0
    · rw [if_pos d1] at this; exact absurd this d1
    · rw [if_neg d1] at this
      by_cases d2 : rl[s]?.getD 0 < 0 ∨ 6 < rl[s]?.getD 0
      · rw [if_pos d2] at this; omega
      · exact ⟨by omega, by omega, by omega⟩
  refine ⟨by omega, by omega, by omega, fun i => ?_, fun s => ?_, fun s hsm => ord_all (ho s hsm).1, fun s hsm => (ho s hsm).2⟩
  · by_cases hi : i < n
    · exact likes_range (hw i (Nat.zero_le _) hi)
    · rw [lisA_out (by omega)]; intro x hx; cases hx
  · by_cases hi : s < m
    · exact ord_range (ho s hi).1
    · rw [lisA_out (by omega)]; intro x hx; cases hx
def gotL (T : Ex) (n : Nat) : List Int := (List.range n).map T.got
theorem gotL_at (T : Ex) {n j : Nat} (h : j < n) : (gotL T n)[j]?.getD 0 = T.got j := by
  unfold gotL
  rw [List.getElem?_map, List.getElem?_range h]
  rfl
def SchPost (WL FL : List Sl) (rl : List Int) (n m fn : Nat) (w : World) (e : Ending) (w' : World) : Prop :=
  Below w.heap.size w w' ∧ ((schE WL FL rl n m fn ≠ 0 ∧ e = .returned (two (.slice none 0 0) (schE WL FL rl n m fn))) ∨
    (schE WL FL rl n m fn = 0 ∧ ∃ a c T kk, e = .returned (two (.slice a n c) 0) ∧ Ints w' a n c (gotL T n) ∧ Reach n (lisA WL) (lisA FL) kk (Ex0 (fun s => rl[s]?.getD 0)) T ∧ Done n T))
set_option maxRecDepth 100000 in
set_option maxHeartbeats 4000000 in
theorem schools_any (n m fn : Nat) (wa : Option Addr) (wc : Nat) (WL : List Sl) (ra : Option Addr) (rc : Nat) (rl : List Int) (fa : Option Addr) (fc : Nat) (FL : List Sl) (w : World) (hW : Lsts w wa n wc WL) (hR : Ints w ra m rc rl) (hF : Lsts w fa fn fc FL) :
    Calls Try.prog 20 #[.slice wa n wc, .slice ra m rc, .slice fa fn fc] w fun e w' => SchPost WL FL rl n m fn w e w' := by
  have CM := hide (maySchools_any n m fn wa wc WL ra rc rl fa fc FL w hW hR hF)
  have HN := hide hW.1
  have HFN := hide hF.1
  by_cases hz : schE WL FL rl n m fn = 0
  · obtain ⟨hn6, hm6, hfm, hr, hr2, hfull, hbd⟩ := sch_ok (unhide HN) (unhide HFN) hz
    subst hfm
    have HZ := hide hz
    rw [hz] at CM
    have CC := hide (clone_any ra fn rc rl w hR (by omega))
    go_enter Try.func20, Try.ntmps20
    go_wp2_with (first | (go_at_call 36; refine (unhide CM).mono ?_; rintro e w4 ⟨rfl, hw4⟩; subst w4) | fail)
    refine (unhide CC).mono ?_
    rintro e w1 ⟨v, rfl, ho, hb1⟩
    obtain ⟨va, cap, rfl, hvc, hvm, hrow⟩ := Row.of_owns ho
    have CX := hide (exchange_any n fn wa wc WL va cap (fun s => rl[s]?.getD 0) fa fc FL w w1 hb1 hW hF hrow hvc hvm hn6 hm6 hbd hr hr2 (fun kk S hre i hi => by
      have hB : 0 ≤ Bx (lisA WL) S i := hi.2.2
      have hlt : (Bx (lisA WL) S i).toNat < fn := by
        rcases fst_spec (p := fun s => 0 < S.left s) (l := lisA WL i) with h | ⟨h, _⟩
        · have e : Bx (lisA WL) S i = -1 := h
          omega
        · have := hr i _ h
          have e : Bx (lisA WL) S i = fst (fun s => 0 < S.left s) (lisA WL i) := rfl
          omega
      exact ⟨(i : Int), hfull _ hlt i hi.1, by rw [Int.toNat_natCast]; exact hi.2.1⟩))
    clear ho hr hr2 hfull hbd hrow
    go_wp2_with fail
    refine (unhide CX).mono ?_
    rintro e w2 ⟨g, T, kk, rfl, hrow2, hre, hdn, hb2⟩
    go_wp2
    go_ret2
    refine ⟨hb2, .inr ⟨unhide HZ, _, _, T, kk, rfl, hrow2.ints (by simp [gotL]) (Nat.le_refl _) (by unfold maxLen; omega) (fun j hj => (gotL_at T hj).symm), hre, hdn⟩⟩
  · have hzb : (schE WL FL rl n m fn != 0) = true := by simpa using hz
    have HZ := hide hz
    clear hz
    go_enter Try.func20, Try.ntmps20
    go_wp2_with (go_at_call 36; refine (unhide CM).mono ?_; rintro e w4 ⟨rfl, hw4⟩; subst w4)
    go_ret2
    exact ⟨Below.refl _ _, .inl ⟨unhide HZ, rfl⟩⟩
end Go.Proofs.Ytihmbfapbkddeaa
