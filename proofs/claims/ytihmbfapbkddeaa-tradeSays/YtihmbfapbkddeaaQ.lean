import Derived.Test.YtihmbfapbkddeaaM
namespace Go.Proofs.Ytihmbfapbkddeaa
open Go.RowKit
/-- T1: what may be. -/
def tE (WL : List Sl) (n : Nat) : Int := if 6 < n then 2 else nzFrom (fun i => ordE (lisA WL i) n) n 0
set_option maxHeartbeats 1000000 in
theorem tmay_any (n : Nat) (wa : Option Addr) (wc : Nat) (WL : List Sl) (w : World) (hW : Lsts w wa n wc WL) :
    Calls Try.prog 10 #[.slice wa n wc] w fun e w' => e = .returned (.int .i64 (tE WL n)) ∧ w' = w := by
  have h1 := hW.2.1
  have h2 := hW.2.2.1
  unfold maxLen at h2
  by_cases c1 : 6 < n
  · have HF := hide (show tE WL n = 2 by unfold tE; rw [if_pos c1])
    have d1 : decide (6 < (n : Int)) = true := decide_eq_true (by omega)
    go_enter Try.func10, Try.ntmps10
    go_wp2
    go_ret
    exact ⟨ret_int (unhide HF).symm, rfl⟩
  have d1 : decide (6 < (n : Int)) = false := decide_eq_false (by omega)
  have HE := hide (show tE WL n = nzFrom (fun i => ordE (lisA WL i) n) n 0 by unfold tE; rw [if_neg c1])
  go_enter Try.func10, Try.ntmps10
  go_wp2_with fail
  go_loop [11, 4, 5] (fun i _ _ => ∃ k : Nat, k ≤ n ∧ i = .int .i64 k ∧ nzFrom (fun i => ordE (lisA WL i) n) n 0 = nzFrom (fun i => ordE (lisA WL i) n) n k) (fun i _ _ => n - (intOf i).toNat)
  case atStart => exact ⟨0, Nat.zero_le _, rfl, rfl⟩
  case round =>
    obtain ⟨k, hk, rfl, hi⟩ := hrel
    have HI := hide hi
    clear hi
    by_cases hlt : k < n
    · obtain ⟨b, off, rfl, hb, hcell⟩ := hW.cellAt (by omega)
      have hck := hcell k hlt
      have CC := ordersMay_any (slAt WL k).la (slAt WL k).ln (slAt WL k).lc (slAt WL k).ints n w (hW.mem hlt)
      obtain ⟨z, hz⟩ : ∃ z, ordE (lisA WL k) n = z := ⟨_, rfl⟩
      rw [show ordE (slAt WL k).ints n = z from hz] at CC
      have C1 := hide CC
      have HZ := hide hz
      clear CC hz hcell
      generalize slAt WL k = s1 at *
      obtain ⟨sa, sn, sc, sl⟩ := s1
      simp only at hck C1
      by_cases hz0 : z = 0
      · subst hz0
        have HN := hide (nz_no (f := fun i => ordE (lisA WL i) n) hlt (unhide HZ))
        go_wp2_with (go_at_call 27; refine (unhide C1).mono ?_; rintro e w4 ⟨rfl, hw4⟩; subst w4)
        refine ⟨⟨k + 1, by omega, by go_num, by rw [unhide HI, unhide HN]⟩, by simp [intOf]; omega⟩
      · have HN : Hid (tE WL n = z) := by
          have e : nzFrom (fun i => ordE (lisA WL i) n) n 0 = z := by rw [unhide HI, nz_yes hlt (by show ordE (lisA WL k) n ≠ 0; rw [unhide HZ]; exact hz0)]; exact unhide HZ
          rw [unhide HE, e]; rfl
        have hb2 : (z != 0) = true := by simpa using hz0
        go_wp2_with (go_at_call 27; refine (unhide C1).mono ?_; rintro e w4 ⟨rfl, hw4⟩; subst w4)
        go_ret
        exact ⟨ret_int (unhide HN).symm, rfl⟩
    · have HN : Hid (tE WL n = 0) := by rw [unhide HE, unhide HI, nz_end hlt]; rfl
      go_wp2
      go_ret
      exact ⟨ret_int (unhide HN).symm, rfl⟩
set_option maxHeartbeats 1000000 in
theorem tradeMay_any (n : Nat) (wa : Option Addr) (wc : Nat) (WL : List Sl) (w : World) (hW : Lsts w wa n wc WL) :
    Calls Try.prog 11 #[.slice wa n wc] w fun e w' => e = .returned (.int .i64 (tE WL n)) ∧ w' = w := by
  have h1 := hW.2.1
  have h2 := hW.2.2.1
  unfold maxLen at h2
  by_cases c1 : 6 < n
  · have HF := hide (show tE WL n = 2 by unfold tE; rw [if_pos c1])
    have d1 : decide (6 < (n : Int)) = true := decide_eq_true (by omega)
    go_enter Try.func11, Try.ntmps11
    go_wp2
    go_ret
    exact ⟨ret_int (unhide HF).symm, rfl⟩
  have d1 : decide (6 < (n : Int)) = false := decide_eq_false (by omega)
  have HE := hide (show tE WL n = nzFrom (fun i => ordE (lisA WL i) n) n 0 by unfold tE; rw [if_neg c1])
  go_enter Try.func11, Try.ntmps11
  go_wp2_with fail
  go_loop [3, 4] (fun i _ => ∃ k : Nat, k ≤ n ∧ i = .int .i64 k ∧ nzFrom (fun i => ordE (lisA WL i) n) n 0 = nzFrom (fun i => ordE (lisA WL i) n) n k) (fun i _ => n - (intOf i).toNat)
  case atStart => exact ⟨0, Nat.zero_le _, rfl, rfl⟩
  case round =>
    obtain ⟨k, hk, rfl, hi⟩ := hrel
    have HI := hide hi
    clear hi
    by_cases hlt : k < n
    · obtain ⟨b, off, rfl, hb, hcell⟩ := hW.cellAt (by omega)
      have hck := hcell k hlt
      have CC := orderOf_any (slAt WL k).la (slAt WL k).ln (slAt WL k).lc (slAt WL k).ints n w (hW.mem hlt)
      obtain ⟨z, hz⟩ : ∃ z, ordE (lisA WL k) n = z := ⟨_, rfl⟩
      rw [show ordE (slAt WL k).ints n = z from hz] at CC
      have C1 := hide CC
      have HZ := hide hz
      clear CC hz hcell
      generalize slAt WL k = s1 at *
      obtain ⟨sa, sn, sc, sl⟩ := s1
      simp only at hck C1
      by_cases hz0 : z = 0
      · subst hz0
        have HN := hide (nz_no (f := fun i => ordE (lisA WL i) n) hlt (unhide HZ))
        go_wp2_with (go_at_call 28; refine (unhide C1).mono ?_; rintro e w4 ⟨rfl, hw4⟩; subst w4)
        refine ⟨⟨k + 1, by omega, by go_num, by rw [unhide HI, unhide HN]⟩, by simp [intOf]; omega⟩
      · have HN : Hid (tE WL n = z) := by
          have e : nzFrom (fun i => ordE (lisA WL i) n) n 0 = z := by rw [unhide HI, nz_yes hlt (by show ordE (lisA WL k) n ≠ 0; rw [unhide HZ]; exact hz0)]; exact unhide HZ
          rw [unhide HE, e]; rfl
        have hb2 : (z != 0) = true := by simpa using hz0
        go_wp2_with (go_at_call 28; refine (unhide C1).mono ?_; rintro e w4 ⟨rfl, hw4⟩; subst w4)
        go_ret
        exact ⟨ret_int (unhide HN).symm, rfl⟩
    · have HN : Hid (tE WL n = 0) := by rw [unhide HE, unhide HI, nz_end hlt]; rfl
      go_wp2
      go_ret
      exact ⟨ret_int (unhide HN).symm, rfl⟩
theorem tr_ok {WL : List Sl} {n : Nat} (hn : n = WL.length) (h : tE WL n = 0) : n ≤ 6 ∧ (∀ i, ∀ x ∈ lisA WL i, 0 ≤ x ∧ x < n) ∧ (∀ i, i < n → ∀ k, k < n → (k : Int) ∈ lisA WL i) ∧ (∀ i, i < n → ordE (lisA WL i) n = 0) := by
  unfold tE at h
  by_cases c1 : 6 < n
  · rw [if_pos c1] at h; omega
  rw [if_neg c1] at h
  have hw := nz_all _ 0 rfl h
  refine ⟨by omega, fun i => ?_, fun i hi => ord_all (hw i (Nat.zero_le _) hi), fun i hi => hw i (Nat.zero_le _) hi⟩
  by_cases hi : i < n
  · exact ord_range (hw i (Nat.zero_le _) hi)
  · rw [lisA_out (by omega)]; intro x hx; cases hx
/-- A thing is there just if its owner is. -/
def Inv (n : Nat) (S : Ex) : Prop := ∀ s, s < n → (S.got s = -2 ∧ S.left s = 1) ∨ (S.got s ≠ -2 ∧ S.left s = 0)
section
variable {n : Nat} {wi fi : Nat → List Int}
theorem inv_best (hr : ∀ i, ∀ x ∈ wi i, 0 ≤ x ∧ x < n) (hfull : ∀ i, i < n → ∀ k, k < n → (k : Int) ∈ wi i) (ho : ∀ s, s < n → fi s = [(s : Int)]) {S : Ex} (hI : Inv n S) {i : Nat} (hi : i < n) (hg : S.got i = -2) :
    ∃ t : Nat, t < n ∧ Bx wi S i = t ∧ S.got t = -2 ∧ Nx wi fi S i = t := by
  have hl : 0 < S.left i := by rcases hI i hi with h | h <;> omega
  rcases bx_range hr S i with h | ⟨h1, h2, h3⟩
  · exact absurd hl (by have := fst_none (fun x hx => (hr i x hx).1) h (i : Int) (hfull i hi i hi); rwa [Int.toNat_natCast] at this)
  · have hgt : S.got (Bx wi S i).toNat = -2 := by rcases hI (Bx wi S i).toNat (by omega) with h | h <;> omega
    refine ⟨(Bx wi S i).toNat, by omega, by omega, hgt, ?_⟩
    unfold Nx Px
    rw [ho _ (by omega), fst, if_pos (by rw [Int.toNat_natCast]; exact hgt), Int.toNat_natCast]
theorem inv_keep (hr : ∀ i, ∀ x ∈ wi i, 0 ≤ x ∧ x < n) (hfull : ∀ i, i < n → ∀ k, k < n → (k : Int) ∈ wi i) (ho : ∀ s, s < n → fi s = [(s : Int)]) {S T : Ex} {X : Nat → Prop} (hI : Inv n S) (hok : Ok n wi fi S X) (hd : Do wi S X T) : Inv n T := by
  have hcy : ∀ i, X i → Cyc n wi fi S i ∧ X (Nx wi fi S i) := fun i hi => by
    rcases hok i hi with h | h
    · obtain ⟨t, _, h2, _⟩ := inv_best hr hfull ho hI h.1 h.2.1
      have := h.2.2
      omega
    · exact h
  intro s hs
  by_cases c : X s
  · obtain ⟨h1, _⟩ := hcy s c
    have hlv := h1.2 0
    obtain ⟨t, _, ht, _⟩ := inv_best hr hfull ho hI hlv.1 hlv.2.1
    have hbs : Bx wi S s = t := ht
    refine .inr ⟨by rw [hd.1 s c, hbs]; omega, ?_⟩
    obtain ⟨⟨p, hp, e⟩, hl⟩ := h1
    obtain ⟨q, rfl⟩ : ∃ q, p = q + 1 := ⟨p - 1, by omega⟩
    have hj := hok.itx q s c ⟨⟨q + 1, hp, e⟩, hl⟩
    have hjl := hl q
    obtain ⟨t2, _, ht2, _, hn2⟩ := inv_best hr hfull ho hI hjl.1 hjl.2.1
    rw [itx_next] at e
    rw [hd.2.2.1 s ⟨_, hj, by rw [ht2]; omega⟩]
    rcases hI s hs with h | h
    · omega
    · exact absurd hlv.2.1 h.1
  · have h1 : T.left s = S.left s := hd.2.2.2 s (fun ⟨i, hi, e⟩ => by
      obtain ⟨h1, h2⟩ := hcy i hi
      have hlv := h1.2 0
      obtain ⟨t, _, ht, _, hn⟩ := inv_best hr hfull ho hI hlv.1 hlv.2.1
      have hbt : Bx wi S i = t := ht
      have hnt : Nx wi fi S i = t := hn
      rw [hnt] at h2
      exact c (by rw [show s = t by omega]; exact h2))
    rw [hd.2.1 s c, h1]
    exact hI s hs
theorem inv_reach (hr : ∀ i, ∀ x ∈ wi i, 0 ≤ x ∧ x < n) (hfull : ∀ i, i < n → ∀ k, k < n → (k : Int) ∈ wi i) (ho : ∀ s, s < n → fi s = [(s : Int)]) : ∀ k (S T : Ex), Reach n wi fi k S T → Inv n S → Inv n T := by
  intro k
  induction k with
  | zero => intro S T h hI; have e : S = T := h; subst e; exact hI
  | succ k ih =>
    intro S T h hI
    obtain ⟨X, S1, h1, h2, h3⟩ := h
    exact ih S1 T h3 (inv_keep hr hfull ho hI h1 h2)
theorem inv_start : Inv n (Ex0 fun _ => 1) := fun _ _ => .inl ⟨rfl, rfl⟩
/-- Each thing points at its owner. -/
def ownF (n : Nat) (s : Nat) : List Int := if s < n then [(s : Int)] else []
theorem ownF_in {s : Nat} (h : s < n) : ownF n s = [(s : Int)] := if_pos h
end
end Go.Proofs.Ytihmbfapbkddeaa
