import Derived.Test.YtihmbfapbkddeaaI
namespace Go.Proofs.Ytihmbfapbkddeaa
open Go.RowKit
/-- The first that is not 0. -/
def nzFuel (f : Nat → Int) : Nat → Nat → Int
  | 0, _ => 0
  | d + 1, k => if f k ≠ 0 then f k else nzFuel f d (k + 1)
def nzFrom (f : Nat → Int) (N k : Nat) : Int := nzFuel f (N - k) k
theorem nz_step {f : Nat → Int} {N k : Nat} (h : k < N) : nzFrom f N k = if f k ≠ 0 then f k else nzFrom f N (k + 1) := by
  unfold nzFrom
  rw [show N - k = (N - (k + 1)) + 1 by omega, nzFuel]
theorem nz_yes {f : Nat → Int} {N k : Nat} (h : k < N) (e : f k ≠ 0) : nzFrom f N k = f k := by rw [nz_step h, if_pos e]
theorem nz_no {f : Nat → Int} {N k : Nat} (h : k < N) (e : f k = 0) : nzFrom f N k = nzFrom f N (k + 1) := by rw [nz_step h, if_neg (by simpa using e)]
theorem nz_end {f : Nat → Int} {N k : Nat} (h : ¬ k < N) : nzFrom f N k = 0 := by
  unfold nzFrom
  rw [show N - k = 0 by omega, nzFuel]
theorem nz_all {f : Nat → Int} {N : Nat} : ∀ d k, N - k = d → nzFrom f N k = 0 → ∀ j, k ≤ j → j < N → f j = 0 := by
  intro d
  induction d with
  | zero => intro k hd _ j h1 h2; omega
  | succ d ih =>
    intro k hd h j h1 h2
    by_cases c : f k = 0
    · rw [nz_no (by omega) c] at h
      by_cases e : j = k
      · rw [e]; exact c
      · exact ih (k + 1) (by omega) h j (by omega) h2
    · rw [nz_yes (by omega) c] at h; exact absurd h c
theorem likes_all {l : List Int} {o : Int} : ∀ d k, l.length - k = d → likesFrom l o k = 0 → ∀ j, k ≤ j → j < l.length → (0 ≤ l[j]?.getD 0 ∧ l[j]?.getD 0 < o) ∧ ¬ l[j]?.getD 0 ∈ l.take j := by
  intro d
  induction d with
  | zero => intro k hd _ j h1 h2; omega
  | succ d ih =>
    intro k hd h j h1 h2
    have hk : k < l.length := by omega
    by_cases c : l[k]?.getD 0 < 0 ∨ o ≤ l[k]?.getD 0
    · rw [likesFrom_who hk c] at h; omega
    · by_cases c2 : 0 ≤ idxFrom (l.take k) (l[k]?.getD 0) 0
      · rw [likesFrom_dbl hk c c2] at h; omega
      · rw [likesFrom_on hk c c2] at h
        by_cases e : j = k
        · subst e
          refine ⟨by omega, fun hm => c2 ?_⟩
          have := idx_mem (l.take j) (l[j]?.getD 0)
          rw [decide_eq_true hm] at this
          exact of_decide_eq_true this
        · exact ih (k + 1) (by omega) h j (by omega) h2
theorem likes_range {l : List Int} {o : Int} (h : likesFrom l o 0 = 0) : ∀ x ∈ l, 0 ≤ x ∧ x < o := by
  intro x hx
  obtain ⟨j, hj, e⟩ := List.getElem_of_mem hx
  have := (likes_all _ 0 rfl h j (Nat.zero_le _) hj).1
  rw [List.getElem?_eq_getElem hj] at this
  rw [← e]
  exact this
theorem likes_nodup {l : List Int} {o : Int} (h : likesFrom l o 0 = 0) : l.Nodup := by
  have go : ∀ k, k ≤ l.length → (l.take k).Nodup := by
    intro k
    induction k with
    | zero => intro _; simp
    | succ k ih =>
      intro hk
      rw [List.take_succ_eq_append_getElem (by omega), List.nodup_append]
      refine ⟨ih (by omega), by simp, fun a ha c hc e => ?_⟩
      simp at hc
      have := (likes_all _ 0 rfl h k (Nat.zero_le _) (by omega)).2
      rw [List.getElem?_eq_getElem (by omega)] at this
      refine this ?_
      show l[k] ∈ l.take k
      rw [← hc, ← e]
      exact ha
  have := go l.length (Nat.le_refl _)
  rwa [List.take_length] at this
/-- An order of n has them all. -/
theorem ord_all {l : List Int} {n : Nat} (h : ordE l n = 0) : ∀ k, k < n → (k : Int) ∈ l := by
  intro k hk
  unfold ordE at h
  by_cases c : (l.length : Int) = n
  · rw [if_pos c] at h
    have hr := likes_range h
    have hn := likes_nodup h
    by_cases hm : (k : Int) ∈ l
    · exact hm
    · exfalso
      have h1 := len_le n (k :: l.map Int.toNat) (by
        rw [List.nodup_cons]
        refine ⟨fun hk2 => ?_, ?_⟩
        · rw [List.mem_map] at hk2
          obtain ⟨x, hx, e⟩ := hk2
          have := hr x hx
          exact hm (by rw [← e, Int.toNat_of_nonneg this.1]; exact hx)
        · have h2 : (l.map Int.toNat).Pairwise (· ≠ ·) := by
            rw [List.pairwise_map]
            refine List.Pairwise.imp_of_mem (fun {a b} ha hb hab e => hab ?_) hn
            have h3 := hr a ha
            have h4 := hr b hb
            omega
          exact h2) (fun x hx => by
        rcases List.mem_cons.1 hx with rfl | hx
        · exact hk
        · rw [List.mem_map] at hx
          obtain ⟨y, hy, rfl⟩ := hx
          have := hr y hy
          omega)
      simp at h1
      omega
  · rw [if_neg c] at h; omega
theorem ord_range {l : List Int} {n : Nat} (h : ordE l n = 0) : ∀ x ∈ l, 0 ≤ x ∧ x < n := by
  unfold ordE at h
  by_cases c : (l.length : Int) = n
  · rw [if_pos c] at h; exact likes_range h
  · rw [if_neg c] at h; omega
/-- T3: what may be. -/
def wE (WL : List Sl) (m : Nat) (i : Nat) : Int := likesFrom (lisA WL i) m 0
def sE (FL : List Sl) (rl : List Int) (n : Nat) (s : Nat) : Int := if ordE (lisA FL s) n ≠ 0 then ordE (lisA FL s) n else if rl[s]?.getD 0 < 0 ∨ 6 < rl[s]?.getD 0 then 9 else 0
def schE (WL FL : List Sl) (rl : List Int) (n m fn : Nat) : Int :=
  if 6 < n ∨ 6 < m then 2 else if fn ≠ m then 7 else if nzFrom (wE WL m) n 0 ≠ 0 then nzFrom (wE WL m) n 0 else nzFrom (sE FL rl n) m 0
set_option maxRecDepth 100000 in
set_option maxHeartbeats 4000000 in
theorem maySchools_any (n m fn : Nat) (wa : Option Addr) (wc : Nat) (WL : List Sl) (ra : Option Addr) (rc : Nat) (rl : List Int) (fa : Option Addr) (fc : Nat) (FL : List Sl) (w : World) (hW : Lsts w wa n wc WL) (hR : Ints w ra m rc rl) (hF : Lsts w fa fn fc FL) :
    Calls Try.prog 36 #[.slice wa n wc, .slice ra m rc, .slice fa fn fc] w fun e w' => e = .returned (.int .i64 (schE WL FL rl n m fn)) ∧ w' = w := by
  have h1 := hW.2.1
  have h2 := hW.2.2.1
  have h3 := hF.2.1
  have h4 := hF.2.2.1
  have h5 := hR.2.1
  have h6 := hR.2.2.1
  unfold maxLen at h2 h4 h6
  by_cases c1 : 6 < n ∨ 6 < m
  · have HF := hide (show schE WL FL rl n m fn = 2 by unfold schE; rw [if_pos c1])
    by_cases c2 : 6 < n
    · have d1 : decide (6 < (n : Int)) = true := decide_eq_true (by omega)
      go_enter Try.func36, Try.ntmps36
      go_wp2
      go_ret
      exact ⟨ret_int (unhide HF).symm, rfl⟩
    · have d1 : decide (6 < (n : Int)) = false := decide_eq_false (by omega)
      have d2 : decide (6 < (m : Int)) = true := decide_eq_true (by omega)
      go_enter Try.func36, Try.ntmps36
      go_wp2
      go_ret
      exact ⟨ret_int (unhide HF).symm, rfl⟩
  have d1 : decide (6 < (n : Int)) = false := decide_eq_false (by omega)
  have d2 : decide (6 < (m : Int)) = false := decide_eq_false (by omega)
  by_cases c2 : fn = m
  · subst c2
    have HE := hide (show schE WL FL rl n fn fn = if nzFrom (wE WL fn) n 0 ≠ 0 then nzFrom (wE WL fn) n 0 else nzFrom (sE FL rl n) fn 0 by unfold schE; rw [if_neg c1, if_neg (by omega)])
    go_enter Try.func36, Try.ntmps36
    go_wp2_with fail
    go_loop [28, 8, 9] (fun i _ _ => ∃ k : Nat, k ≤ n ∧ i = .int .i64 k ∧ nzFrom (wE WL fn) n 0 = nzFrom (wE WL fn) n k) (fun i _ _ => n - (intOf i).toNat)
    case atStart => exact ⟨0, Nat.zero_le _, rfl, rfl⟩
    case round =>
      obtain ⟨k, hk, rfl, hi⟩ := hrel
      have HI := hide hi
      clear hi
      by_cases hlt : k < n
      · obtain ⟨b, off, rfl, hb, hcell⟩ := hW.cellAt (by omega)
        have hck := hcell k hlt
        have CC := maySome_any (slAt WL k).la (slAt WL k).ln (slAt WL k).lc (slAt WL k).ints fn w (hW.mem hlt)
        obtain ⟨z, hz⟩ : ∃ z, wE WL fn k = z := ⟨_, rfl⟩
        rw [show likesFrom (slAt WL k).ints fn 0 = z from hz] at CC
        have C1 := hide CC
        have HZ := hide hz
        clear CC hz hcell
        generalize slAt WL k = s1 at *
        obtain ⟨sa, sn, sc, sl⟩ := s1
        simp only at hck C1
        by_cases hz0 : z = 0
        · subst hz0
          have HN := hide (nz_no hlt (unhide HZ))
          go_wp2_with (go_at_call 43; refine (unhide C1).mono ?_; rintro e w4 ⟨rfl, hw4⟩; subst w4)
          refine ⟨⟨k + 1, by omega, by go_num, by rw [unhide HI, unhide HN]⟩, by simp [intOf]; omega⟩
        · have HN : Hid (schE WL FL rl n fn fn = z) := by
            have e : nzFrom (wE WL fn) n 0 = z := by rw [unhide HI, nz_yes hlt (by rw [unhide HZ]; exact hz0), unhide HZ]
            rw [unhide HE, e, if_pos hz0]; rfl
          have hb2 : (z != 0) = true := by simpa using hz0
          go_wp2_with (go_at_call 43; refine (unhide C1).mono ?_; rintro e w4 ⟨rfl, hw4⟩; subst w4)
          go_ret
          exact ⟨ret_int (unhide HN).symm, rfl⟩
      · have HE2 : Hid (schE WL FL rl n fn fn = nzFrom (sE FL rl n) fn 0) := by
          rw [unhide HE, unhide HI, nz_end hlt, if_neg (by simp)]; rfl
        clear HI
        go_wp2_with fail
        go_loop [42, 10, 11, 12] (fun i _ _ _ => ∃ k : Nat, k ≤ fn ∧ i = .int .i64 k ∧ nzFrom (sE FL rl n) fn 0 = nzFrom (sE FL rl n) fn k) (fun i _ _ _ => fn - (intOf i).toNat)
        case atStart => exact ⟨0, Nat.zero_le _, rfl, rfl⟩
        case round =>
          obtain ⟨q, hq, rfl, hi⟩ := hrel
          have HI := hide hi
          clear hi
          by_cases hql : q < fn
          · obtain ⟨b, off, rfl, hb, hcell⟩ := hF.cellAt (by omega)
            have hck := hcell q hql
            obtain ⟨b2, off2, rfl, hb2, hcell2⟩ := hR.cellAt (by omega)
            have hcr := hcell2 q hql
            have CC := ordersMay_any (slAt FL q).la (slAt FL q).ln (slAt FL q).lc (slAt FL q).ints n w (hF.mem hql)
            obtain ⟨z, hz⟩ : ∃ z, ordE (lisA FL q) n = z := ⟨_, rfl⟩
            rw [show ordE (slAt FL q).ints n = z from hz] at CC
            obtain ⟨v, hv⟩ : ∃ v, rl[q]?.getD 0 = v := ⟨_, rfl⟩
            rw [hv] at hcr
            have HS : Hid (sE FL rl n q = if z ≠ 0 then z else if v < 0 ∨ 6 < v then 9 else 0) := by show _ = _; unfold sE; rw [hz, hv]
            have C1 := hide CC
            clear CC hz hv hcell hcell2
            generalize slAt FL q = s1 at *
            obtain ⟨sa, sn, sc, sl⟩ := s1
            simp only at hck C1
            by_cases hz0 : z = 0
            · subst hz0
              rw [if_neg (by simp)] at HS
              by_cases hv0 : v < 0 ∨ 6 < v
              · rw [if_pos hv0] at HS
                have HN : Hid (schE WL FL rl n fn fn = 9) := by rw [unhide HE2, unhide HI, nz_yes hql (by rw [unhide HS]; omega), unhide HS]; rfl
                by_cases hv1 : v < 0
                · go_wp2_with (go_at_call 27; refine (unhide C1).mono ?_; rintro e w4 ⟨rfl, hw4⟩; subst w4)
                  go_ret
                  exact ⟨ret_int (unhide HN).symm, rfl⟩
                · have hv2 : 6 < v := by omega
                  go_wp2_with (go_at_call 27; refine (unhide C1).mono ?_; rintro e w4 ⟨rfl, hw4⟩; subst w4)
                  go_ret
                  exact ⟨ret_int (unhide HN).symm, rfl⟩
              · rw [if_neg hv0] at HS
                have HN := hide (nz_no hql (unhide HS))
                have hv1 : ¬ v < 0 := by omega
                have hv2 : ¬ 6 < v := by omega
                clear hv0
                go_wp2_with (go_at_call 27; refine (unhide C1).mono ?_; rintro e w4 ⟨rfl, hw4⟩; subst w4)
                refine ⟨⟨q + 1, by omega, by go_num, by rw [unhide HI, unhide HN]⟩, by simp [intOf]; omega⟩
            · rw [if_pos hz0] at HS
              have HN : Hid (schE WL FL rl n fn fn = z) := by rw [unhide HE2, unhide HI, nz_yes hql (by rw [unhide HS]; exact hz0), unhide HS]; rfl
              have hb3 : (z != 0) = true := by simpa using hz0
              go_wp2_with (go_at_call 27; refine (unhide C1).mono ?_; rintro e w4 ⟨rfl, hw4⟩; subst w4)
              go_ret
              exact ⟨ret_int (unhide HN).symm, rfl⟩
          · have HN : Hid (schE WL FL rl n fn fn = 0) := by rw [unhide HE2, unhide HI, nz_end hql]; rfl
            go_wp2
            go_ret
            exact ⟨ret_int (unhide HN).symm, rfl⟩
  · have HF := hide (show schE WL FL rl n m fn = 7 by unfold schE; rw [if_neg c1, if_pos c2])
    go_enter Try.func36, Try.ntmps36
    go_wp2
    go_ret
    exact ⟨ret_int (unhide HF).symm, rfl⟩
end Go.Proofs.Ytihmbfapbkddeaa
