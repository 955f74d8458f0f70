import Derived.Test.YtaaikaeknealkaaA
namespace Go.Proofs.Ytaaikaeknealkaa
open Go.RowKit
/-- The first thing that is wrong, from the k-th on. -/
def fE (E : Nat → Int) : Nat → Nat → Int
  | 0, _ => 0
  | f + 1, k => if E k ≠ 0 then E k else fE E f (k + 1)
theorem fE_yes {E : Nat → Int} {n k : Nat} (h : k < n) (e : E k ≠ 0) : fE E (n - k) k = E k := by
  rw [show n - k = (n - (k + 1)) + 1 by omega, fE, if_pos e]
theorem fE_no {E : Nat → Int} {n k : Nat} (h : k < n) (e : E k = 0) : fE E (n - k) k = fE E (n - (k + 1)) (k + 1) := by
  rw [show n - k = (n - (k + 1)) + 1 by omega, fE, if_neg (by simpa using e)]
theorem fE_end {E : Nat → Int} {n : Nat} : fE E (n - n) n = 0 := by rw [Nat.sub_self]; rfl
theorem fE_congr {E E' : Nat → Int} : ∀ f k, (∀ j, k ≤ j → j < k + f → E j = E' j) → fE E f k = fE E' f k := by
  intro f
  induction f with
  | zero => intro k _; rfl
  | succ f ih => intro k h; rw [fE, fE, h k (Nat.le_refl _) (by omega), ih (k + 1) (fun j h1 h2 => h j (by omega) (by omega))]
theorem fE_zero {E : Nat → Int} : ∀ f k, fE E f k = 0 → ∀ j, k ≤ j → j < k + f → E j = 0 := by
  intro f
  induction f with
  | zero => intro k _ j h1 h2; omega
  | succ f ih =>
    intro k h j h1 h2
    rw [fE] at h
    by_cases e : E k = 0
    · rw [if_neg (by simpa using e)] at h
      by_cases c : j = k
      · subst c; exact e
      · exact ih (k + 1) h j (by omega) (by omega)
    · rw [if_pos e] at h; exact absurd h e
open Classical in
/-- What is wrong with what a set is worth. -/
noncomputable def wE (it : Nat) (w : Nat → Int) (s : Nat) : Int := if w s < 0 ∨ 1000 < w s ∨ (s = 0 ∧ w s ≠ 0) then 9 else if ∃ k, k < it ∧ hs s k = true ∧ w s < w (s - 2 ^ k) then 11 else 0
theorem wE_val {it s : Nat} {w : Nat → Int} (h : w s < 0 ∨ 1000 < w s ∨ (s = 0 ∧ w s ≠ 0)) : wE it w s = 9 := by unfold wE; rw [if_pos h]
theorem wE_st {it s : Nat} {w : Nat → Int} (h : ¬ (w s < 0 ∨ 1000 < w s ∨ (s = 0 ∧ w s ≠ 0))) (h2 : ∃ k, k < it ∧ hs s k = true ∧ w s < w (s - 2 ^ k)) : wE it w s = 11 := by unfold wE; rw [if_neg h, if_pos h2]
theorem wE_ok {it s : Nat} {w : Nat → Int} (h : ¬ (w s < 0 ∨ 1000 < w s ∨ (s = 0 ∧ w s ≠ 0))) (h2 : ¬ ∃ k, k < it ∧ hs s k = true ∧ w s < w (s - 2 ^ k)) : wE it w s = 0 := by unfold wE; rw [if_neg h, if_neg h2]
theorem andNot_one : ∀ s : Nat, s < 16 → ∀ k : Nat, k < 4 → bits BinOp.andNot IntKind.i64 (s : Int) ((2 ^ k : Nat) : Int) = (((if hs s k = true then s - 2 ^ k else s) : Nat) : Int) := by decide +kernel
theorem wr1 : IntKind.i64.wrap ((2 : Int) ^ 1) = 2 := by decide
theorem wrap_pow {k P : Nat} (hP : P = 2 ^ k) (h : k ≤ 4) : IntKind.i64.wrap ((2 : Int) ^ k) = (P : Int) := by
  have : (2 : Int) ^ k = (P : Int) := by rw [hP]; simp
  have h16 : P ≤ 16 := by rw [hP]; exact pow_le h
  rw [this]
  exact wrap_in _ (by omega) (by omega)
theorem hs_le {s k : Nat} (h : hs s k = true) : 2 ^ k ≤ s := by
  unfold hs at h
  have : s / 2 ^ k % 2 = 1 := by simpa using h
  rcases Nat.lt_or_ge s (2 ^ k) with h1 | h1
  · rw [Nat.div_eq_of_lt h1] at this; omega
  · exact h1
set_option maxRecDepth 100000 in
set_option maxHeartbeats 2000000 in
theorem mayWorth_any (a : Option Addr) (n c : Nat) (l : List Int) (it : Nat) (w : World) (h : Ints w a n c l) (hit : it ≤ 4) (hn : n = 2 ^ it) :
    Calls Try.prog 20 #[.slice a n c, .int .i64 it] w fun e w' => e = .returned (.int .i64 (fE (wE it (nth l)) n 0)) ∧ w' = w := by
  have h1 := h.2.1
  have h2 := h.2.2.1
  unfold maxLen at h2
  have hn16 : n ≤ 16 := by rw [hn]; exact pow_le hit
  have hn0 : 0 < n := by rw [hn]; exact Nat.two_pow_pos it
  obtain ⟨b, off, rfl, hb, hcell⟩ := h.nth hn0
  have HC := hide hcell
  clear h hcell hn
  generalize nth l = v at *
  have HE : Hid (∀ s, (v s < 0 ∨ 1000 < v s ∨ (s = 0 ∧ v s ≠ 0)) → wE it v s = 9) := fun s q => wE_val q
  have HF : Hid (∀ s, ¬ (v s < 0 ∨ 1000 < v s ∨ (s = 0 ∧ v s ≠ 0)) → (∃ k, k < it ∧ hs s k = true ∧ v s < v (s - 2 ^ k)) → wE it v s = 11) := fun s q r => wE_st q r
  have HG : Hid (∀ s, ¬ (v s < 0 ∨ 1000 < v s ∨ (s = 0 ∧ v s ≠ 0)) → (¬ ∃ k, k < it ∧ hs s k = true ∧ v s < v (s - 2 ^ k)) → wE it v s = 0) := fun s q r => wE_ok q r
  generalize wE it v = E at *
  go_enter Try.func20, Try.ntmps20
  go_wp2
  go_loop [10, 5, 6, 7] (fun i _ _ _ => ∃ s : Nat, s ≤ n ∧ i = .int .i64 s ∧ fE E n 0 = fE E (n - s) s) (fun i _ _ _ => n - (intOf i).toNat)
  case atStart => exact ⟨0, Nat.zero_le _, rfl, rfl⟩
  case round =>
    obtain ⟨s, hs', rfl, hfe⟩ := hrel
    by_cases hlt : s < n
    · have hck := unhide HC s hlt
      have HY : Hid (E s ≠ 0 → fE E n 0 = E s) := fun e => by rw [hfe, fE_yes hlt e]
      have HN : Hid (E s = 0 → fE E n 0 = fE E (n - (s + 1)) (s + 1)) := fun e => by rw [hfe, fE_no hlt e]
      clear hfe
      by_cases hbad : v s < 0 ∨ 1000 < v s ∨ (s = 0 ∧ v s ≠ 0)
      · have he := unhide HE s hbad
        have HR : Hid (fE E n 0 = 9) := by rw [unhide HY (by rw [he]; omega), he]; rfl
        clear HY HN he
        generalize v s = y at *
        by_cases y1 : y < 0
        · go_wp2
          go_ret
          exact ⟨ret_int (unhide HR).symm, rfl⟩
        · by_cases y2 : 1000 < y
          · go_wp2
            go_ret
            exact ⟨ret_int (unhide HR).symm, rfl⟩
          · obtain ⟨s0, y3⟩ : s = 0 ∧ y ≠ 0 := by
              rcases hbad with h | h | h
              · omega
              · omega
              · exact h
            have e0 : ((s : Int) == 0) = true := by simp; omega
            have y4 : (y == 0) = false := by simpa using y3
            clear s0 hbad
            go_wp2
            go_ret
            exact ⟨ret_int (unhide HR).symm, rfl⟩
      · have HK1 := hide (unhide HF s hbad)
        have HK2 := hide (unhide HG s hbad)
        have y1 : ¬ v s < 0 := fun h => hbad (.inl h)
        have y2 : ¬ 1000 < v s := fun h => hbad (.inr (.inl h))
        have y3 : s = 0 → v s = 0 := fun h => by
          rcases Int.lt_trichotomy (v s) 0 with e | e | e
          · exact absurd e y1
          · exact e
          · exact absurd (.inr (.inr ⟨h, by omega⟩)) hbad
        have HV : Hid (∀ j, j < n → w.cell? ⟨b, off + j, none⟩ = some (.int .i64 (v j))) := HC
        obtain ⟨y, hy⟩ : ∃ y, y = v s := ⟨_, rfl⟩
        rw [← hy] at y1 y2 hck HK1 HK2
        have y3' : s = 0 → y = 0 := fun h => by rw [hy]; exact y3 h
        clear hbad y3
        have HS0 : Hid (s ≠ 0 → ((s : Int) == 0) = false) := fun h => by simp; omega
        by_cases s0 : s = 0
        · have e0 : ((s : Int) == 0) = true := by simp; omega
          have y0 : (y == 0) = true := by rw [y3' s0]; rfl
          clear hy s0
          clear y3'
          go_wp2
          go_loop [30, 7] (fun i _ => ∃ k : Nat, k ≤ it ∧ i = .int .i64 k ∧ ∀ j, j < k → ¬ (hs s j = true ∧ y < v (s - 2 ^ j))) (fun i _ => it - (intOf i).toNat)
          case atStart => exact ⟨0, Nat.zero_le _, rfl, fun j hj => by omega⟩
          case round =>
            obtain ⟨k, hk, rfl, hkk⟩ := hrel
            have HKK := hide hkk
            clear hkk
            by_cases hlk : k < it
            · obtain ⟨P, hP⟩ : ∃ P : Nat, P = 2 ^ k := ⟨_, rfl⟩
              have hwp := wrap_pow hP (by omega)
              have han := andNot_one s (by omega) k (by omega)
              rw [← hP] at han
              have hle : hs s k = true → P ≤ s := fun h => by rw [hP]; exact hs_le h
              cases hh : hs s k
              · rw [hh, if_neg (by simp)] at han
                have HKN : Hid (∀ j, j < k + 1 → ¬ (hs s j = true ∧ y < v (s - 2 ^ j))) := fun j hj hc => by
                  by_cases e : j = k
                  · subst e; rw [hh] at hc; cases hc.1
                  · exact unhide HKK j (by omega) hc
                clear hP
                go_wp2
                exact ⟨⟨k + 1, by omega, by go_num, unhide HKN⟩, by simp [intOf]; omega⟩
              · rw [hh, if_pos rfl] at han
                have hPs := hle hh
                obtain ⟨q, hq⟩ : ∃ q, q = s - P := ⟨_, rfl⟩
                rw [← hq] at han
                have hqn : q < n := by omega
                have hcq := unhide HC q hqn
                have hvq : v (s - 2 ^ k) = v q := by rw [hq, hP]
                clear hq
                obtain ⟨z, hz⟩ : ∃ z, z = v q := ⟨_, rfl⟩
                rw [← hz] at hcq hvq
                by_cases hyz : y < z
                · have HR : Hid (fE E n 0 = 11) := by
                    have := unhide HK1 ⟨k, hlk, hh, by rw [hvq]; exact hyz⟩
                    rw [unhide HY (by rw [this]; omega), this]; rfl
                  clear hP hz hvq
                  go_wp2
                  go_ret
                  exact ⟨ret_int (unhide HR).symm, rfl⟩
                · have HKN : Hid (∀ j, j < k + 1 → ¬ (hs s j = true ∧ y < v (s - 2 ^ j))) := fun j hj hc => by
                    by_cases e : j = k
                    · subst e; rw [hvq] at hc; exact hyz hc.2
                    · exact unhide HKK j (by omega) hc
                  clear hP hz hvq
                  go_wp2
                  exact ⟨⟨k + 1, by omega, by go_num, unhide HKN⟩, by simp [intOf]; omega⟩
            · obtain rfl : it = k := by omega
              have HR : Hid (fE E n 0 = fE E (n - (s + 1)) (s + 1)) := unhide HN (unhide HK2 (fun ⟨j, j1, j2⟩ => unhide HKK j j1 j2))
              go_wp2
              exact ⟨⟨s + 1, by omega, by go_num, unhide HR⟩, by simp [intOf]; omega⟩
        · have e0 : ((s : Int) == 0) = false := by simp; omega
          clear hy
          clear y3'
          go_wp2
          go_loop [30, 7] (fun i _ => ∃ k : Nat, k ≤ it ∧ i = .int .i64 k ∧ ∀ j, j < k → ¬ (hs s j = true ∧ y < v (s - 2 ^ j))) (fun i _ => it - (intOf i).toNat)
          case atStart => exact ⟨0, Nat.zero_le _, rfl, fun j hj => by omega⟩
          case round =>
            obtain ⟨k, hk, rfl, hkk⟩ := hrel
            have HKK := hide hkk
            clear hkk
            by_cases hlk : k < it
            · obtain ⟨P, hP⟩ : ∃ P : Nat, P = 2 ^ k := ⟨_, rfl⟩
              have hwp := wrap_pow hP (by omega)
              have han := andNot_one s (by omega) k (by omega)
              rw [← hP] at han
              have hle : hs s k = true → P ≤ s := fun h => by rw [hP]; exact hs_le h
              cases hh : hs s k
              · rw [hh, if_neg (by simp)] at han
                have HKN : Hid (∀ j, j < k + 1 → ¬ (hs s j = true ∧ y < v (s - 2 ^ j))) := fun j hj hc => by
                  by_cases e : j = k
                  · subst e; rw [hh] at hc; cases hc.1
                  · exact unhide HKK j (by omega) hc
                clear hP
                go_wp2
                exact ⟨⟨k + 1, by omega, by go_num, unhide HKN⟩, by simp [intOf]; omega⟩
              · rw [hh, if_pos rfl] at han
                have hPs := hle hh
                obtain ⟨q, hq⟩ : ∃ q, q = s - P := ⟨_, rfl⟩
                rw [← hq] at han
                have hqn : q < n := by omega
                have hcq := unhide HC q hqn
                have hvq : v (s - 2 ^ k) = v q := by rw [hq, hP]
                clear hq
                obtain ⟨z, hz⟩ : ∃ z, z = v q := ⟨_, rfl⟩
                rw [← hz] at hcq hvq
                by_cases hyz : y < z
                · have HR : Hid (fE E n 0 = 11) := by
                    have := unhide HK1 ⟨k, hlk, hh, by rw [hvq]; exact hyz⟩
                    rw [unhide HY (by rw [this]; omega), this]; rfl
                  clear hP hz hvq
                  go_wp2
                  go_ret
                  exact ⟨ret_int (unhide HR).symm, rfl⟩
                · have HKN : Hid (∀ j, j < k + 1 → ¬ (hs s j = true ∧ y < v (s - 2 ^ j))) := fun j hj hc => by
                    by_cases e : j = k
                    · subst e; rw [hvq] at hc; exact hyz hc.2
                    · exact unhide HKK j (by omega) hc
                  clear hP hz hvq
                  go_wp2
                  exact ⟨⟨k + 1, by omega, by go_num, unhide HKN⟩, by simp [intOf]; omega⟩
            · obtain rfl : it = k := by omega
              have HR : Hid (fE E n 0 = fE E (n - (s + 1)) (s + 1)) := unhide HN (unhide HK2 (fun ⟨j, j1, j2⟩ => unhide HKK j j1 j2))
              go_wp2
              exact ⟨⟨s + 1, by omega, by go_num, unhide HR⟩, by simp [intOf]; omega⟩
    · obtain rfl : n = s := by omega
      have HR : Hid (fE E n 0 = 0) := by rw [hfe, fE_end]; rfl
      clear hfe
      go_wp2
      go_ret
      exact ⟨ret_int (unhide HR).symm, rfl⟩
end Go.Proofs.Ytaaikaeknealkaa
