import Derived.Test.YtihmbfapbkddeaaTG
import Derived.Test.YtihmbfapbkddeaaMB
namespace Go.Proofs.Ytihmbfapbkddeaa
open Go.RowKit
theorem likes_zero {l : List Int} {o : Int} (hr : ∀ x ∈ l, 0 ≤ x ∧ x < o) (hn : l.Nodup) : ∀ d k, l.length - k = d → likesFrom l o k = 0 := by
  intro d
  induction d with
  | zero => intro k h; unfold likesFrom; rw [h]; rfl
  | succ d ih =>
    intro k h
    have hk : k < l.length := by omega
    have h1 := hr _ (getD_mem hk)
    rw [likesFrom_on hk (by omega) (fun h2 => ?_), ih (k + 1) (by omega)]
    rw [idx_take l k hk, idx_at hn hk] at h2
    omega
theorem ord_zero {l : List Int} {n : Nat} (hl : l.length = n) (hr : ∀ x ∈ l, 0 ≤ x ∧ x < n) (hn : l.Nodup) : ordE l n = 0 := by
  unfold ordE
  rw [if_pos (by omega)]
  exact likes_zero hr hn _ 0 rfl
theorem ord_up {l : List Int} {n : Nat} (h : l.Perm (upL n)) : ordE l n = 0 := by
  refine ord_zero (by rw [h.length_eq]; simp [upL]) (fun x hx => ?_) (h.nodup_iff.2 ?_)
  · have := h.mem_iff.1 hx
    unfold upL at this
    obtain ⟨i, hi, rfl⟩ := List.mem_map.1 this
    have := List.mem_range.1 hi
    omega
  · unfold upL
    show List.Pairwise _ _
    rw [List.pairwise_map]
    exact (List.nodup_range (n := n)).imp (fun h e => h (by omega))
set_option maxHeartbeats 1000000 in
theorem same_any (a a' : Option Addr) (n c n' c' : Nat) (l m : List Int) (w : World) (h : Ints w a n c l) (h' : Ints w a' n' c' m) :
    Calls Try.prog 22 #[.slice a n c, .slice a' n' c'] w fun e w' => e = .returned (.bool (decide (l = m))) ∧ Below w.heap.size w w' := by
  obtain ⟨hn, hc, hm, h⟩ := h
  obtain ⟨hn', hc', hm', h'⟩ := h'
  unfold maxLen at hm hm'
  have HN : Hid (n = l.length) := hn
  have HN' : Hid (n' = m.length) := hn'
  clear hn hn'
  by_cases hnn : n = n'
  · subst hnn
    have HL : Hid (decide (l = m) = eqFrom l m 0) := (eqFrom_eq (HN.out.symm.trans HN'.out)).symm
    rcases h with h0 | ⟨b, off, rfl, hb, hcell⟩
    · subst h0
      go_enter Try.func22, Try.ntmps22
      go_wp2
      refine wp_loop_rounds 1 ?_
      rw [rounds_succ]
      go_wp2
      go_ret
      exact ⟨ret_bool (by rw [HL.out, eqFrom_end (by have := HN.out; omega)]), Below.refl _ _⟩
    · rcases h' with h0 | ⟨b', off', rfl, hb', hcell'⟩
      · subst h0
        go_enter Try.func22, Try.ntmps22
        go_wp2
        refine wp_loop_rounds 1 ?_
        rw [rounds_succ]
        go_wp2
        go_ret
        exact ⟨ret_bool (by rw [HL.out, eqFrom_end (by have := HN.out; omega)]), Below.refl _ _⟩
      · go_enter Try.func22, Try.ntmps22
        go_wp2
        go_loopw [5] (fun i wr => Below w.heap.size w wr ∧ ∃ k : Nat, k ≤ n ∧ i = .int .i64 k ∧ eqFrom l m 0 = eqFrom l m k) (fun i _ => n - (intOf i).toNat)
        case atStart => exact ⟨Below.refl _ _, 0, Nat.zero_le _, rfl, rfl⟩
        case round =>
          obtain ⟨hbr, k, hk, rfl, hn⟩ := hrel
          have HI : Hid (eqFrom l m 0 = eqFrom l m k) := hn
          clear hn
          by_cases hlt : k < n
          · have hck := (hbr.cell (p := ⟨b, off + k, none⟩) hb).trans (hcell k hlt)
            have hck' := (hbr.cell (p := ⟨b', off' + k, none⟩) hb').trans (hcell' k hlt)
            clear hcell hcell'
            by_cases q : l[k]?.getD 0 = m[k]?.getD 0
            · have HQ : Hid (l[k]?.getD 0 = m[k]?.getD 0) := q
              rw [← q] at hck'
              clear q
              go_wp2
              go_quiet (fail)
              go_wp2
              go_roundw
              case rel => exact ⟨hbr.trans (below_drewN _ _ _), k+1, by omega, by go_num, by rw [HI.out]; exact eqFrom_yes (by have := HN.out; omega) HQ.out⟩
              case measure => simp [intOf]; omega
            · go_wp2
              go_quiet (fail)
              go_wp2
              go_ret
              refine ⟨ret_bool ?_, hbr.trans (below_drewN _ _ _)⟩
              rw [HL.out, HI.out]; exact (eqFrom_no (by have := HN.out; omega) q).symm
          · go_wp2
            go_ret
            exact ⟨ret_bool (by rw [HL.out, HI.out, eqFrom_end (by have := HN.out; omega)]), hbr⟩
  · have HL : Hid (decide (l = m) = false) := decide_eq_false (fun e => hnn (by rw [HN.out, HN'.out, e]))
    have hnn' : ¬ (n : Int) = (n' : Int) := by omega
    go_enter Try.func22, Try.ntmps22
    go_wp2
    go_ret
    exact ⟨ret_bool HL.out.symm, Below.refl _ _⟩
end Go.Proofs.Ytihmbfapbkddeaa
