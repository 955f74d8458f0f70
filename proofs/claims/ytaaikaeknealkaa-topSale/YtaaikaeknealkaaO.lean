import Derived.Test.YtaaikaeknealkaaN
namespace Go.Proofs.Ytaaikaeknealkaa
open Go.RowKit
theorem bef_step : ∀ (l m : List Int) (k : Nat), l.length = m.length → k < l.length → bef (l.drop k) (m.drop k) = if nth l k = nth m k then bef (l.drop (k + 1)) (m.drop (k + 1)) else decide (nth l k < nth m k) := by
  intro l m k hl hk
  rw [List.drop_eq_getElem_cons hk, List.drop_eq_getElem_cons (show k < m.length by omega), bef]
  unfold nth
  rw [List.getElem?_eq_getElem hk, List.getElem?_eq_getElem (show k < m.length by omega)]
  rfl
theorem bef_end {l m : List Int} : bef (l.drop l.length) m = false := by
  rw [List.drop_length]
  cases m <;> rfl
set_option maxHeartbeats 1000000 in
theorem before_any (a : Option Addr) (n c : Nat) (l : List Int) (b : Option Addr) (d : Nat) (m : List Int) (w : World) (h : Ints w a n c l) (g : Ints w b n d m) :
    Calls Try.prog 22 #[.slice a n c, .slice b n d] w fun e w' => e = .returned (.bool (bef l m)) ∧ Below w.heap.size w w' := by
  have h1 := h.2.1
  have h2 := h.2.2.1
  have h3 := g.2.1
  have h4 := g.2.2.1
  unfold maxLen at h2 h4
  have HL : Hid (∀ k, k < n → bef (l.drop k) (m.drop k) = if nth l k = nth m k then bef (l.drop (k + 1)) (m.drop (k + 1)) else decide (nth l k < nth m k)) := fun k hk => bef_step l m k (by have := h.1; have := g.1; omega) (by have := h.1; omega)
  have HE : Hid (bef (l.drop n) (m.drop n) = false) := by
    show _ = _
    rw [h.1]
    exact bef_end
  have HI := hide h
  have HG := hide g
  clear h g
  go_enter Try.func22, Try.ntmps22
  go_wp2
  go_loopw [5] (fun i wr => Below w.heap.size w wr ∧ ∃ k : Nat, k ≤ n ∧ i = .int .i64 k ∧ bef l m = bef (l.drop k) (m.drop k)) (fun i _ => n - (intOf i).toNat)
  case atStart => exact ⟨Below.refl _ _, 0, Nat.zero_le _, rfl, rfl⟩
  case round =>
    obtain ⟨hbr, k, hk, rfl, hbf⟩ := hrel
    by_cases hlt : k < n
    · obtain ⟨b1, o1, e1, hb1, hc1⟩ := ((unhide HI).later hbr).nth (by omega)
      obtain ⟨b2, o2, e2, hb2, hc2⟩ := ((unhide HG).later hbr).nth (by omega)
      subst e1 e2
      have q1 := hc1 k hlt
      have q2 := hc2 k hlt
      have hst := unhide HL k hlt
      clear hc1 hc2
      generalize nth l k = x at *
      generalize nth m k = y at *
      by_cases hxy : x = y
      · subst hxy
        rw [if_pos rfl] at hst
        have HR := hide (hbf.trans hst)
        clear hst hbf
        go_wp2_with fail
        go_quiet (fail)
        go_wp2_with fail
        go_roundw
        case rel => exact ⟨hbr.trans ((below_drewN _ _ _).mono hbr.size), k + 1, by omega, by go_num, unhide HR⟩
        case measure => simp [intOf]; omega
      · rw [if_neg hxy] at hst
        have HR := hide (hbf.trans hst)
        have hne : (x == y) = false := by simpa using hxy
        clear hst hbf hxy
        go_wp2_with fail
        go_quiet (fail)
        have q1' : (wr.drewN nq).cell? ⟨b1, o1 + k, none⟩ = some (.int .i64 x) := q1
        have q2' : (wr.drewN nq).cell? ⟨b2, o2 + k, none⟩ = some (.int .i64 y) := q2
        have hbq : Below w.heap.size w (wr.drewN nq) := hbr.trans ((below_drewN _ _ _).mono hbr.size)
        clear q1 q2
        generalize wr.drewN nq = W2 at *
        go_wp2_with fail
        go_quiet (fail)
        go_wp2
        go_ret
        exact ⟨ret_bool (unhide HR).symm, hbq.trans ((below_drewN _ _ _).mono hbq.size)⟩
    · obtain rfl : n = k := by omega
      have HR : Hid (bef l m = false) := hbf.trans (unhide HE)
      clear hbf
      go_wp2
      go_ret
      exact ⟨ret_bool (unhide HR).symm, hbr⟩
end Go.Proofs.Ytaaikaeknealkaa
