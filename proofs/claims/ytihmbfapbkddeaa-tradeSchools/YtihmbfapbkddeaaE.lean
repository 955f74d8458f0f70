import Derived.Test.YtihmbfapbkddeaaD
namespace Go.Proofs.Ytihmbfapbkddeaa
open Go.RowKit
theorem Cel.later {W W' : World} {a : Option Addr} {n c : Nat} {f : Nat → Int} (h : Cel W a n c f) (hb : Below W.heap.size W W') : Cel W' a n c f := by
  obtain ⟨h1, h2, h⟩ := h
  refine ⟨h1, h2, ?_⟩
  rcases h with h | ⟨b, off, rfl, hlt, hcell⟩
  · exact .inl h
  · exact .inr ⟨b, off, rfl, Nat.lt_of_lt_of_le hlt hb.size, fun j hj => (hb.cell (p := ⟨b, off + j, none⟩) hlt).trans (hcell j hj)⟩
theorem Gon.later {W W' : World} {a : Option Addr} {n c : Nat} {f : Nat → Bool} (h : Gon W a n c f) (hb : Below W.heap.size W W') : Gon W' a n c f := by
  obtain ⟨h1, h2, h⟩ := h
  refine ⟨h1, h2, ?_⟩
  rcases h with h | ⟨b, off, rfl, hlt, hcell⟩
  · exact .inl h
  · exact .inr ⟨b, off, rfl, Nat.lt_of_lt_of_le hlt hb.size, fun j hj => (hb.cell (p := ⟨b, off + j, none⟩) hlt).trans (hcell j hj)⟩
theorem first1_any (x : Nat) (p : Nat) (ga : Option Addr) (gn gc : Nat) (f : Nat → Int) (w : World) (hp : w.cell? ⟨p, 0, none⟩ = some (.slice ga gn gc)) (hg : Cel w ga gn gc f) (hx : x < gn) :
    Calls Try.prog 52 #[.int .i64 x, .pointer (some ⟨p, 0, none⟩)] w fun e w' => e = .returned (.bool (f x == -2)) ∧ w' = w := by
  have hc2 := hg.1
  have hm2 := hg.2.1
  unfold maxLen at hm2
  obtain ⟨b2, off2, rfl, hb2, hcell2⟩ := hg.at (by omega)
  have hy := hcell2 x hx
  clear hcell2
  go_enter Try.func52, Try.ntmps52
  go_wp2
  go_ret
  exact ⟨rfl, rfl⟩
def IdxPost (rl : List Int) (f : Nat → Int) (w : World) (e : Ending) (w' : World) : Prop := ∃ k : Nat, e = .returned (.int .i64 k) ∧ k < rl.length ∧ rl[k]?.getD 0 = fst (fun s => f s = -2) rl ∧ w' = w
set_option maxHeartbeats 1000000 in
theorem indexFunc_any (ra : Option Addr) (rn rc : Nat) (rl : List Int) (p : Nat) (ga : Option Addr) (gn gc : Nat) (f : Nat → Int) (w : World) (h : Ints w ra rn rc rl) (hp : w.cell? ⟨p, 0, none⟩ = some (.slice ga gn gc)) (hg : Cel w ga gn gc f) (hr : ∀ x ∈ rl, 0 ≤ x ∧ x < gn) (hex : ¬ fst (fun s => f s = -2) rl = -1) :
    Calls Try.prog 51 #[.slice ra rn rc, .func (.func 52) #[] #[.pointer (some ⟨p, 0, none⟩)]] w fun e w' => IdxPost rl f w e w' := by
  have HN := hide h.1
  have hc := h.2.1
  have hm := h.2.2.1
  unfold maxLen at hm
  have HR := hide hr
  have HX := hide hex
  clear hr hex
  go_enter Try.func51, Try.ntmps51
  go_wp2
  go_loop [8, 5] (fun i _ => ∃ k : Nat, k ≤ rn ∧ i = .int .i64 k ∧ fst (fun s => f s = -2) rl = fst (fun s => f s = -2) (rl.drop k)) (fun i _ => rn - (intOf i).toNat)
  case atStart => exact ⟨0, Nat.zero_le _, rfl, rfl⟩
  case round =>
    obtain ⟨k, hk, rfl, hi⟩ := hrel
    have HI := hide hi
    clear hi
    by_cases hlt : k < rn
    · have hkl : k < rl.length := by have := unhide HN; omega
      have HKL := hide hkl
      obtain ⟨b, off, rfl, hb, hcell⟩ := h.cellAt (by omega)
      have hx := hcell k hlt
      have hx2 := unhide HR _ (getD_mem hkl)
      have HY := hide (fst_yes (p := fun s => f s = -2) hkl)
      have HO := hide (fst_no (p := fun s => f s = -2) hkl)
      clear hcell hkl
      obtain ⟨t, ht⟩ : ∃ t : Nat, rl[k]?.getD 0 = t := ⟨(rl[k]?.getD 0).toNat, by omega⟩
      have HT := hide ht
      rw [ht] at hx hx2 HY HO
      simp only [Int.toNat_natCast] at HY HO
      clear ht
      have CC := first1_any t p ga gn gc f w hp hg (by omega)
      by_cases hf : f t = -2
      · have HY2 := hide (unhide HY hf)
        rw [hf] at CC
        have C2 := hide CC
        clear CC
        go_wp2_with fail
        refine (unhide C2).mono ?_
        rintro e w2 ⟨rfl, hw2⟩
        subst w2
        go_wp2
        go_ret
        exact ⟨k, rfl, unhide HKL, by rw [unhide HT, unhide HI, unhide HY2], rfl⟩
      · have HO2 := hide (unhide HO hf)
        rw [show (f t == -2) = false by simpa using hf] at CC
        have C2 := hide CC
        clear CC
        go_wp2_with fail
        refine (unhide C2).mono ?_
        rintro e w2 ⟨rfl, hw2⟩
        subst w2
        go_wp2
        refine ⟨⟨k+1, by omega, by go_num, by rw [unhide HI, unhide HO2]⟩, by simp [intOf]; omega⟩
    · exact absurd (by rw [unhide HI, fst_end (by have := unhide HN; omega)]) (unhide HX)
set_option maxHeartbeats 1000000 in
theorem first_any (ra : Option Addr) (rn rc : Nat) (rl : List Int) (ga : Option Addr) (gn gc : Nat) (f : Nat → Int) (w : World) (h : Ints w ra rn rc rl) (hg : Cel w ga gn gc f) (hr : ∀ x ∈ rl, 0 ≤ x ∧ x < gn) (hex : ¬ fst (fun s => f s = -2) rl = -1) :
    Calls Try.prog 48 #[.slice ra rn rc, .slice ga gn gc] w fun e w' => e = .returned (.int .i64 (fst (fun s => f s = -2) rl)) ∧ Below w.heap.size w w' := by
  have hmf : ∀ (fn : Fn) (first cap : Array Value) (w : World), (Instr.makeFunc fn first cap).run Try.prog w = .ok (.func fn first cap) w := fun _ _ _ _ => rfl
  obtain ⟨wA, hwA⟩ : ∃ y, y = w.alloc (.cells #[.slice ga gn gc] 23) := ⟨_, rfl⟩
  have hbA : Below w.heap.size w wA := by rw [hwA]; go_grown
  have a0 : wA.cell? ⟨w.heap.size, 0, none⟩ = some (.slice ga gn gc) := by rw [hwA]; simp
  have HW := hide hwA
  clear hwA
  have HN := hide h.1
  have hc := h.2.1
  have hm := h.2.2.1
  unfold maxLen at hm
  have CC := hide (indexFunc_any ra rn rc rl w.heap.size ga gn gc f wA (h.later hbA) a0 (hg.later hbA) hr hex)
  have h1 := h.later hbA
  clear hr hex
  go_enter Try.func48, Try.ntmps48
  go_wp2_with fail
  rw [← unhide HW]
  refine (unhide CC).mono ?_
  rintro e w2 ⟨k, rfl, hk, hv, hw2⟩
  subst w2
  have hkn : k < rn := by have := unhide HN; omega
  obtain ⟨b, off, rfl, hb, hcell⟩ := h1.cellAt (by omega)
  have hx := hcell k hkn
  rw [hv] at hx
  clear hcell hk hv
  obtain ⟨z, hz⟩ : ∃ z, fst (fun s => f s = -2) rl = z := ⟨_, rfl⟩
  rw [hz] at hx
  have HZ := hide hz
  clear hz
  go_wp2
  go_ret
  exact ⟨ret_int (unhide HZ).symm, hbA⟩
set_option maxHeartbeats 1000000 in
theorem schoolFirst_any (wa : Option Addr) (wn wc : Nat) (WL : List Sl) (la : Option Addr) (ln lc : Nat) (f : Nat → Int) (fa : Option Addr) (fn fc : Nat) (FL : List Sl) (ga : Option Addr) (gn gc : Nat) (gf : Nat → Bool) (i : Nat) (w : World)
    (hW : Lsts w wa wn wc WL) (hL : Cel w la ln lc f) (hF : Lsts w fa fn fc FL) (hG : Gon w ga gn gc gf) (hi : i < wn) (hr : ∀ x ∈ (slAt WL i).ints, 0 ≤ x ∧ x < ln) (hr2 : ∀ j, j < fn → ∀ x ∈ (slAt FL j).ints, 0 ≤ x ∧ x < gn)
    (hs : 0 ≤ fst (fun s => 0 < f s) (slAt WL i).ints ∧ fst (fun s => 0 < f s) (slAt WL i).ints < fn) :
    Calls Try.prog 40 #[.slice wa wn wc, .slice la ln lc, .slice fa fn fc, .slice ga gn gc, .int .i64 i] w fun e w' => e = .returned (.int .i64 (fst (fun s => gf s = false) (slAt FL (fst (fun s => 0 < f s) (slAt WL i).ints).toNat).ints)) ∧ w' = w := by
  have h1 := hW.2.1
  have h2 := hW.2.2.1
  have h3 := hF.2.1
  have h4 := hF.2.2.1
  unfold maxLen at h2 h4
  obtain ⟨b, off, rfl, hb, hcell⟩ := hW.cellAt (by omega)
  have hx := hcell i hi
  have C1 := school_any (slAt WL i).la (slAt WL i).ln (slAt WL i).lc (slAt WL i).ints la ln lc f w (hW.mem hi) hL hr
  obtain ⟨t, ht⟩ : ∃ t : Nat, fst (fun s => 0 < f s) (slAt WL i).ints = t := ⟨(fst (fun s => 0 < f s) (slAt WL i).ints).toNat, by omega⟩
  rw [ht] at C1 hs ⊢
  rw [Int.toNat_natCast]
  have htn : t < fn := by omega
  obtain ⟨b2, off2, rfl, hb2, hcell2⟩ := hF.cellAt (by omega)
  have hy := hcell2 t htn
  have C2 := bestLeft_any (slAt FL t).la (slAt FL t).ln (slAt FL t).lc (slAt FL t).ints ga gn gc gf w (hF.mem htn) hG (hr2 t htn)
  generalize fst (fun s => gf s = false) (slAt FL t).ints = z at *
  have D1 := hide C1
  have D2 := hide C2
  clear C1 C2 hcell hcell2 ht hr hr2
  generalize slAt WL i = s1 at *
  generalize slAt FL t = s2 at *
  go_enter Try.func40, Try.ntmps40
  go_wp2_with (first | (go_at_call 39; refine (unhide D1).mono ?_; rintro e w2 ⟨rfl, hw2⟩; subst w2) | (go_at_call 26; refine (unhide D2).mono ?_; rintro e w2 ⟨rfl, hw2⟩; subst w2))
  go_ret
  exact ⟨rfl, rfl⟩
end Go.Proofs.Ytihmbfapbkddeaa
