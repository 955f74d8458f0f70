import Derived.Test.YtbcchbhchfdbiaaWBR
namespace Go.Proofs.Ytbcchbhchfdbiaa
open Go.RowKit Go.Shelf
/-- No other choices of one's own give more than the best. -/
theorem bett_max {T : PT} {c c' c2 : Nat → Nat} {f2 h : Nat → Nat → Int} {who : Nat} (hb : Bett T c who c' h) (h2 : Sett T c2 f2) (hc : ∀ a, a < T.N → T.kids a ≠ [] → T.pl a ≠ who → c2 a = c a) : ∀ a, a < T.N → f2 a who ≤ h a who := by
  refine from_end fun a ha ih => ?_
  by_cases e : T.kids a = []
  · rw [(h2 a ha).1 e, (hb.1 a ha).1 e]; exact Int.le_refl _
  · obtain ⟨k, k1, k2⟩ := (h2 a ha).2 e
    obtain ⟨k', k3, k4⟩ := (hb.1 a ha).2 e
    have hm := T.later a ha k (List.mem_of_getElem? k1)
    have hk := ih k hm.1 hm.2
    rw [k2, k4]
    by_cases p : T.pl a = who
    · obtain ⟨m, m1, m2, -⟩ := (hb.2 a ha e).1 p
      rw [k3] at m1
      cases m1
      have := m2 k (List.mem_of_getElem? k1)
      omega
    · rw [(hb.2 a ha e).2 p, ← hc a ha e p, k1] at k3
      cases k3
      exact hk
/-- What comes of choices hangs on those that are met alone. -/
theorem sett_on {T : PT} {c1 c2 : Nat → Nat} {f1 f2 : Nat → Nat → Int} {R : Nat → Prop} (h1 : Sett T c1 f1) (h2 : Sett T c2 f2) (hR : ∀ a, R a → a < T.N → ∀ k ∈ T.kids a, R k) (hc : ∀ a, R a → a < T.N → T.kids a ≠ [] → c1 a = c2 a) : ∀ a, a < T.N → R a → f1 a = f2 a := by
  refine from_end fun a ha ih hr => ?_
  by_cases e : T.kids a = []
  · rw [(h1 a ha).1 e, (h2 a ha).1 e]
  · obtain ⟨k, k1, k2⟩ := (h1 a ha).2 e
    obtain ⟨k', k3, k4⟩ := (h2 a ha).2 e
    rw [hc a hr ha e, k3] at k1
    cases k1
    have hm := T.later a ha _ (List.mem_of_getElem? k3)
    rw [k2, k4, ih _ hm.1 hm.2 (hR a hr ha _ (List.mem_of_getElem? k3))]
section
variable {P n : Nat} {L : List Nd}
theorem way_ok {q q' : List Int} {who : Nat} (hc : ChOk L n q) (h : WOk L who q q') : ChOk L n q' := by
  intro j hj
  rcases h.2 j with e | ⟨_, e1, e2⟩
  · rw [e]; exact hc j hj
  · exact ⟨e1, .inr e2⟩
/-- A way gives no more than the best. -/
theorem way_le (hT : GT P n L (kd L)) {q q' : List Int} {who : Nat} (h : WOk L who q q') {ch' cw : Nat → Int} {ge' gw : Nat → Sl} (hD' : Done L n 0 (CHC q') (kd L) ch' ge') (hW : Done L n 0 (CHW L q who) (kd L) cw gw) {j : Nat} (hj : j < n) : nth (ge' j).ints who ≤ nth (gw j).ints who := by
  refine bett_max (done_w hT hW) (done_c hT hD') (fun a ha hne hp => ?_) j hj
  have ha' : a < n := ha
  have hk : 0 < (ndAt L a).k.ln := by have : ¬ (ndAt L a).k.ln = 0 := fun q => hne (pt_kids_nil.2 q); omega
  have hmv := hT.mover a ha' hk
  have hp' : (ndAt L a).pl.toNat ≠ who := hp
  rcases h.2 a with e | ⟨e, _⟩
  · show (nth q' a).toNat = (nth q a).toNat
    rw [e]
  · exact absurd e.1 (by omega)
/-- One of the ways is as good as the best. -/
theorem way_best (hT : GT P n L (kd L)) {q : List Int} {who at' : Nat} {U : List Nat} (hU : Und n L at' U) (hq : q.length = n) {cw : Nat → Int} {gw : Nat → Sl} (hW : Done L n 0 (CHW L q who) (kd L) cw gw) :
    ∃ q' ∈ wyL L who q U, ∀ ch' ge', Done L n 0 (CHC q') (kd L) ch' ge' → nth (ge' at').ints who = nth (gw at').ints who := by
  have hb := done_w hT hW
  obtain ⟨q', m1, m2, m3⟩ := wy_ex (L := L) (who := who) (fun x => if x < n then (cw x).toNat else 0) (fun x hx => by
    by_cases e : x < n
    · rw [if_pos e]
      obtain ⟨v, v1, v2, -⟩ := (hW x (Nat.zero_le _) e).2 hx.2
      rw [v1]; omega
    · rw [if_neg e]; exact hx.2) U [q] q (by simp) (fun x hx => by rw [hq]; exact (hU.rng x hx).2)
  refine ⟨q', m1, fun ch' ge' hD' => ?_⟩
  have hat := hU.rng at' hU.hd
  have := sett_on (R := fun a => a ∈ U) (done_c hT hD') hb.1 (fun a hr ha k hk => by
    obtain ⟨t, t1, rfl⟩ := pt_kids_mem.1 hk
    exact hU.cl a hr t t1) (fun a hr ha hne => by
    have ha' : a < n := ha
    have hk : 0 < (ndAt L a).k.ln := by have : ¬ (ndAt L a).k.ln = 0 := fun q => hne (pt_kids_nil.2 q); omega
    have hmv := hT.mover a ha' hk
    by_cases p : (ndAt L a).pl.toNat = who
    · have hm : WM L who a := ⟨by omega, hk⟩
      have := (m3 a).1 hr hm
      rw [if_pos ha'] at this
      show (nth q' a).toNat = (cw a).toNat
      rw [this]; omega
    · have h1 := (m3 a).2 (fun z => p (by have := z.2.1; omega))
      have h2 : (cw a).toNat = (nth q a).toNat := (hb.2 a ha hne).2 p
      show (nth q' a).toNat = (cw a).toNat
      rw [h1, h2]) at' hat.2 hU.hd
  exact congrFun this who
end
/-- What the document's Perfect answers. -/
def PerfR (w : World) (P n : Nat) (ge : Nat → Sl) (gw : Nat → Nat → Sl) (e : Ending) (w' : World) : Prop :=
  Below w.heap.size w w' ∧ ((∃ j who : Nat, j < n ∧ who < P ∧ Bad2 ge gw j who ∧ (∀ i x : Nat, i < j → x < P → ¬ Bad2 ge gw i x) ∧ e = .returned (.tuple #[.bool false, .int .i64 (j : Int)])) ∨
    ((∀ i x : Nat, i < n → x < P → ¬ Bad2 ge gw i x) ∧ e = .returned (.tuple #[.bool true, .int .i64 0])))
end Go.Proofs.Ytbcchbhchfdbiaa
