import Derived.Test.YtbcchbhchfdbiaaWT
namespace Go.Proofs.Ytbcchbhchfdbiaa
open Go.RowKit Go.Shelf
/-- The number of the first kid of node j, as TreeOf numbers them. -/
def sK (L : List Nd) : Nat → Nat
  | 0 => 1
  | j + 1 => sK L j + (ndAt L j).k.ln
theorem ndAt_left {L : List Nd} {d : Nd} {j : Nat} (h : j < L.length) : ndAt (L ++ [d]) j = ndAt L j := by
  unfold ndAt; rw [List.getElem?_append_left h]
theorem ndAt_last {L : List Nd} {d : Nd} : ndAt (L ++ [d]) L.length = d := by
  unfold ndAt; simp
theorem sK_left {L : List Nd} {d : Nd} : ∀ j, j ≤ L.length → sK (L ++ [d]) j = sK L j
  | 0, _ => rfl
  | j + 1, h => by rw [sK, sK, sK_left j (by omega), ndAt_left (by omega)]
/-- A node as TreeOf makes it, its first kid being b. -/
structure NOk (P b : Nat) (d : Nd) : Prop where
  kid : ∀ t, t < d.k.ln → nth d.k.ints t = ((b + t : Nat) : Int)
  k3 : d.k.ln ≤ 3
  klen : d.k.ln = d.k.ints.length
  plen : d.p.ln = d.p.ints.length
  ender : d.k.ln = 0 → d.pl = 0 ∧ d.p.ln = P ∧ ∀ x ∈ d.p.ints, -4 ≤ x ∧ x ≤ 4
  mover : 0 < d.k.ln → 0 ≤ d.pl ∧ d.pl < P ∧ d.p.ln = 0
structure TN (P : Nat) (L : List Nd) (i : Nat) : Prop where
  len : L.length = i
  pos : ∀ j, j < i → j < sK L j
  ok : ∀ j, j < i → NOk P (sK L j) (ndAt L j)
theorem TN.nil (P : Nat) : TN P [] 0 := ⟨rfl, fun j h => by omega, fun j h => by omega⟩
theorem TN.next {P : Nat} {L : List Nd} {i : Nat} {d : Nd} (h : TN P L i) (hi : i < sK L i) (hd : NOk P (sK L i) d) : TN P (L ++ [d]) (i + 1) ∧ sK (L ++ [d]) (i + 1) = sK L i + d.k.ln := by
  have hl := h.len
  refine ⟨⟨by simp; omega, fun j hj => ?_, fun j hj => ?_⟩, ?_⟩
  · rw [sK_left j (by omega)]
    by_cases e : j = i
    · subst e; exact hi
    · exact h.pos j (by omega)
  · rw [sK_left j (by omega)]
    by_cases e : j = i
    · subst e; rw [← hl, ndAt_last, hl]; exact hd
    · rw [ndAt_left (by omega)]; exact h.ok j (by omega)
  · rw [sK, sK_left i (by omega), ← hl, ndAt_last]
/-- A tree as TreeOf makes it: no pay beyond 4. -/
theorem TN.bt {P n : Nat} {L : List Nd} (h : TN P L n) (P1 : 1 ≤ P) (P5 : P ≤ 5) (n1 : 1 ≤ n) (n40 : n ≤ 40) (hs : sK L n = n) : BT P n L (sK L) := by
  refine ⟨h.len, P1, P5, n1, n40, rfl, hs, fun i _ => rfl, h.pos, fun i hi => (h.ok i hi).kid, fun i hi => by have := (h.ok i hi).k3; omega, fun i hi h0 => ?_, fun i hi => (h.ok i hi).mover⟩
  obtain ⟨e1, e2, e3⟩ := (h.ok i hi).ender h0
  refine ⟨e1, e2, fun j hj => ?_⟩
  have hm : nth (ndAt L i).p.ints j ∈ (ndAt L i).p.ints := by
    have := (h.ok i hi).plen
    unfold nth
    rw [List.getElem?_eq_getElem (show j < (ndAt L i).p.ints.length by omega)]
    exact List.getElem_mem _
  have := e3 _ hm
  omega
theorem occ_run {l : List Int} {b v : Nat} : ∀ m, (∀ t, t < m → nth l t = ((b + t : Nat) : Int)) → occ l v m = if b ≤ v ∧ v < b + m then 1 else 0
  | 0, _ => by rw [if_neg (by omega)]; rfl
  | m + 1, h => by
    rw [occ, occ_run m (fun t ht => h t (by omega)), h m (by omega)]
    by_cases e : b + m = v
    · rw [if_neg (by omega), if_pos (by omega), if_pos (by omega)]
    · rw [if_neg (show ¬ ((b + m : Nat) : Int) = (v : Int) by omega)]
      by_cases e2 : b ≤ v ∧ v < b + m
      · rw [if_pos e2, if_pos (by omega)]
      · rw [if_neg e2, if_neg (by omega)]
theorem par_bt {P n : Nat} {L : List Nd} {s : Nat → Nat} (h : BT P n L s) (v : Nat) : ∀ i, i ≤ n → par L v i = if 1 ≤ v ∧ v < s i then 1 else 0
  | 0, _ => by rw [h.s0, if_neg (by omega)]; rfl
  | i + 1, hi => by
    rw [par, par_bt h v i (by omega), occ_run (b := s i) _ (h.kid i (by omega)), h.sS i (by omega)]
    have : s i ≤ s (i + 1) := h.mono 1 i hi
    have h1 : 1 ≤ s i := by have := h.mono i 0 (by omega); rw [h.s0, Nat.zero_add] at this; exact this
    by_cases e1 : 1 ≤ v ∧ v < s i
    · rw [if_pos e1, if_neg (by omega), if_pos (by omega)]
    · rw [if_neg e1]
      by_cases e2 : s i ≤ v ∧ v < s i + (ndAt L i).k.ln
      · rw [if_pos e2, if_pos (by omega)]
      · rw [if_neg e2, if_neg (by omega)]
theorem neE_zero {P n : Int} {L : List Nd} : ∀ (d i : Nat), (∀ j, i ≤ j → j < i + d → nodeE P n j (ndAt L j) = 0) → neE P n L d i = 0
  | 0, _, _ => rfl
  | d + 1, i, h => by
    rw [neE, if_pos (h i (Nat.le_refl _) (by omega))]
    exact neE_zero d (i + 1) (fun j h1 h2 => h j (by omega) (by omega))
/-- A tree that TreeOf makes may be. -/
theorem bt_may {w : World} {a : Option Addr} {c P n : Nat} {L : List Nd} {s : Nat → Nat} (hN : Nodes w a n c L) (h : BT P n L s) : tmE P n L = 0 := by
  rw [tmE_m (by have := h.P1; have := h.P5; omega) (by have := h.n1; have := h.n40; omega) (neE_zero n 0 (fun i _ hi => ?_)), mkE_yes (fun v v1 v2 => by rw [par_bt h v n (Nat.le_refl _), h.sn, if_pos ⟨v1, v2⟩])]
  have hi' : i < n := by omega
  have hkl : (ndAt L i).k.ln = (ndAt L i).k.ints.length := (hN.mem hi').1.1
  have hpl : (ndAt L i).p.ln = (ndAt L i).p.ints.length := (hN.mem hi').2.1
  refine nodeE_0 ?_ ?_ ?_
  · by_cases e : (ndAt L i).k.ln = 0
    · obtain ⟨g1, g2, g3⟩ := h.ender i hi' e
      rintro ⟨q, -⟩
      unfold endB at q
      simp [g1, g2, e] at q
    · obtain ⟨g1, g2, g3⟩ := h.mover i hi' (by omega)
      have g5 := h.k5 i hi'
      rintro ⟨-, q⟩
      unfold movB at q
      simp [g1, g2, g3] at q
      omega
  · refine any_no (fun q hq => badP_no ?_)
    by_cases e : (ndAt L i).k.ln = 0
    · obtain ⟨g1, g2, g3⟩ := h.ender i hi' e
      have := g3 q (by omega)
      unfold nth at this
      omega
    · obtain ⟨g1, g2, g3⟩ := h.mover i hi' (by omega)
      omega
  · intro j hj hb
    have h1 := h.kid i hi' j (by omega)
    have h2 := h.kid_lt hi' (j := j) (by omega)
    unfold BadKid at hb
    rw [h1] at hb
    rcases hb with hb | hb
    · cases j with
      | zero => rw [ahd] at hb; have := h.pos i hi'; omega
      | succ j => rw [ahd, h.kid i hi' j (by omega)] at hb; omega
    · omega
end Go.Proofs.Ytbcchbhchfdbiaa
