import Derived.Test.YtaaikaeknealkaaT3
namespace Go.Proofs.Ytaaikaeknealkaa
open Go.RowKit
theorem Gd.lok {it : Nat} (hit : it ≤ 4) {L : List Sl} (h : ∀ s ∈ L, Gd it s) : Lok (2 ^ it) L := fun s hs' => ⟨(h s hs').1, fun j hj => by
  have := (h s hs').2.2.1 j hj
  have := pow_le hit
  omega⟩
theorem gd_set {it : Nat} {L : List Sl} {i : Nat} {s : Sl} (h : ∀ t ∈ L, Gd it t) (hs' : Gd it s) : ∀ t ∈ L.set i s, Gd it t := fun t ht => by
  rcases List.mem_or_eq_of_mem_set ht with e | e
  · exact h t e
  · subst e; exact hs'
/-- What is true of what was sold, one by one. -/
theorem sale_one {it : Nat} (hit : it ≤ 4) {L : List Sl} (h : ∀ s ∈ L, Gd it s) {i : Nat} (hi : i < L.length) :
    ∃ q r : Nat, nth (bst (fs L) (2 ^ it - 1)).2 i = (q : Int) ∧ q < 2 ^ it ∧ us (bst (fs L) (2 ^ it - 1)).2 i = (r : Int) ∧ r < 16 ∧ (∀ k, k < it → ¬ (hs r k = true ∧ hs q k = true)) ∧
      0 ≤ pay L (2 ^ it - 1) i ∧ pay L (2 ^ it - 1) i ≤ nth (slAt L i).ints q := by
  have hk := Gd.lok hit h
  have hfl : (fs L).length = L.length := by simp [fs]
  have hal : 2 ^ it - 1 < 2 ^ it := by have := Nat.two_pow_pos it; omega
  obtain ⟨b1, b2, b3⟩ := bst_spec (pow_le hit) (fs L) hk.wok (2 ^ it - 1) hal
  have hbl := b1.lt
  obtain ⟨r, r1, r2, r3, r4⟩ := alc_rest b1 (pow16 hit) i (by omega)
  obtain ⟨q, q1, q2⟩ := r4 (by omega)
  obtain ⟨s1, s2⟩ := sub_al it (by omega) r r1 r2
  have hq16 := alc_small r1 q2
  have hqr := (sub_eq q hq16 r r1 q2).2
  have hz : wz (fs L) i = 0 := by unfold wz; rw [fs_at hi]; exact (h _ (slAt_mem hi)).2.1
  have hp := pays_ok hit hk.wok (by omega) hz
  rw [wat_fs hi, q1, Int.toNat_natCast, ← fs_erase] at hp
  have hpe : pay L (2 ^ it - 1) i = (bst (fs (L.eraseIdx i)) (2 ^ it - 1)).1 - ((bst (fs L) (2 ^ it - 1)).1 - nth (slAt L i).ints q) := by unfold pay; rw [q1, Int.toNat_natCast]
  refine ⟨q, 2 ^ it - 1 - r, q1, by omega, by omega, ?_, fun k hk' hc => ?_, by rw [hpe]; exact hp.1, by rw [hpe]; exact hp.2⟩
  · have := pow16 hit
    omega
  · rw [s2 k (by omega), decide_eq_true hk'] at hc
    have hb := sub_bits q hq16 r r1 q2 k (by omega) hc.2
    rw [hb] at hc
    exact absurd hc.1 (by decide)
/-- Nobody does better by a lie. -/
theorem sale_lie {it : Nat} (hit : it ≤ 4) {L : List Sl} (h : ∀ s ∈ L, Gd it s) {i : Nat} (hi : i < L.length) {s' : Sl} (hs' : Gd it s') :
    ∃ d : Nat, nth (bst (fs (L.set i s')) (2 ^ it - 1)).2 i = (d : Int) ∧ d < 2 ^ it ∧
      nth (slAt L i).ints d - pay (L.set i s') (2 ^ it - 1) i ≤ nth (slAt L i).ints (nth (bst (fs L) (2 ^ it - 1)).2 i).toNat - pay L (2 ^ it - 1) i := by
  have hk := Gd.lok hit h
  have h2 := gd_set (i := i) h hs'
  have hk2 := Gd.lok hit h2
  have hl2 : (L.set i s').length = L.length := by simp
  obtain ⟨d, _, d1, d2, _⟩ := sale_one hit h2 (i := i) (by omega)
  refine ⟨d, d1, d2, ?_⟩
  have hfl : (fs L).length = L.length := by simp [fs]
  have hfl2 : (fs (L.set i s')).length = (fs L).length := by simp [fs]
  have he : (fs (L.set i s')).eraseIdx i = (fs L).eraseIdx i := by rw [fs_set, erase_set]
  have hg := groves hit hk.wok hk2.wok hfl2 (by omega) he
  rw [wat_fs hi, wat_fs hi, wat_fs (by omega), d1, Int.toNat_natCast, ← fs_erase, ← fs_erase] at hg
  have e1 : pay L (2 ^ it - 1) i = (bst (fs (L.eraseIdx i)) (2 ^ it - 1)).1 - ((bst (fs L) (2 ^ it - 1)).1 - nth (slAt L i).ints (nth (bst (fs L) (2 ^ it - 1)).2 i).toNat) := rfl
  have e2 : pay (L.set i s') (2 ^ it - 1) i = (bst (fs ((L.set i s').eraseIdx i)) (2 ^ it - 1)).1 - ((bst (fs (L.set i s')) (2 ^ it - 1)).1 - nth (slAt (L.set i s') i).ints d) := by unfold pay; rw [d1, Int.toNat_natCast]
  rw [e1, e2]
  exact hg
end Go.Proofs.Ytaaikaeknealkaa
