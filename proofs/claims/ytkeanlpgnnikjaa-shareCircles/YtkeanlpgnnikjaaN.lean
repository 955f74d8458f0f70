import Derived.Test.YtkeanlpgnnikjaaK
import Derived.Test.YtkeanlpgnnikjaaM
namespace Go.Proofs.Ytkeanlpgnnikjaa
open Go.RowKit
theorem idx_none {l : List Int} {x : Int} (h : ∀ i, i < l.length → nth l i ≠ x) : idxFrom l x 0 = -1 := by
  rcases idxFrom_spec l x _ 0 rfl with ⟨h1, -⟩ | ⟨m, -, h2, h3, -, -⟩
  · exact h1
  · exact absurd h3 (h m h2)
theorem rows_at {LL : List Sl} {p : Nat → Nat → Int} {n i : Nat} (h : lists LL = rowsL p n n) (hi : i < n) : (slAt LL i).ints = lF n (p i) := by
  have h1 : (lists LL)[i]? = (rowsL p n n)[i]? := by rw [h]
  unfold lists rowsL at h1
  rw [List.getElem?_map, List.getElem?_map, List.getElem?_range hi] at h1
  unfold slAt
  cases hq : LL[i]? with
  | none => rw [hq] at h1; cases h1
  | some s => rw [hq] at h1; simp at h1; simp only [Option.getD_some]; exact h1
theorem lev_calm {v : Nat → Nat → Int} {f : Nat → Int} {n G i j : Nat} (h : EF v f n G) (hi : i < n) (hj : j < n) : lev (v i) f i j G ≠ 2 := by
  have := h i hi j hj
  unfold lev
  by_cases e1 : hv (v i) f (j : Int) G ≤ hv (v i) f (i : Int) G
  · rw [if_pos e1]; omega
  · rw [if_neg e1, if_pos this]; omega
set_option maxRecDepth 100000 in
set_option maxHeartbeats 8000000 in
theorem shareCircles_any (a : Option Addr) (n c : Nat) (L : List Sl) (w : World) (h : Lsts w a n c L) (hs : ∀ s ∈ L, s.ln ≤ 140737488351232) (hn : n ≤ 140737488351232) :
    Calls Try.prog 4 #[.slice a n c] w fun e w' => e = .returned (.bool true) ∧ Below w.heap.size w w' := by
  have CH := hide (heavy_any a n c L w h hs hn)
  have hl := h.1
  clear hs
  by_cases hz : smE L = 0
  · have hV := smE_vals hz
    rw [← hl] at hV
    obtain ⟨G, hG⟩ : ∃ G, (slAt L 0).ln = G := ⟨_, rfl⟩
    rw [hG] at hV
    have CC := hide (circles_ok a n c G L w h hV)
    have HS : Hid (∀ W, Below w.heap.size w W → Calls Try.prog 7 #[.slice a n c] W fun e w' => e = .returned (.int .i64 0) ∧ Below W.heap.size W w') := fun W hW => by
      have := shareMay_any a n c L W (h.later hW)
      rw [hz] at this
      exact this
    have HE : Hid (∀ W g gl, Below w.heap.size w W → CS (vl L) n G G gl → Row w.heap.size W (some ⟨g, 0, none⟩) G (nth gl) → Calls Try.prog 10 #[.slice a n c, .slice (some ⟨g, 0, none⟩) G G] W fun e w' => EnvPost n (rowsL (levT L (nth gl) G) n n) W e w') := fun W g gl hW hcs hR => by
      refine (envyR_any a n c G L _ G gl W (h.later hW) hV (hR.ints hcs.len.symm (Nat.le_refl _) (by have := hV.g8; unfold maxLen; omega) (fun _ _ => rfl))).mono ?_
      intro e w' hq
      rcases hq with ⟨-, hq⟩ | ⟨⟨j, hj, hb⟩, -⟩
      · exact hq
      · unfold BadW at hb
        rcases hcs.inN j hj with q | ⟨x, hx, q⟩
        · rw [q] at hb; omega
        · rw [q] at hb; omega
    have hn1 := hV.n1
    have hn4 := hV.n4
    have hg8 := hV.g8
    clear hV hl hz h hG
    go_enter Try.func4, Try.ntmps4
    go_wp2_with fail
    refine (unhide CH).mono ?_
    rintro e w2 ⟨hvy, rfl, -, hw2⟩
    subst w2
    cases hvy with
    | true =>
      go_wp2
      go_ret
      exact ⟨rfl, Below.refl _ _⟩
    | false =>
      go_wp2_with fail
      refine (unhide CC).mono ?_
      rintro e w2 ⟨g, gl, rfl, hR, hcs, hb2⟩
      unfold two
      have CS1 := hide (unhide HS w2 hb2)
      have HR := hide hR
      have HCS := hide hcs
      clear hR hcs CC CH
      go_wp2_with fail
      refine (unhide CS1).mono ?_
      rintro e w3 ⟨rfl, hb3⟩
      have hb23 := hb2.trans (hb3.mono hb2.size)
      have CE := hide (unhide HE w3 g gl hb23 (unhide HCS) ((unhide HR).later hb3))
      go_wp2_with fail
      refine (unhide CE).mono ?_
      rintro e w4 ⟨a4, c4, LL, rfl, hL4, hls, hb4⟩
      unfold two
      have hb24 := hb23.trans (hb4.mono hb23.size)
      have HI := hide (((unhide HR).later hb3).later hb4)
      have CI := in_any (some ⟨g, 0, none⟩) G G gl (-1) w4 ((unhide HI).ints (unhide HCS).len.symm (Nat.le_refl _) (by unfold maxLen; omega) (fun _ _ => rfl))
      rw [idx_none (fun i hi => (unhide HCS).done i (by have := (unhide HCS).len; omega) (by have := (unhide HCS).len; omega))] at CI
      have CI := hide CI
      have hdf : decide ((0 : Int) ≤ -1) = false := by decide
      rw [hdf] at CI
      have HI4 : Hid (∀ i, i < n → Calls Try.prog 18 #[.int .i64 2, .slice (slAt LL i).la (slAt LL i).ln (slAt LL i).lc] w4 fun e w' => e = .returned (.bool false) ∧ w' = w4) := fun i hi => by
        have := in_any _ _ _ _ 2 w4 (hL4.mem (k := i) hi)
        rw [rows_at hls hi, idx_none, hdf] at this
        · exact this
        · intro j hj
          rw [lF_len] at hj
          rw [lF_at hj]
          exact lev_calm (unhide HCS).ef hi hj
      obtain ⟨b5, o5, rfl, hb5, hcell⟩ := hL4.cellAt hn1
      have HC := hide hcell
      have HB := hide hb24
      have HLN : Hid (∀ i, i < n → (slAt LL i).ln ≤ (slAt LL i).lc ∧ (slAt LL i).lc ≤ 9223372036854775807) := fun i hi => by
        have := hL4.mem (k := i) hi
        have r := this.2.2.1
        unfold maxLen at r
        exact ⟨this.2.1, by omega⟩
      have d1 := hL4.2.1
      have d2 := hL4.2.2.1
      unfold maxLen at d2
      clear hcell hL4 hls CE CS1 HI hb24 hb23
      go_wp2_with fail
      refine (unhide CI).mono ?_
      rintro e w5 ⟨rfl, hw5⟩
      subst w5
      go_wp2
      go_loop [8] (fun i => ∃ k : Nat, k ≤ n ∧ i = .int .i64 k) (fun i => n - (intOf i).toNat)
      case atStart => exact ⟨0, Nat.zero_le _, rfl⟩
      case round =>
        obtain ⟨k, hk, rfl⟩ := hrel
        by_cases hlt : k < n
        · have hck := unhide HC k hlt
          have CN := hide (unhide HI4 k hlt)
          obtain ⟨l1, l2⟩ := unhide HLN k hlt
          generalize slAt LL k = s at *
          obtain ⟨sa, sn, sc, si⟩ := s
          simp only at hck CN l1 l2
          go_wp2_with fail
          refine (unhide CN).mono ?_
          rintro e w5 ⟨rfl, hw5⟩
          subst w5
          go_wp2
          exact ⟨⟨k + 1, by omega, by go_num⟩, by simp [intOf]; omega⟩
        · obtain rfl : n = k := by omega
          go_wp2
          go_ret
          exact ⟨rfl, HB⟩
  · have CC := hide (circles_err a n c L w h hz)
    have CS1 := hide (shareMay_any a n c L w h)
    have hzb : (smE L == 0) = false := by simpa using hz
    have hee : (smE L == smE L) = true := by simp
    clear h hz hl
    generalize smE L = E at *
    go_enter Try.func4, Try.ntmps4
    go_wp2_with fail
    refine (unhide CH).mono ?_
    rintro e w2 ⟨hvy, rfl, -, hw2⟩
    subst w2
    cases hvy with
    | true =>
      go_wp2
      go_ret
      exact ⟨rfl, Below.refl _ _⟩
    | false =>
      go_wp2_with fail
      refine (unhide CC).mono ?_
      rintro e w2 ⟨rfl, hw2⟩
      subst w2
      unfold two
      go_wp2_with fail
      refine (unhide CS1).mono ?_
      rintro e w3 ⟨rfl, hb3⟩
      go_wp2
      go_ret
      exact ⟨rfl, hb3⟩
end Go.Proofs.Ytkeanlpgnnikjaa
