import Derived.Test.YtaaikaeknealkaaG
import Derived.Lib.SlicesDelete
namespace Go.Proofs.Ytaaikaeknealkaa
open Go.RowKit
set_option maxRecDepth 100000 in
set_option maxHeartbeats 1000000 in
theorem cloneL_any (a : Option Addr) (n c : Nat) (L : List Sl) (w : World) (h : Lsts w a n c L) (hn : 0 < n) (hs' : n ≤ 1000) :
    Calls Try.prog 19 #[.slice a n c] w fun e w' => ∃ v, e = .returned v ∧ w'.ownsRow w.heap.size 26 1 v n (slVals L) ∧ Below w.heap.size w w' := by
  obtain ⟨b, off, rfl, hb, _⟩ := h.cellAt hn
  have hb0 : Below w.heap.size w (w.alloc (.cells #[] 26)) := by go_grown
  have h1 := h.later hb0
  have HO := hide (own_empty23 w w.heap.size (Nat.le_refl _))
  have hq : ∀ w, (binOp .eql 22 (.slice (some ⟨b, off, none⟩) n c) (.slice none 0 0)).run Try.prog w = .ok (.bool false) w := fun w => Lib.run_eql_slice_nil w 22 26 (some ⟨b, off, none⟩) n c 0 0 Try.underlying22
  go_enter Try.func19, Try.ntmps19
  go_wp2_with (at_builtin; refine wpList_append_lsts _ rfl _ _ rfl w.heap.size _ 0 [] rfl (unhide HO) _ n c L rfl h1 (by omega) (by simp) ?_; intro v2 w2 ho2 hg2)
  go_ret
  have hb2 := ((Below.refl w.heap.size _).grown hg2 (by simp) (fun k hk => ((unhide HO).lt k hk).1))
  refine ⟨_, rfl, ?_, hb0.trans hb2⟩
  simpa using ho2
set_option maxRecDepth 100000 in
set_option maxHeartbeats 4000000 in
theorem delL_any (g n cap i j : Nat) (d : Nat → Value) (w : World) (hd : ∀ k, k < n → w.cell? ⟨g, k, none⟩ = some (d k)) (hfz : ∀ k, k < n → w.frozen? ⟨g, k, none⟩ = false) (h1c : ∀ k, k < n → (d k).oneCell' = true) (hcap : n ≤ cap) (_hm : cap ≤ maxLen) (hlt : i < j) (hj : j ≤ n) :
    Calls Try.prog 18 #[.slice (some ⟨g, 0, none⟩) n cap, .int .i64 i, .int .i64 j] w fun e w' => e = .returned (.slice (some ⟨g, 0, none⟩) (i + (n - j)) cap) ∧ Below g w w' ∧ ∀ k, k < i + (n - j) → w'.cell? ⟨g, k, none⟩ = some (d (if k < i then k else k + (j - i))) := by
  obtain ⟨i0, hi0, hz0, hz1, hz2⟩ := info_parts info26
  unfold maxLen at _hm
  obtain ⟨news, hnews⟩ : ∃ news, news = (List.range (n - j)).map (fun t => d (j + t)) := ⟨_, rfl⟩
  have hlen : news.length = n - j := by rw [hnews]; simp
  have hget : ∀ t, t < n - j → news[t]? = some (d (j + t)) := fun t ht => by rw [hnews, List.getElem?_map, List.getElem?_range ht]; rfl
  obtain ⟨A, hA, hsrc⟩ : ∃ A : Addr, (if cap = j then some (⟨g, 0, none⟩ : Addr) else some ⟨g, j, none⟩) = some A ∧ Hid (∀ t u, news[t]? = some u → w.drew.cell? (A.add t) = some u) := by
    by_cases h : cap = j
    · refine ⟨⟨g, 0, none⟩, by simp [h], fun t u hu => ?_⟩
      have h0 : news.length = 0 := by rw [hlen]; omega
      rw [List.length_eq_zero_iff.1 h0] at hu
      simp at hu
    · refine ⟨⟨g, j, none⟩, by simp [h], fun t u hu => ?_⟩
      have ht : t < n - j := by
        have := (List.getElem?_eq_some_iff.1 hu).1
        rwa [hlen] at this
      rw [hget t ht] at hu
      have e : (⟨g, j, none⟩ : Addr).add t = ⟨g, j + t, none⟩ := by unfold Addr.add; split <;> simp_all
      rw [e]
      exact (hd (j + t) (by omega)).trans hu
  have s1 : Hid (news.length = (n - j) * 1) := by rw [Nat.mul_one]; exact hlen
  have s2 : Hid (∀ u ∈ news, u.oneCell' = true) := fun u hu => by
    rw [hnews] at hu
    obtain ⟨t, ht, rfl⟩ := List.mem_map.1 hu
    exact h1c _ (by have := List.mem_range.1 ht; omega)
  have s3 : Hid (∀ t, t < news.length → (w.drew.cell? ⟨g, 0 + i * 1 + t, none⟩).isSome = true ∧ w.drew.frozen? ⟨g, 0 + i * 1 + t, none⟩ = false) := fun t ht => by
    rw [hlen] at ht
    rw [Nat.mul_one, Nat.zero_add]
    exact ⟨by show (w.cell? _).isSome = true; rw [hd (i + t) (by omega)]; rfl, hfz (i + t) (by omega)⟩
  obtain ⟨W1, hW1⟩ : ∃ W1, W1 = w.drew.setCells g (0 + i * 1) news := ⟨_, rfl⟩
  have hso : ∀ k, k < n → (w.drew.cell? ⟨g, k, none⟩).isSome = true := fun k hk => by show (w.cell? _).isSome = true; rw [hd k hk]; rfl
  have hso1 : ∀ k, k < n → (W1.cell? ⟨g, k, none⟩).isSome = true := fun k hk => by
    rw [hW1]
    exact isSome_setCells _ _ _ _ (fun t ht => hso _ (by rw [hlen] at ht; omega)) k (hso k hk)
  have hfz1 : ∀ k, k < n → W1.frozen? ⟨g, k, none⟩ = false := fun k hk => by rw [hW1, World.frozen?_setCells]; exact hfz k hk
  have hcl : ∀ ty, (Builtin.clear_ #[22] ty #[.slice (some ⟨g, (i + (n - j)), none⟩) (n - (i + (n - j))) (cap - (i + (n - j)))]).run Try.prog W1 = .ok (.tuple #[]) (W1.setCells g (i + (n - j)) (List.replicate (n - (i + (n - j))) (.slice none 0 0))) :=
    fun ty => Lib.run_clear_slice W1 _ _ ty _ Try.underlying22 Try.zeroValue26 rfl rfl g (i + (n - j)) _ _ (by omega) (fun t ht => hso1 _ (by omega)) (fun t ht => hfz1 _ (by omega))
  have HX : Hid (∀ k, k < i + (n - j) → (W1.setCells g (i + (n - j)) (List.replicate (n - (i + (n - j))) (.slice none 0 0))).cell? ⟨g, k, none⟩ = some (d (if k < i then k else k + (j - i)))) := fun k hk => by
    rw [World.cell?_setCells_out _ _ _ _ _ (fun _ _ => .inl hk), hW1]
    by_cases e : k < i
    · rw [if_pos e, World.cell?_setCells_out _ _ _ _ _ (fun _ _ => .inl (by show k < 0 + i * 1; omega))]
      exact hd k (by omega)
    · rw [if_neg e]
      have := World.cell?_setCells_in g news (0 + i * 1) w.drew (fun t ht => hso _ (by rw [hlen] at ht; omega)) (k - i) (by rw [hlen]; omega)
      rw [show 0 + i * 1 + (k - i) = k by omega] at this
      rw [this]
      have h9 := hget (k - i) (by omega)
      rw [List.getElem?_eq_getElem (by omega)] at h9
      rw [h9, show j + (k - i) = k + (j - i) by omega]
  have HB : Hid (Below g w (W1.setCells g (i + (n - j)) (List.replicate (n - (i + (n - j))) (.slice none 0 0)))) := by
    refine below_cells (Nat.le_refl _) _ _ _ _ ?_
    rw [hW1]
    exact below_cells (Nat.le_refl _) _ _ _ _ (Below.refl g w).drew
  have hW : Hid (W1 = w.drew.setCells g (0 + i * 1) news) := hW1
  have hic : i ≤ cap := by omega
  have hjc : j ≤ cap := by omega
  clear hW1 hnews hlen hget hd hfz h1c hso hso1 hfz1
  go_enter Try.func18, Try.ntmps18
  go_wp2_with fail
  go_region_law (refine step_append_room rfl (.tmp 22) (.tmp 25) 22 rfl 26 i0 1 Try.underlying22 hi0 hz1 g 0 i cap (by simp [Act.eval, Act.put]) A (n - j) (cap - j) news (by simp [Act.eval, Act.put]) s1.out hsrc.out s2.out (by omega) s3.out ?_; rw [← hW.out])
  go_wp2
  go_ret
  exact ⟨rfl, unhide HB, unhide HX⟩
end Go.Proofs.Ytaaikaeknealkaa
