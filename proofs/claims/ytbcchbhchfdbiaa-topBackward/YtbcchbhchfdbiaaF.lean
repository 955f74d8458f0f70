import Derived.Test.YtbcchbhchfdbiaaE
namespace Go.Proofs.Ytbcchbhchfdbiaa
open Go.RowKit
/-- How often a node is a kid: among the first kids of one, of the first nodes. -/
def occ (l : List Int) (v : Int) : Nat → Nat
  | 0 => 0
  | j + 1 => occ l v j + if nth l j = v then 1 else 0
def par (L : List Nd) (v : Int) : Nat → Nat
  | 0 => 0
  | i + 1 => par L v i + occ (ndAt L i).k.ints v (ndAt L i).k.ln
theorem occ_le (l : List Int) (v : Int) : ∀ j, occ l v j ≤ j
  | 0 => Nat.le_refl _
  | j + 1 => by have := occ_le l v j; unfold occ; split <;> omega
/-- Nodes whose kids may be. -/
def KidsIn (n : Nat) (L : List Nd) : Prop := ∀ i, i < n → (ndAt L i).k.ln ≤ 5 ∧ ∀ j, j < (ndAt L i).k.ln → 0 ≤ nth (ndAt L i).k.ints j ∧ nth (ndAt L i).k.ints j < n
theorem par_le {n : Nat} {L : List Nd} (h : KidsIn n L) (v : Int) : ∀ i, i ≤ n → par L v i ≤ 5 * i
  | 0, _ => Nat.le_refl _
  | i + 1, hi => by
    have h1 := par_le h v i (by omega)
    have h2 := occ_le (ndAt L i).k.ints v (ndAt L i).k.ln
    have h3 := (h i (by omega)).1
    unfold par
    omega
open Classical in
noncomputable def mkE (n : Nat) (L : List Nd) : Int := if ∀ v : Nat, 1 ≤ v → v < n → par L v n = 1 then 0 else 11
theorem mkE_no {n : Nat} {L : List Nd} {v : Nat} (h1 : 1 ≤ v) (h2 : v < n) (h : par L v n ≠ 1) : mkE n L = 11 := by unfold mkE; rw [if_neg (fun q => h (q v h1 h2))]
theorem mkE_yes {n : Nat} {L : List Nd} (h : ∀ v : Nat, 1 ≤ v → v < n → par L v n = 1) : mkE n L = 0 := by unfold mkE; rw [if_pos h]
def pkF (L : List Nd) (i j v : Nat) : Int := ((par L v i + occ (ndAt L i).k.ints v j : Nat) : Int)
set_option maxRecDepth 100000 in
set_option maxHeartbeats 4000000 in
theorem mayKids_any (P : Int) (a : Option Addr) (n c : Nat) (L : List Nd) (w : World) (h : Nodes w a n c L) (hK : KidsIn n L) (n1 : 1 ≤ n) (n40 : n ≤ 40) :
    Calls Try.prog 29 #[tV P a n c] w fun e w' => e = .returned (.int .i64 (mkE n L)) ∧ Below w.heap.size w w' := by
  obtain ⟨i3, hi3, hz0, hz1, hz2⟩ := info_parts info3
  have hc1 := h.2.1
  have hc2 := h.2.2.1
  unfold maxLen at hc2
  obtain ⟨W, hW, hbW, hlt0, hbox⟩ := tbox (w := w) P a n c
  have HW := hide hW
  have HBX0 := hide hbox
  have HBT := hide (fun (wr : World) (hb : Below W.heap.size W wr) => Below.trans hbW (hb.mono hbW.size))
  have w0 := (hbox W (Below.refl _ _)).1
  have w1 := (hbox W (Below.refl _ _)).2
  have hN := h.later hbW
  obtain ⟨b, off, rfl, hb, hcell⟩ := hN.cellAt n1
  have HC := hide hcell
  have HM := hide (fun i hi => hN.mem (j := i) hi)
  have HK := hide hK
  have HNO := hide (fun v x y z => mkE_no (n := n) (L := L) (v := v) x y z)
  have HYE := hide (fun x => mkE_yes (n := n) (L := L) x)
  generalize mkE n L = E at *
  clear h hW hbW hbox hlt0 hN hcell hK
  unfold tV
  go_enter Try.func29, Try.ntmps29
  go_wp2_with (at_make; rw [unhide HW]; refine wpList_make_full _ rfl _ _ 25 rfl W.heap.size 3 i3 _ 1 Try.underlying25 hi3 hz0 hz1 .i64 .i64 _ _ n rfl rfl rfl rfl (by rw [hz2]; omega) (by unfold maxLen; omega) (Nat.le_refl _) ?_; intro w2 ho2 hg2; have hB2 : Below W.heap.size W w2 := (Below.refl W.heap.size W).grown hg2 (Nat.le_refl _) (fun k hk => by cases hk); have u0 := (unhide HBX0 _ hB2).1; have u1 := (unhide HBX0 _ hB2).2)
  have HB2 := hide hB2
  have HRW2 : Hid (Row W.heap.size w2 (some ⟨W.heap.size, 0, none⟩) n (pkF L 0 0)) := (row_made ho2).same (fun j hj => by rfl)
  clear ho2 hg2 w0 w1 hB2 u0 u1
  obtain ⟨B, hB⟩ : ∃ B, B = W.heap.size := ⟨_, rfl⟩
  rw [← hB] at HB2 HRW2 HBX0 HBT HC
  rw [← hB]
  have HBB := hide hB
  clear hB
  go_loopw [17, 5, 7] (fun i _ _ wr => Hid (Below B W wr) ∧ ∃ k : Nat, k ≤ n ∧ i = .int .i64 k ∧ Hid (Row B wr (some ⟨B, 0, none⟩) n (pkF L k 0))) (fun i _ _ _ => n - (intOf i).toNat)
  case atStart => exact ⟨HB2, 0, Nat.zero_le _, rfl, HRW2⟩
  case round =>
    clear HB2 HRW2
    obtain ⟨HBr, i, hi, rfl, HRr⟩ := hrel
    by_cases hlt : i < n
    · obtain ⟨c0, c1, c2⟩ := unhide HC _ (unhide HBr) i hlt
      have hKI := unhide HK i hlt
      have hM := (unhide HM i hlt).1
      have hkl := hM.2.1
      have hkm := hM.2.2.1
      unfold maxLen at hkm
      have HNX : Hid (∀ v : Nat, pkF L (i + 1) 0 v = pkF L i (ndAt L i).k.ln v) := fun v => by
        unfold pkF
        show ((par L v i + occ (ndAt L i).k.ints v (ndAt L i).k.ln + 0 : Nat) : Int) = _
        rw [Nat.add_zero]
      have HPB : Hid (∀ v : Nat, par L v i ≤ 5 * i) := fun v => par_le (unhide HK) v i (by omega)
      have HPK : Hid (∀ j v : Nat, pkF L i j v = ((par L v i + occ (ndAt L i).k.ints v j : Nat) : Int)) := fun j v => rfl
      have HMW := hide hM
      clear hM
      generalize ndAt L i = d at *
      obtain ⟨pl, ⟨ka, kn, kc, kids⟩, ⟨qa, qn, qc, pay⟩⟩ := d
      unfold SlIn at HMW
      simp only at c0 c1 c2 hKI hkl hkm HNX HMW HPK
      go_wp2
      have hbA : Below wr.heap.size wr (wr.alloc (.cells #[.int .i64 pl, .slice ka kn kc, .slice qa qn qc] 51)) := by go_grown
      have HBA : Hid (Below B W (wr.alloc (.cells #[.int .i64 pl, .slice ka kn kc, .slice qa qn qc] 51))) := (unhide HBr).trans (hbA.mono (by have := (unhide HBr).size; have := unhide HBB; omega))
      have HRA := hide ((unhide HRr).later hbA)
      clear hbA
      go_loopw [24, 7] (fun i' _ wr => Hid (Below B W wr) ∧ ∃ j : Nat, j ≤ kn ∧ i' = .int .i64 j ∧ Hid (Row B wr (some ⟨B, 0, none⟩) n (pkF L i j))) (fun i' _ _ => kn - (intOf i').toNat)
      case atStart => exact ⟨HBA, 0, Nat.zero_le _, rfl, HRA⟩
      case round =>
        clear HBA HRA HRr HBr
        obtain ⟨HBr, j, hj, rfl, HRr⟩ := hrel
        by_cases hjl : j < kn
        · obtain ⟨kb, ko, eka, hkb, hkc'⟩ := (unhide HMW).nth (by omega)
          subst eka
          have hx := ((unhide HBr).cell (p := ⟨kb, ko + j, none⟩) (by rw [unhide HBB]; exact hkb)).trans (hkc' j hjl)
          have hxr := hKI.2 j hjl
          obtain ⟨v, ev⟩ : ∃ v : Nat, nth kids j = v := ⟨(nth kids j).toNat, by omega⟩
          rw [ev] at hx hxr
          have hv : v < n := by omega
          obtain ⟨r1, r2, r3, -⟩ := (unhide HRr).at hv
          have hpb := unhide HPB v
          have hob := occ_le kids v j
          have HF : Hid (Row B (wr.setCell ⟨B, v, none⟩ (.int .i64 (pkF L i j v + 1))) (some ⟨B, 0, none⟩) n (pkF L i (j + 1))) := (unhide HRr).set hv (fun e he hne => by
            rw [unhide HPK, unhide HPK]
            show _ = ((par L e i + (occ kids e j + if nth kids j = e then 1 else 0) : Nat) : Int)
            rw [if_neg (by rw [ev]; omega)]
            rfl) (by
            rw [unhide HPK, unhide HPK]
            show _ = ((par L v i + (occ kids v j + if nth kids j = v then 1 else 0) : Nat) : Int)
            rw [if_pos ev]
            omega)
          have hpv := unhide HPK j v
          obtain ⟨f, hf⟩ : ∃ f, f = pkF L i j v := ⟨_, rfl⟩
          rw [← hf] at r1 HF hpv
          have hfb : 0 ≤ f ∧ f ≤ 1000 := by omega
          clear hf hpv hkc' ev hpb hob
          go_wp2
          go_roundw
          case rel => exact ⟨(unhide HBr).setCell (p := ⟨B, v, none⟩) (Nat.le_refl _) _, j + 1, by omega, by go_num, HF⟩
          case measure => simp [intOf]; omega
        · obtain rfl : kn = j := by omega
          have HF : Hid (Row B wr (some ⟨B, 0, none⟩) n (pkF L (i + 1) 0)) := (unhide HRr).same (fun v hv => (unhide HNX v).symm)
          go_wp2
          go_roundw
          case rel => exact ⟨HBr, i + 1, by omega, by go_num, HF⟩
          case measure => simp [intOf]; omega
    · obtain rfl : n = i := by omega
      have HBX := hide (unhide HBT _ (unhide HBr))
      have HPK : Hid (∀ v : Nat, pkF L n 0 v = ((par L v n : Nat) : Int)) := fun v => rfl
      by_cases hn1 : n = 1
      · subst hn1
        have HR := hide (unhide HYE (fun v h1 h2 => by omega))
        go_wp2
        go_loop [39, 9] (fun i _ => i = .int .i64 0) (fun _ _ => 0)
        case atStart => rfl
        case round =>
          subst hrel
          go_wp2
          go_ret
          exact ⟨ret_int (unhide HR).symm, unhide HBX⟩
      · have hn2 : 1 < n := by omega
        obtain ⟨n', en'⟩ : ∃ n', n = n' + 1 := ⟨n - 1, by omega⟩
        have hne : ¬ n = 1 := hn1
        clear hn1
        go_wp2
        have HEN := hide en'
        have hn39 : n' ≤ 39 := by omega
        clear en'
        go_loop [39, 9] (fun i _ => ∃ k : Nat, k ≤ n' ∧ i = .int .i64 k ∧ ∀ v : Nat, 1 ≤ v → v < k + 1 → par L v n = 1) (fun i _ => n' - (intOf i).toNat)
        case atStart => exact ⟨0, Nat.zero_le _, rfl, fun v h1 h2 => by omega⟩
        case round =>
          obtain ⟨k, hk, rfl, hall⟩ := hrel
          have HA := hide hall
          clear hall
          by_cases hlt : k < n'
          · obtain ⟨r1, r2, r3, -⟩ := (unhide HRr).at (j := 1 + k) (by have := unhide HEN; omega)
            rw [unhide HPK] at r1
            by_cases hp : par L ((1 + k : Nat) : Int) n = 1
            · have HR : Hid (∀ v : Nat, 1 ≤ v → v < k + 1 + 1 → par L v n = 1) := fun v h1 h2 => by
                by_cases e : v = 1 + k
                · rw [e]; exact hp
                · exact unhide HA v h1 (by omega)
              rw [hp] at r1
              clear hp
              go_wp2
              exact ⟨⟨k + 1, by omega, by go_num, unhide HR⟩, by simp [intOf]; omega⟩
            · have HR := hide (unhide HNO (1 + k) (by omega) (by have := unhide HEN; omega) hp)
              generalize par L ((1 + k : Nat) : Int) n = x at *
              have hd : ((x : Int) == 1) = false := by simp; omega
              clear hp
              go_wp2
              go_ret
              exact ⟨ret_int (unhide HR).symm, unhide HBX⟩
          · obtain rfl : n' = k := by omega
            have HR := hide (unhide HYE (fun v h1 h2 => unhide HA v h1 (by have := unhide HEN; omega)))
            go_wp2
            go_ret
            exact ⟨ret_int (unhide HR).symm, unhide HBX⟩
end Go.Proofs.Ytbcchbhchfdbiaa
