import Derived.Test.YtihmbfapbkddeaaX2
import Derived.Test.YtihmbfapbkddeaaU
namespace Go.Proofs.Ytihmbfapbkddeaa
open Go.RowKit
def fac : Nat → Nat
  | 0 => 1
  | d + 1 => (d + 1) * fac d
theorem perms_len : ∀ (d : Nat) (l : List Int), l.length = d → (permsF d l).length = fac d := by
  intro d
  induction d with
  | zero => intro l _; rfl
  | succ d ih =>
    intro l hl
    rw [permsF, List.length_flatMap]
    have : (List.range l.length).map (fun i => ((permsF d (l.take i ++ l.drop (i + 1))).map fun p => (l[i]?.getD 0) :: p).length) = List.replicate l.length (fac d) := by
      refine List.ext_getElem (by simp) fun i h1 h2 => ?_
      simp at h1
      simp only [List.getElem_map, List.getElem_range, List.length_map, List.getElem_replicate]
      exact ih _ (by simp; omega)
    rw [this, List.sum_replicate_nat, hl]
    rfl
def permsTo (d : Nat) (l : List Int) (i : Nat) : List (List Int) := (List.range i).flatMap fun i => (permsF d (l.take i ++ l.drop (i + 1))).map fun p => (l[i]?.getD 0) :: p
theorem permsTo_succ (d : Nat) (l : List Int) (i : Nat) : permsTo d l (i + 1) = permsTo d l i ++ (permsF d (l.take i ++ l.drop (i + 1))).map fun p => (l[i]?.getD 0) :: p := by
  unfold permsTo
  rw [List.range_succ, List.flatMap_append, List.flatMap_cons, List.flatMap_nil, List.append_nil]
theorem permsTo_len (d : Nat) (l : List Int) (hl : l.length = d + 1) : ∀ k, k ≤ d + 1 → (permsTo d l k).length = k * fac d := by
  intro k
  induction k with
  | zero => intro _; simp [permsTo]
  | succ k ih =>
    intro hk
    rw [permsTo_succ, List.length_append, ih (by omega), List.length_map, perms_len d _ (by simp; omega), Nat.succ_mul]
theorem fac_le : ∀ e, e ≤ 6 → fac e ≤ 720 := by decide
theorem grown_fresh {A B C : World} {r : Option Nat} {g : Nat} (h1 : A.grownBy B r) (h2 : B.grownBy C (some g)) (hg : A.heap.size ≤ g) : A.grownBy C r :=
  ⟨h2.os.trans h1.os, h2.tape.trans h1.tape, h2.output.trans h1.output, Nat.le_trans h1.size h2.size, fun k hk hr => (h2.block k (Nat.lt_of_lt_of_le hk h1.size) (fun e => by cases e; omega)).trans (h1.block k hk hr)⟩
theorem Lsts.grown {W W' : World} {base k : Nat} {v : Value} {xs : List Value} {a : Option Addr} {n c : Nat} {L : List Sl} (h : Lsts W a n c L) (hT : ∀ s ∈ L, T3 W s.la s.ln) (ho : W.ownsRow base 23 1 v k xs) (hg : W.grownBy W' v.ownBlock) (hne : ∀ b off, a = some ⟨b, off, none⟩ → 0 < n → some b ≠ v.ownBlock) : Lsts W' a n c L := by
  obtain ⟨h1, h2, h3, h4, h5⟩ := h
  refine ⟨h1, h2, h3, fun s hs => ((hT s hs).grown (h4 s hs) ho hg).2, ?_⟩
  rcases h5 with h5 | ⟨b, off, rfl, hb, hc⟩
  · exact .inl h5
  · by_cases h0 : n = 0
    · exact .inl h0
    · have hbl := hg.block b hb (hne b off rfl (by omega))
      exact .inr ⟨b, off, rfl, Nat.lt_of_lt_of_le hb hg.size, fun j hj => (World.cell?_of_block (a := ⟨b, off + j, none⟩) hbl).trans (hc j hj)⟩
theorem own_one (W : World) (x : Int) (base : Nat) (h : base ≤ W.heap.size) : (W.alloc (.cells #[.int .i64 x] 3)).ownsRow base 3 1 (.slice (some ⟨W.heap.size, 0, none⟩) 1 1) 1 (intVals [x]) :=
  ⟨rfl, Or.inr ⟨W.heap.size, 1, #[.int .i64 x], rfl, h, by show (W.heap.push _)[W.heap.size]? = _; simp, Nat.le_refl _, by unfold maxLen; omega, rfl, rfl⟩⟩
def PPost (l : List Int) (w : World) (e : Ending) (w' : World) : Prop :=
  ∃ v L, e = .returned v ∧ w'.ownsRow w.heap.size 23 1 v L.length (slVals L) ∧ (∀ s ∈ L, Ints w' s.la s.ln s.lc s.ints ∧ T3 w' s.la s.ln) ∧ lists L = permsL l ∧ Below w.heap.size w w'
set_option maxRecDepth 100000 in
set_option maxHeartbeats 8000000 in
theorem perms_any : ∀ (d : Nat) (a : Option Addr) (n c : Nat) (l : List Int) (w : World), l.length = d → d ≤ 6 → Ints w a n c l →
    Calls Try.prog 32 #[.slice a n c] w fun e w' => PPost l w e w' := by
  intro d
  induction d with
  | zero =>
    intro a n c l w hd _ hI
    have hn : n = 0 := by have := hI.1; omega
    subst hn
    have hl : l = [] := List.length_eq_zero_iff.1 hd
    subst hl
    have HMD : Hid ((w.alloc (.cells #[.slice none 0 0] 23)).ownsRow w.heap.size 23 1 (.slice (some ⟨w.heap.size, 0, none⟩) 1 1) 1 (slVals [slNone])) := ⟨rfl, Or.inr ⟨w.heap.size, 1, #[.slice none 0 0], rfl, Nat.le_refl _, by show (w.heap.push _)[w.heap.size]? = _; simp, Nat.le_refl _, by unfold maxLen; omega, rfl, rfl⟩⟩
    have hbx : Below w.heap.size w (w.alloc (.cells #[.slice none 0 0] 23)) := by go_grown
    go_enter Try.func32, Try.ntmps32
    go_wp2
    go_ret
    refine ⟨_, [slNone], rfl, unhide HMD, fun s hs => ?_, rfl, hbx⟩
    rw [List.mem_singleton] at hs
    subst hs
    exact ⟨⟨rfl, Nat.le_refl _, by show 0 ≤ maxLen; omega, .inl rfl⟩, .inl rfl⟩
  | succ d ih =>
    intro a n c l w hd h6 hI
    have hn : n = d + 1 := by have := hI.1; omega
    subst hn
    have hc := hI.2.1
    have hm := hI.2.2.1
    unfold maxLen at hm
    obtain ⟨b, off, rfl, hb, hcell⟩ := hI.cellAt (by omega)
    have HI := hide hI
    have HD := hide hd
    clear hI hd hcell
    have hne : ((d : Int) + 1 == 0) = false := by simp; omega
    go_enter Try.func32, Try.ntmps32
    go_wp2_with fail
    go_loopw [4, 3, 5, 6, 7] (fun i v _ _ _ wr => Below w.heap.size w wr ∧ ∃ (k : Nat) (L : List Sl), k ≤ d + 1 ∧ i = .int .i64 k ∧ wr.ownsRow w.heap.size 23 1 v L.length (slVals L) ∧ (∀ s ∈ L, Ints wr s.la s.ln s.lc s.ints ∧ T3 wr s.la s.ln) ∧ lists L = permsTo d l k) (fun i _ _ _ _ _ => d + 1 - (intOf i).toNat)
    case atStart => exact ⟨Below.refl _ _, 0, [], Nat.zero_le _, rfl, World.ownsRow_nil _ _ _ _, fun s hs => (by cases hs), rfl⟩
    case round =>
      obtain ⟨hbr, k, L, hk, rfl, hown, hints, hlist⟩ := hrel
      have HINT := hide hints
      have HLST := hide hlist
      have HOWN := hide hown
      clear hints hlist hown
      by_cases hlt : k < d + 1
      · have HB : Hid (∀ W, Below wr.heap.size wr W → Ints W (some ⟨b, off, none⟩) (d + 1) c l) := fun W hW => (unhide HI).later (hbr.trans (hW.mono hbr.size))
        have z0 : (0 : Int) ≤ (k : Int) := by omega
        have z1 : (k : Int) ≤ (c : Int) := by omega
        have z2 : IntKind.i64.wrap ((k : Int) + 1) = (k : Int) + 1 := by rw [IntKind.wrap_i64]; omega
        have z3 : (0 : Int) ≤ (k : Int) + 1 := by omega
        have z4 : (k : Int) + 1 ≤ (d : Int) + 1 := by omega
        have z5 : (k : Int) + 1 ≤ (c : Int) := by omega
        have z6 : (d : Int) + 1 ≤ (c : Int) := by omega
        have z7 : (k : Int) < (d : Int) + 1 := by omega
        go_wp2_with fail
        go_region_held3 (fun W => Below wr.heap.size wr W)
          (first | exact (Below.refl _ _).drew | exact Below.refl _ _ | assumption | exact Below.alloc (by assumption) (‹Below wr.heap.size wr _›).size _)
          (first
            | (refine step_append_ints _ rfl (.tmp 18) (.tmp 21) rfl wr.heap.size _ 0 [] (by simp [Act.eval]; rfl) (by first | exact own_empty _ _ (by simp) | exact (own_empty _ _ (by simp)).alloc _ | exact own_empty2 _ _ _ (by simp)) (some ⟨b, off, none⟩) k c (l.take k) (by simp [Act.eval]) ((unhide HB _ (by assumption)).take k (by omega)) (by omega) (‹Below wr.heap.size wr _›).size ?_; intro v3 w3 ho3 hg3; have hbn := (‹Below wr.heap.size wr _›).grown hg3 (‹Below wr.heap.size wr _›).size (fun q hq => by cases hq; simp))
            | (refine step_append_ints _ rfl (.tmp 22) (.tmp 26) rfl wr.heap.size _ (0 + k) ([] ++ l.take k) (by simp [Act.eval]; rfl) (by first | exact ho3 | exact ho3.alloc _) _ (d + 1 - (k + 1)) (c - (k + 1)) (l.drop (k + 1)) (by simp [Act.eval]) ((unhide HB _ (by assumption)).dropAt (k + 1) (by omega)) (by omega) (‹Below wr.heap.size wr _›).size ?_; intro v4 w4 ho4 hg4; have hbn := (‹Below wr.heap.size wr _›).grown hg4 (‹Below wr.heap.size wr _›).size (fun q hq => (ho3.lt q hq).1); simp only [Nat.zero_add, List.nil_append] at ho4; obtain ⟨a4, c4, hv4, hI4, hg4b⟩ := Ints.of_owns ho4 (by omega); subst hv4))
        have hbW := ‹Below wr.heap.size wr _›
        have hbw4 := hbr.trans (hbW.mono hbr.size)
        rw [show d + 1 - (k + 1) = d - k by omega] at hI4
        have IHc := hide (ih a4 (k + (d - k)) c4 (l.take k ++ l.drop (k + 1)) _ (by have := unhide HD; simp; omega) (by omega) hI4)
        have HO4 := hide (owns_later (unhide HOWN) hbW)
        have HIN4 := hide (fun s (hs : s ∈ L) => And.intro ((unhide HINT s hs).1.later hbW) ((unhide HINT s hs).2.later hbW))
        have HLTo : Hid (∀ g, u3.ownBlock = some g → g < wr.heap.size) := fun g hg => ((unhide HOWN).lt g hg).2
        clear HINT HOWN ho3 ho4 hg3 hg4 hI4 hg4b
        go_wp2_with fail
        all_goals
          refine (unhide IHc).mono ?_
          rintro e w6 ⟨v6, L6, rfl, ho6, hi6, hl6, hb6⟩
          obtain ⟨a6, c6, hv6, hL6⟩ := Lsts.of_owns ho6 (fun s hs => (hi6 s hs).1)
          subst hv6
          have hbw6 := hbw4.trans (hb6.mono hbw4.size)
          have h6c := hL6.2.1
          have h6m := hL6.2.2.1
          unfold maxLen at h6m
          have HA6 : Hid (∀ b' off', a6 = some ⟨b', off', none⟩ → 0 < L6.length → w4.heap.size ≤ b' ∧ b' < w6.heap.size) := fun b' off' hb' hl => by
            rcases ho6.2 with ⟨h, h'⟩ | ⟨g, cap, cur, h, hbg, hgg, _⟩
            · injection h with e1; rw [hb'] at e1; cases e1
            · injection h with e1; rw [hb'] at e1; cases e1; exact ⟨hbg, (Array.getElem?_eq_some_iff.1 hgg).1⟩
          have HO6 := hide (owns_later (unhide HO4) hb6)
          have HIN6 := hide (fun s (hs : s ∈ L) => And.intro ((unhide HIN4 s hs).1.later hb6) ((unhide HIN4 s hs).2.later hb6))
          have HT6 := hide (fun s (hs : s ∈ L6) => (hi6 s hs).2)
          have HL6 := hide hL6
          have hw46 := hb6.size
          have hwr4 := hbW.size
          have HLE : Hid (L6.length ≤ 720) := by
            show _ ≤ _
            have h1 : L6.length = (permsL (l.take k ++ l.drop (k + 1))).length := by rw [← hl6]; simp [lists]
            have h2 : (l.take k ++ l.drop (k + 1)).length = d := by have := unhide HD; simp; omega
            have h3 := perms_len d _ h2
            have h4 : ∀ e, e ≤ 6 → fac e ≤ 720 := by decide
            unfold permsL at h1
            rw [h2, h3] at h1
            have := h4 d (by omega)
            omega
          have HL6L := hide hl6
          clear ho6 hi6 hL6 hl6 HO4 HIN4 IHc
          go_wp2_with fail
          go_loopw [7, 3] (fun q v wy => Below w.heap.size w wy ∧ ∃ (j : Nat) (L' : List Sl), j ≤ L6.length ∧ q = .int .i64 j ∧ wy.ownsRow w.heap.size 23 1 v L'.length (slVals L') ∧ (∀ s ∈ L', Ints wy s.la s.ln s.lc s.ints ∧ T3 wy s.la s.ln) ∧ lists L' = permsTo d l k ++ ((lists L6).take j).map (fun p => (l[k]?.getD 0) :: p) ∧ L'.length = L.length + j ∧ Lsts wy a6 L6.length c6 L6 ∧ (∀ s ∈ L6, T3 wy s.la s.ln) ∧ (∀ g, v.ownBlock = some g → g < w4.heap.size ∨ w6.heap.size ≤ g) ∧ w6.heap.size ≤ wy.heap.size) (fun q _ _ => L6.length - (intOf q).toNat)
          case atStart => exact ⟨hbw6, 0, L, Nat.zero_le _, rfl, unhide HO6, unhide HIN6, by rw [unhide HLST]; simp, by omega, unhide HL6, unhide HT6, fun g hg => .inl (by have := unhide HLTo g hg; omega), Nat.le_refl _⟩
          case round =>
            rename World => wy
            obtain ⟨hby, j, L', hj, rfl, hown', hin', hls', hlen', hL', hT', hblk, hsz⟩ := hrel
            by_cases hjl : j < L6.length
            · obtain ⟨b6, o6, ha6, hb6', hc6⟩ := hL'.cellAt (by omega)
              subst ha6
              have hA := unhide HA6 b6 o6 rfl (by omega)
              have hcp := hc6 j hjl
              have hIs := hL'.mem hjl
              have hsm := slAt_mem hjl
              have hTs := hT' _ hsm
              have hcl : wy.cell? ⟨b, off + k, none⟩ = some (.int .i64 (l[k]?.getD 0)) := by
                obtain ⟨b', o', e', _, h'⟩ := ((unhide HI).later hby).cellAt (by omega)
                cases e'
                exact h' k (by omega)
              have hbw : b < w.heap.size := hb
              have hsl : (slAt L6 j).ln = d := by
                have h1 : (slAt L6 j).ints ∈ lists L6 := by unfold lists; exact List.mem_map.2 ⟨_, hsm, rfl⟩
                rw [unhide HL6L] at h1
                have h2 := ((perms_mem' _ _).1 h1).length_eq
                have h3 := hIs.1
                have := unhide HD
                simp at h2
                omega
              have HLJ : Hid ((lists L6)[j]? = some (slAt L6 j).ints) := by
                show _ = _
                unfold lists slAt
                rw [List.getElem?_map, List.getElem?_eq_getElem hjl]
                rfl
              have HOW := hide hown'
              have HIN := hide hin'
              have HLS := hide hls'
              have HLL := hide hL'
              have HTT := hide hT'
              have HBK := hide hblk
              have HIS := hide hIs
              have HTS := hide hTs
              have hlen9 : L'.length ≤ 100000 := by
                have h1 : L.length = (permsTo d l k).length := by rw [← unhide HLST]; simp [lists]
                rw [permsTo_len d l (unhide HD) k (by omega)] at h1
                have h2 := Nat.mul_le_mul (show k ≤ 6 by omega) (fac_le d (by omega))
                have := unhide HLE
                omega
              clear hc6 hown' hin' hls' hL' hT' hblk hIs hTs hsm
              generalize slAt L6 j = sj at *
              obtain ⟨sa, sn, sc, si⟩ := sj
              simp only at hcp hsl HIS HTS HLJ
              subst hsl
              generalize l[k]?.getD 0 = x at *
              have hba : Below wy.heap.size wy (wy.alloc (.cells #[.int .i64 x] 3)).drew := (show Below wy.heap.size wy (wy.alloc (.cells #[.int .i64 x] 3)) by go_grown).drew
              have hb6y : b6 < wy.heap.size := by omega
              have hcp2 : (wy.alloc (.cells #[.int .i64 x] 3)).drew.cell? ⟨b6, o6 + j, none⟩ = some (.slice sa sn sc) := (hba.cell (p := ⟨b6, o6 + j, none⟩) hb6y).trans hcp
              go_wp2_with fail
              go_region_law (first
                | (refine step_append_ints _ rfl (.tmp 41) (.tmp 45) rfl wy.heap.size _ 1 [x] (by first | (simp [Act.eval]; done) | (simp [Act.eval]; rfl)) (owns_drew (own_one wy x _ (Nat.le_refl _))) sa sn sc si (by simp [Act.eval]) ((unhide HIS).later hba) (by omega) hba.size ?_; intro v3 w3 ho3 hg3; have hb3 : Below wy.heap.size wy w3 := hba.grown hg3 hba.size (fun q hq => (by cases hq; simp)); obtain ⟨a3, c3, hv3, hI3, _⟩ := Ints.of_owns ho3 (by omega); subst hv3; have hT3 := T3.of_owns ho3; have hbA3 : Below wy.heap.size wy (w3.alloc (.cells #[.slice a3 (1 + sn) c3] 23)) := hb3.trans (Below.mono (show Below w3.heap.size w3 _ by go_grown) hb3.size); have hI4 := hI3.later (show Below w3.heap.size w3 (w3.alloc (.cells #[.slice a3 (1 + sn) c3] 23)) by go_grown); have hT4 := hT3.later (show Below w3.heap.size w3 (w3.alloc (.cells #[.slice a3 (1 + sn) c3] 23)) by go_grown); have HI4 := hide hI4; have HT4 := hide hT4; have HB3 := hide hbA3; clear hI4 hT4 hbA3 hI3 hT3)
                | (refine step_append_one _ rfl (.tmp 36) (.tmp 47) rfl w.heap.size _ L'.length L' (by first | (simp [Act.eval]; done) | (simp [Act.eval]; rfl)) (owns_later (unhide HOW) (unhide HB3)) w3.heap.size 1 ⟨a3, 1 + sn, c3, [x] ++ si⟩ (by simp [Act.eval]) (by simp) hlen9 (by have := (unhide HB3).size; have := hby.size; omega) ?_; intro v8 w8 ho8 hg8 hbl8))
              all_goals
                have HB3' := unhide HB3
                have hbw8 := (hby.trans (HB3'.mono hby.size)).trans ((Below.refl w.heap.size _).grown hg8 (hby.trans (HB3'.mono hby.size)).size (fun q hq => ((unhide HOW).lt q hq).1))
                have hoW := owns_later (unhide HOW) HB3'
                have hs8 := hg8.size
                have hs3 := HB3'.size
                have HALL : Hid ((∀ s ∈ L' ++ [⟨a3, 1 + sn, c3, [x] ++ si⟩], Ints w8 s.la s.ln s.lc s.ints ∧ T3 w8 s.la s.ln) ∧ Lsts w8 (some ⟨b6, o6, none⟩) L6.length c6 L6 ∧ (∀ s ∈ L6, T3 w8 s.la s.ln)) := by
                  refine ⟨fun s hs => ?_, ?_, fun s hs => ?_⟩
                  · rcases List.mem_append.1 hs with h | h
                    · have h1 := unhide HIN s h
                      have := (h1.2.later HB3').grown (h1.1.later HB3') hoW hg8
                      exact ⟨this.2, this.1⟩
                    · rw [List.mem_singleton] at h
                      subst h
                      have := (unhide HT4).grown (unhide HI4) hoW hg8
                      exact ⟨this.2, this.1⟩
                  · refine ((unhide HLL).later HB3').grown (fun s hs => (unhide HTT s hs).later HB3') hoW hg8 (fun b' off' he _ heq => ?_)
                    cases he
                    rcases unhide HBK b6 heq.symm with h | h <;> omega
                  · exact (((unhide HTT s hs).later HB3').grown (((unhide HLL).later HB3').2.2.2.1 s hs) hoW hg8).1
                have HBL : Hid (∀ g, v8.ownBlock = some g → g < w4.heap.size ∨ w6.heap.size ≤ g) := fun g hg => by
                  rcases hbl8 with h | h
                  · exact unhide HBK g (by rw [← h]; exact hg)
                  · rw [hg] at h
                    injection h with h
                    exact .inr (by omega)
                have HO8 := hide ho8
                have HSZ : Hid (w6.heap.size ≤ w8.heap.size) := by show _ ≤ _; omega
                clear hoW hg8 ho8 hbl8 HB3'
                go_wp2
                go_roundw
                case rel =>
                  refine ⟨hbw8, j + 1, L' ++ [⟨a3, 1 + sn, c3, [x] ++ si⟩], by omega, by go_num, by rw [List.length_append]; exact unhide HO8, (unhide HALL).1, ?_, by rw [List.length_append]; simp; omega, (unhide HALL).2.1, (unhide HALL).2.2, unhide HBL, unhide HSZ⟩
                  have e1 : (lists L6).take (j + 1) = (lists L6).take j ++ [si] := by
                    rw [List.take_add_one, unhide HLJ]; rfl
                  have e2 : lists (L' ++ [⟨a3, 1 + sn, c3, [x] ++ si⟩]) = lists L' ++ [x :: si] := by simp [lists]
                  rw [e1, e2, unhide HLS, List.map_append, List.append_assoc]
                  rfl
                case measure => simp [intOf]; omega
            · have hje : j = L6.length := by omega
              have HFIN : Hid (lists L' = permsTo d l (k + 1)) := by
                show _ = _
                rw [hls', hje, List.take_of_length_le (by simp [lists]), permsTo_succ, unhide HL6L]
                unfold permsL
                rw [show (l.take k ++ l.drop (k + 1)).length = d by have := unhide HD; simp; omega]
              have HO9 := hide hown'
              have HI9 := hide hin'
              clear hown' hin' hls' hL' hT' hblk
              have djl : decide ((j : Int) < (L6.length : Int)) = false := decide_eq_false (by omega)
              go_wp2
              first
                | (have hck : c = k + 1 := by assumption
                   rw [← hck]
                   refine ⟨⟨_, _, _, _, _, _, _, _, _, _, _, _, _, _, _, _, _, _, _, _, _, _, _, _, _, _, _, _, _, _, _, _, _, _, _, _, _, _, _, _, _, _, ⟨hby, k + 1, L', by omega, ?_, unhide HO9, unhide HI9, unhide HFIN⟩, rfl⟩, ?_⟩
                   · go_num
                   · simp [intOf]; omega)
                | (go_roundw
                   case rel => exact ⟨hby, k + 1, L', by omega, by go_num, unhide HO9, unhide HI9, unhide HFIN⟩
                   case measure => simp [intOf]; omega)
      · obtain rfl : d + 1 = k := by omega
        go_wp2
        go_ret
        refine ⟨_, L, rfl, unhide HOWN, unhide HINT, ?_, hbr⟩
        rw [unhide HLST]
        unfold permsL permsTo
        rw [unhide HD, permsF, unhide HD]
end Go.Proofs.Ytihmbfapbkddeaa
