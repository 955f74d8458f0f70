import Derived.Test.YtloandcndnmkhaaA
namespace Go.Proofs.Ytloandcndnmkhaa
open Go.RowKit
set_option maxRecDepth 100000 in
set_option maxHeartbeats 4000000 in
theorem perm_any (a : Option Addr) (m c : Nat) (raw : List Int) (fi : Int) (n : Nat) (w : World) (h : Ints w a m c raw) (hr : ∀ x ∈ raw, InR x) (hf0 : 0 ≤ fi) (hf : fi ≤ 500) (hm : m ≤ 512) (hn : n ≤ 6) :
    Calls Try.prog 27 #[.slice a m c, .int .i64 fi, .int .i64 n] w fun e w' => ∃ v l, e = .returned v ∧ w'.ownsRow w.heap.size 3 1 v n (intVals l) ∧ l.Perm (upL n) ∧ Below w.heap.size w w' := by
  have HR := hide hr
  clear hr
  go_enter Try.func27, Try.ntmps27
  go_wp2_with fail
  refine (upTo_any n w hn).mono ?_
  rintro e w1 ⟨v1, rfl, ho1, hb1⟩
  obtain ⟨a1, c1, hv1, hI1, _⟩ := Ints.of_owns ho1 (by omega)
  subst hv1
  clear ho1
  go_wp2_with fail
  go_loopw [9, 7, 8] (fun i vl vo wr => Below w.heap.size w wr ∧ ∃ (k q : Nat) (al : Option Addr) (cl : Nat) (ll lo : List Int), q + k = n ∧ i = .int .i64 k ∧ vl = .slice al q cl ∧ Ints wr al q cl ll ∧ wr.ownsRow w.heap.size 3 1 vo k (intVals lo) ∧ (0 < q → ∀ g, vo.ownBlock = some g → ∀ ad, al = some ad → ad.block ≠ g) ∧ (lo ++ ll).Perm (upL n)) (fun i _ _ _ => n - (intOf i).toNat)
  case atStart => exact ⟨hb1, 0, n, a1, c1, upL n, [], by omega, rfl, rfl, hI1, World.ownsRow_nil _ _ _ _, fun _ g hg => (by cases hg), List.Perm.refl _⟩
  case round =>
    obtain ⟨hbr, k, q, al, cl, ll, lo, hk, rfl, rfl, hIl, hown, hap, hperm⟩ := hrel
    have HP := hide hperm
    have HAP := hide hap
    clear hperm hap
    by_cases hlt : k < n
    · have hIl0 := hIl
      obtain ⟨b, off, rfl, hb, hcell⟩ := hIl.cellAt (by omega)
      have hqc := hIl.2.1
      have hcm := hIl.2.2.1
      unfold maxLen at hcm
      have HIL := hide hIl0
      have HLN := hide hIl.1
      clear hIl hIl0
      go_wp2_with fail
      refine (at_any a m c raw (fi + k) wr (h.later hbr) (unhide HR) (by omega) (by omega) hm).mono ?_
      rintro e w2 ⟨x, hx, rfl, hw2⟩
      subst w2
      go_wp2_with fail
      refine (pick_any x q hx (by omega) (by omega) wr).mono ?_
      rintro e w2 ⟨i, hi, rfl, hw2⟩
      subst w2
      have hci := hcell i hi
      have HC := hide hcell
      have HO := hide hown
      clear hcell hown
      go_wp2_with (at_builtin; refine wpList_append_int _ rfl _ _ rfl w.heap.size _ k _ rfl ((unhide HO).alloc _) wr.heap.size (ll[i]?.getD 0) rfl (by simp) (by omega) (by have := hbr.size; simp; omega) ?_; intro v2 w2 ho2 hg2)
      have hg3 : (wr.alloc (.cells #[.int .i64 (ll[i]?.getD 0)] 3)).grownBy w2 u8.ownBlock := hg2
      have hI2 : Ints w2 (some ⟨b, off, none⟩) q cl ll := by
        obtain ⟨g1, g2, g3, _⟩ := unhide HIL
        refine ⟨g1, g2, g3, .inr ⟨b, off, rfl, Nat.lt_of_lt_of_le (Nat.lt_of_lt_of_le hb (by rw [World.size_alloc]; omega)) hg3.size, fun j hj => ?_⟩⟩
        rw [hg3.cell_far ⟨b, off + j, none⟩ (by have := World.size_alloc wr (.cells #[.int .i64 (ll[i]?.getD 0)] 3); show b < _; omega) (fun e => unhide HAP (by omega) b e.symm _ rfl rfl)]
        rw [World.cell?_alloc_past _ _ _ hb]
        exact unhide HC j hj
      have hb2 : Below w.heap.size w w2 := hbr.trans ((((Below.refl w.heap.size wr).alloc hbr.size (.cells #[.int .i64 (ll[i]?.getD 0)] 3)).grown hg3 (by have := hbr.size; simp; omega) (fun q hq => ((unhide HO).lt q hq).1)))
      clear hg2 hg3
      have HB : Hid (∀ W, Below w2.heap.size w2 W → Ints W (some ⟨b, off, none⟩) q cl ll) := fun W hW => hI2.later hW
      have HO2 := hide ho2
      clear ho2 hci HC
      have z0 : (0 : Int) ≤ (i : Int) := by omega
      have z1 : (i : Int) ≤ (cl : Int) := by omega
      have z2 : IntKind.i64.wrap ((i : Int) + 1) = (i : Int) + 1 := wrap_in _ (by omega) (by omega)
      have z3 : (0 : Int) ≤ (i : Int) + 1 := by omega
      have z4 : (i : Int) + 1 ≤ (q : Int) := by omega
      have z5 : (i : Int) + 1 ≤ (cl : Int) := by omega
      have z6 : (q : Int) ≤ (cl : Int) := by omega
      go_region_held3 (fun W => Below w2.heap.size w2 W)
        (first | exact (Below.refl _ _).drew | exact Below.refl _ _ | assumption | exact Below.alloc (by assumption) (‹Below w2.heap.size w2 _›).size _)
        (first
          | (refine step_append_ints _ rfl (.tmp 33) (.tmp 36) rfl w2.heap.size _ 0 [] (by simp [Act.eval]; rfl) (by first | exact own_empty _ _ (by simp) | exact (own_empty _ _ (by simp)).alloc _ | exact own_empty2 _ _ _ (by simp)) (some ⟨b, off, none⟩) i cl (ll.take i) (by simp [Act.eval]) ((unhide HB _ (by assumption)).take i (by omega)) (by omega) (‹Below w2.heap.size w2 _›).size ?_; intro v3 w3 ho3 hg3; have hbn := (‹Below w2.heap.size w2 _›).grown hg3 (‹Below w2.heap.size w2 _›).size (fun q hq => by cases hq; simp))
          | (refine step_append_ints _ rfl (.tmp 37) (.tmp 41) rfl w2.heap.size _ (0 + i) ([] ++ ll.take i) (by simp [Act.eval]; rfl) (by first | exact ho3 | exact ho3.alloc _) _ (q - (i + 1)) (cl - (i + 1)) (ll.drop (i + 1)) (by simp [Act.eval]) ((unhide HB _ (by assumption)).dropAt (i + 1) (by omega)) (by omega) (‹Below w2.heap.size w2 _›).size ?_; intro v4 w4 ho4 hg4; have hbn := (‹Below w2.heap.size w2 _›).grown hg4 (‹Below w2.heap.size w2 _›).size (fun q hq => (ho3.lt q hq).1); simp only [Nat.zero_add, List.nil_append] at ho4; obtain ⟨a4, c4, hv4, hI4, hg4b⟩ := Ints.of_owns ho4 (by omega); subst hv4))
      all_goals
        have hbW := ‹Below w2.heap.size w2 _›
        go_wp2
        go_roundw
        case rel =>
          refine ⟨hb2.trans (hbW.mono hb2.size), k + 1, i + (q - (i + 1)), a4, c4, ll.take i ++ ll.drop (i + 1), lo ++ [ll[i]?.getD 0], by omega, by go_num, rfl, hI4, ?_, ?_, ?_⟩
          · rw [intVals_append]
            exact owns_later (unhide HO2) hbW
          · intro hq0 g hg ad had
            rcases hg4b with h0 | ⟨g', hg', _, e⟩
            · omega
            · rw [e] at had
              cases had
              have := ((unhide HO2).lt g hg).2
              show g' ≠ g
              omega
          · refine List.Perm.trans ?_ (unhide HP)
            rw [List.append_assoc]
            refine List.Perm.append_left lo ?_
            have hil : i < ll.length := by have := unhide HLN; omega
            have e : ll = ll.take i ++ ll[i]?.getD 0 :: ll.drop (i + 1) := by
              rw [List.getElem?_eq_getElem hil]
              simp
            conv => rhs; rw [e]
            show (ll[i]?.getD 0 :: (ll.take i ++ ll.drop (i + 1))).Perm _
            exact List.perm_middle.symm
        case measure => simp [intOf]; omega
    · obtain rfl : q = 0 := by omega
      obtain rfl : k = n := by omega
      go_wp2
      go_ret
      have hl0 : ll = [] := List.length_eq_zero_iff.1 hIl.1.symm
      refine ⟨_, lo, rfl, hown, ?_, hbr⟩
      have := unhide HP
      rwa [hl0, List.append_nil] at this
/-- A ballot, as it lies: how many, the slice of its order, and what that slice holds. -/
structure Bal where
  count : Int
  oa : Option Addr
  on : Nat
  oc : Nat
  order : List Int
def balNone : Bal := ⟨0, none, 0, 0, []⟩
def balAt (l : List Bal) (j : Nat) : Bal := l[j]?.getD balNone
/-- A slice of ballots as it lies. -/
def Bals (w : World) (a : Option Addr) (n c : Nat) (l : List Bal) : Prop :=
  n = l.length ∧ n ≤ c ∧ c ≤ maxLen ∧ (∀ g ∈ l, Ints w g.oa g.on g.oc g.order) ∧
  (n = 0 ∨ ∃ b off, a = some ⟨b, off, none⟩ ∧ b < w.heap.size ∧ ∀ j, j < n →
    w.cell? ⟨b, off + j * 2, none⟩ = some (.int .i64 (balAt l j).count) ∧
    w.cell? ⟨b, off + j * 2 + 1, none⟩ = some (.slice (balAt l j).oa (balAt l j).on (balAt l j).oc))
theorem Bals.later {w w' : World} {a : Option Addr} {n c : Nat} {l : List Bal} (h : Bals w a n c l) (hb : Below w.heap.size w w') : Bals w' a n c l := by
  obtain ⟨hn, hc, hm, hg, h⟩ := h
  refine ⟨hn, hc, hm, fun g m => (hg g m).later hb, ?_⟩
  rcases h with h0 | ⟨b, off, rfl, hlt, hcell⟩
  · exact Or.inl h0
  · refine Or.inr ⟨b, off, rfl, Nat.lt_of_lt_of_le hlt hb.size, fun j hj => ?_⟩
    obtain ⟨h1, h2⟩ := hcell j hj
    exact ⟨(hb.cell (p := ⟨b, off + j * 2, none⟩) hlt).trans h1, (hb.cell (p := ⟨b, off + j * 2 + 1, none⟩) hlt).trans h2⟩
theorem Bals.at {w : World} {a : Option Addr} {n c : Nat} {l : List Bal} (h : Bals w a n c l) {k : Nat} (hk : k < l.length) : Ints w (balAt l k).oa (balAt l k).on (balAt l k).oc (balAt l k).order := by
  refine h.2.2.2.1 _ ?_
  unfold balAt
  rw [List.getElem?_eq_getElem hk]
  simp
def balE (g : Bal) (n : Int) : Int := if ordE g.order n ≠ 0 then ordE g.order n else if g.count < 0 ∨ 1000 < g.count then 9 else 0
def balsFuel (l : List Bal) (n : Int) : Nat → Nat → Int
  | 0, _ => 0
  | f + 1, k => if balE (balAt l k) n ≠ 0 then balE (balAt l k) n else balsFuel l n f (k + 1)
def balsFrom (l : List Bal) (n : Int) (k : Nat) : Int := balsFuel l n (l.length - k) k
theorem balsFrom_step {l : List Bal} {n : Int} {k : Nat} (h : k < l.length) : balsFrom l n k = if balE (balAt l k) n ≠ 0 then balE (balAt l k) n else balsFrom l n (k+1) := by
  unfold balsFrom
  rw [show l.length - k = (l.length - (k + 1)) + 1 by omega, balsFuel]
theorem balsFrom_end {l : List Bal} {n : Int} {k : Nat} (h : ¬ k < l.length) : balsFrom l n k = 0 := by
  unfold balsFrom
  rw [show l.length - k = 0 by omega, balsFuel]
theorem balsFrom_ord {l : List Bal} {n : Int} {k : Nat} (h : k < l.length) (e : ordE (balAt l k).order n ≠ 0) : balsFrom l n k = ordE (balAt l k).order n := by
  have : balE (balAt l k) n = ordE (balAt l k).order n := by unfold balE; rw [if_pos e]
  rw [balsFrom_step h, this, if_pos e]
theorem balsFrom_cnt {l : List Bal} {n : Int} {k : Nat} (h : k < l.length) (e : ordE (balAt l k).order n = 0) (c : (balAt l k).count < 0 ∨ 1000 < (balAt l k).count) : balsFrom l n k = 9 := by
  have : balE (balAt l k) n = 9 := by unfold balE; rw [if_neg (by simpa using e), if_pos c]
  rw [balsFrom_step h, this, if_pos (by omega)]
theorem balsFrom_on {l : List Bal} {n : Int} {k : Nat} (h : k < l.length) (e : ordE (balAt l k).order n = 0) (c : ¬ ((balAt l k).count < 0 ∨ 1000 < (balAt l k).count)) : balsFrom l n k = balsFrom l n (k+1) := by
  have : balE (balAt l k) n = 0 := by unfold balE; rw [if_neg (by simpa using e), if_neg c]
  rw [balsFrom_step h, this, if_neg (by omega)]
/-- V1: what may be. -/
def voteE (n : Int) (l : List Bal) : Int := if n < 1 ∨ 6 < n then 7 else if 30 < l.length then 2 else balsFrom l n 0
set_option maxHeartbeats 2000000 in
theorem voteMay_any (x : Int) (a : Option Addr) (n c : Nat) (l : List Bal) (w : World) (h : Bals w a n c l) :
    Calls Try.prog 8 #[.int .i64 x, .slice a n c] w fun e w' => e = .returned (.int .i64 (voteE x l)) ∧ w' = w := by
  have h0 := h
  obtain ⟨hn, hc, hm, hg, hrow⟩ := h
  unfold maxLen at hm
  by_cases hx : x < 1 ∨ 6 < x
  · have HF := hide (show voteE x l = 7 by unfold voteE; rw [if_pos hx])
    clear hn hg hrow
    rcases hx with hx | hx
    · go_enter Try.func8, Try.ntmps8
      go_wp2
      go_ret
      exact ⟨ret_int (unhide HF).symm, rfl⟩
    · have hx2 : ¬ x < 1 := by omega
      go_enter Try.func8, Try.ntmps8
      go_wp2
      go_ret
      exact ⟨ret_int (unhide HF).symm, rfl⟩
  have hx1 : ¬ x < 1 := by omega
  have hx2 : ¬ 6 < x := by omega
  by_cases h30 : 30 < n
  · have HF := hide (show voteE x l = 2 by unfold voteE; rw [if_neg hx, if_pos (by omega)])
    clear hn hg hrow
    go_enter Try.func8, Try.ntmps8
    go_wp2
    go_ret
    exact ⟨ret_int (unhide HF).symm, rfl⟩
  have HF := hide (show voteE x l = balsFrom l x 0 by unfold voteE; rw [if_neg hx, if_neg (by omega)])
  have HN := hide hn
  clear hn hx hg
  go_enter Try.func8, Try.ntmps8
  go_wp2
  go_loop [5, 6] (fun i _ => ∃ k : Nat, k ≤ n ∧ i = .int .i64 k ∧ balsFrom l x 0 = balsFrom l x k) (fun i _ => n - (intOf i).toNat)
  case atStart => exact ⟨0, Nat.zero_le _, rfl, rfl⟩
  case round =>
    obtain ⟨k, hk, rfl, hn⟩ := hrel
    have HI := hide hn
    clear hn
    by_cases hlt : k < n
    · obtain ⟨b, off, rfl, hb, hcell⟩ : ∃ b off, a = some ⟨b, off, none⟩ ∧ b < w.heap.size ∧ ∀ j, j < n →
          w.cell? ⟨b, off + j * 2, none⟩ = some (.int .i64 (balAt l j).count) ∧
          w.cell? ⟨b, off + j * 2 + 1, none⟩ = some (.slice (balAt l j).oa (balAt l j).on (balAt l j).oc) := by
        rcases hrow with hz | hrow
        · omega
        · exact hrow
      obtain ⟨h1, h2⟩ := hcell k hlt
      have hlen : k < l.length := by have := unhide HN; omega
      have hIn := h0.at hlen
      have HL := hide hlen
      clear hlen hcell hrow
      by_cases ho : ordE (balAt l k).order x = 0
      · by_cases hcnt : (balAt l k).count < 0 ∨ 1000 < (balAt l k).count
        · have HE := hide (balsFrom_cnt (unhide HL) ho hcnt)
          rcases hcnt with hcnt | hcnt
          · go_wp2_with (go_at_call 29; refine (orderOf_any _ _ _ _ _ _ hIn).mono ?_; rintro e w' ⟨rfl, rfl⟩)
            go_ret
            exact ⟨ret_int (by rw [unhide HF, unhide HI, unhide HE]), rfl⟩
          · have hc2 : ¬ (balAt l k).count < 0 := by omega
            go_wp2_with (go_at_call 29; refine (orderOf_any _ _ _ _ _ _ hIn).mono ?_; rintro e w' ⟨rfl, rfl⟩)
            go_ret
            exact ⟨ret_int (by rw [unhide HF, unhide HI, unhide HE]), rfl⟩
        · have HE := hide (balsFrom_on (unhide HL) ho hcnt)
          have hc1 : ¬ (balAt l k).count < 0 := by omega
          have hc2 : ¬ 1000 < (balAt l k).count := by omega
          clear hcnt
          go_wp2_with (go_at_call 29; refine (orderOf_any _ _ _ _ _ _ hIn).mono ?_; rintro e w' ⟨rfl, rfl⟩)
          refine ⟨⟨k+1, by omega, by go_num, by rw [unhide HI, unhide HE]⟩, by simp [intOf]; omega⟩
      · have HE := hide (balsFrom_ord (unhide HL) ho)
        go_wp2_with (go_at_call 29; refine (orderOf_any _ _ _ _ _ _ hIn).mono ?_; rintro e w' ⟨rfl, rfl⟩)
        go_ret
        exact ⟨ret_int (by rw [unhide HF, unhide HI, unhide HE]), rfl⟩
    · go_wp2
      go_ret
      exact ⟨ret_int (by rw [unhide HF, unhide HI, balsFrom_end (by have := unhide HN; omega)]), rfl⟩
set_option maxHeartbeats 2000000 in
theorem may_any (x : Int) (a : Option Addr) (n c : Nat) (l : List Bal) (w : World) (h : Bals w a n c l) :
    Calls Try.prog 9 #[.int .i64 x, .slice a n c] w fun e w' => e = .returned (.int .i64 (voteE x l)) ∧ Below w.heap.size w w' := by
  have h0 := h
  obtain ⟨hn, hc, hm, hg, hrow⟩ := h
  unfold maxLen at hm
  by_cases hx : x < 1 ∨ 6 < x
  · have HF := hide (show voteE x l = 7 by unfold voteE; rw [if_pos hx])
    clear hn hg hrow
    rcases hx with hx | hx
    · go_enter Try.func9, Try.ntmps9
      go_wp2
      go_ret
      exact ⟨ret_int (unhide HF).symm, Below.refl _ _⟩
    · have hx2 : ¬ x < 1 := by omega
      go_enter Try.func9, Try.ntmps9
      go_wp2
      go_ret
      exact ⟨ret_int (unhide HF).symm, Below.refl _ _⟩
  have hx1 : ¬ x < 1 := by omega
  have hx2 : ¬ 6 < x := by omega
  by_cases h30 : 30 < n
  · have HF := hide (show voteE x l = 2 by unfold voteE; rw [if_neg hx, if_pos (by omega)])
    clear hn hg hrow
    go_enter Try.func9, Try.ntmps9
    go_wp2
    go_ret
    exact ⟨ret_int (unhide HF).symm, Below.refl _ _⟩
  have HF := hide (show voteE x l = balsFrom l x 0 by unfold voteE; rw [if_neg hx, if_neg (by omega)])
  have HN := hide hn
  clear hn hx hg
  go_enter Try.func9, Try.ntmps9
  go_wp2
  go_loopw [19, 6, 7] (fun i _ _ wr => Below w.heap.size w wr ∧ ∃ k : Nat, k ≤ n ∧ i = .int .i64 k ∧ balsFrom l x 0 = balsFrom l x k) (fun i _ _ _ => n - (intOf i).toNat)
  case atStart => exact ⟨Below.refl _ _, 0, Nat.zero_le _, rfl, rfl⟩
  case round =>
    obtain ⟨hbw, k, hk, rfl, hn⟩ := hrel
    have HI := hide hn
    clear hn
    by_cases hlt : k < n
    · have hr := h0.later hbw
      obtain ⟨b, off, rfl, hb, hcell⟩ : ∃ b off, a = some ⟨b, off, none⟩ ∧ b < wr.heap.size ∧ ∀ j, j < n →
          wr.cell? ⟨b, off + j * 2, none⟩ = some (.int .i64 (balAt l j).count) ∧
          wr.cell? ⟨b, off + j * 2 + 1, none⟩ = some (.slice (balAt l j).oa (balAt l j).on (balAt l j).oc) := by
        rcases hr.2.2.2.2 with hz | hrow
        · omega
        · exact hrow
      obtain ⟨h1, h2⟩ := hcell k hlt
      have hlen : k < l.length := by have := unhide HN; omega
      have hIn := hr.at hlen
      have HL := hide hlen
      clear hlen hcell hrow hr
      have hba : Below wr.heap.size wr (wr.alloc (.cells #[.int .i64 (balAt l k).count, .slice (balAt l k).oa (balAt l k).on (balAt l k).oc] 44)) := by go_grown
      have hI2 := hIn.later hba
      have hbb := hbw.trans (hba.mono hbw.size)
      by_cases ho : ordE (balAt l k).order x = 0
      · by_cases hcnt : (balAt l k).count < 0 ∨ 1000 < (balAt l k).count
        · have HE := hide (balsFrom_cnt (unhide HL) ho hcnt)
          rcases hcnt with hcnt | hcnt
          · go_wp2_with (go_at_call 30; refine (ordersMay_any _ _ _ _ _ _ hI2).mono ?_; rintro e w' ⟨rfl, rfl⟩)
            go_ret
            exact ⟨ret_int (by rw [unhide HF, unhide HI, unhide HE]), hbb⟩
          · have hc2 : ¬ (balAt l k).count < 0 := by omega
            go_wp2_with (go_at_call 30; refine (ordersMay_any _ _ _ _ _ _ hI2).mono ?_; rintro e w' ⟨rfl, rfl⟩)
            go_ret
            exact ⟨ret_int (by rw [unhide HF, unhide HI, unhide HE]), hbb⟩
        · have HE := hide (balsFrom_on (unhide HL) ho hcnt)
          have hc1 : ¬ (balAt l k).count < 0 := by omega
          have hc2 : ¬ 1000 < (balAt l k).count := by omega
          clear hcnt
          go_wp2_with (go_at_call 30; refine (ordersMay_any _ _ _ _ _ _ hI2).mono ?_; rintro e w' ⟨rfl, rfl⟩)
          go_roundw
          case rel => exact ⟨hbb, k+1, by omega, by go_num, by rw [unhide HI, unhide HE]⟩
          case measure => simp [intOf]; omega
      · have HE := hide (balsFrom_ord (unhide HL) ho)
        go_wp2_with (go_at_call 30; refine (ordersMay_any _ _ _ _ _ _ hI2).mono ?_; rintro e w' ⟨rfl, rfl⟩)
        go_ret
        exact ⟨ret_int (by rw [unhide HF, unhide HI, unhide HE]), hbb⟩
    · go_wp2
      go_ret
      exact ⟨ret_int (by rw [unhide HF, unhide HI, balsFrom_end (by have := unhide HN; omega)]), hbw⟩
end Go.Proofs.Ytloandcndnmkhaa
