import Derived.Test.YtihmbfapbkddeaaZ
import Derived.Test.YtihmbfapbkddeaaT
namespace Go.Proofs.Ytihmbfapbkddeaa
open Go.RowKit
/-- The first from i on. -/
def findF (f : Nat → Bool) (N i : Nat) : Option Nat := (List.range' i (N - i)).find? f
theorem find_yes {f : Nat → Bool} {N i : Nat} (h : i < N) (hf : f i = true) : findF f N i = some i := by
  unfold findF
  rw [show N - i = (N - (i + 1)) + 1 by omega, List.range'_succ, List.find?_cons, hf]
theorem find_no {f : Nat → Bool} {N i : Nat} (h : i < N) (hf : f i = false) : findF f N i = findF f N (i + 1) := by
  unfold findF
  rw [show N - i = (N - (i + 1)) + 1 by omega, List.range'_succ, List.find?_cons, hf]
theorem find_end {f : Nat → Bool} {N i : Nat} (h : ¬ i < N) : findF f N i = none := by
  unfold findF
  rw [show N - i = 0 by omega]; rfl
theorem find_same {f g : Nat → Bool} {N i : Nat} (h : ∀ s, s < N → f s = g s) : findF f N i = findF g N i := by
  unfold findF
  have : ∀ l : List Nat, (∀ s ∈ l, s < N) → l.find? f = l.find? g := by
    intro l
    induction l with
    | nil => intro _; rfl
    | cons x r ih => intro hl; rw [List.find?_cons, List.find?_cons, h x (hl x (List.mem_cons_self)), ih fun s hs => hl s (List.mem_cons_of_mem _ hs)]
  refine this _ fun s hs => ?_
  rw [List.mem_range'_1] at hs
  omega
def three (b : Bool) (s e : Int) : Value := .tuple #[.bool b, .int .i64 s, .int .i64 e]
def coreV : Option Nat → Value
  | some s => three false s 0
  | none => three true 0 0
def corV (WL : List Sl) (n : Nat) (gt : List Int) : Value :=
  if tE WL n ≠ 0 then three false 0 (tE WL n) else if ordE gt n ≠ 0 then three false 0 (ordE gt n) else coreV (findF (fun s => dealL (lisA WL) gt (whoL s n) s false) (2 ^ n) 0)
set_option maxRecDepth 100000 in
set_option maxHeartbeats 8000000 in
theorem core_any (n : Nat) (wa : Option Addr) (wc : Nat) (WL : List Sl) (ta : Option Addr) (tn tc : Nat) (tl : List Int) (w : World) (hW : Lsts w wa n wc WL) (hT : Ints w ta tn tc tl) :
    Calls Try.prog 15 #[.slice wa n wc, .slice ta tn tc] w fun e w' => e = .returned (corV WL n tl) ∧ Below w.heap.size w w' := by
  have CM := hide (tmay_any n wa wc WL w hW)
  have CO := hide (ordersMay_any ta tn tc tl n w hT)
  have HN := hide hW.1
  have h1 := hW.2.1
  have h2 := hW.2.2.1
  unfold maxLen at h2
  by_cases hz : tE WL n = 0
  · obtain ⟨hn6, hr, hfull, _⟩ := tr_ok (unhide HN) hz
    rw [hz] at CM
    by_cases hz2 : ordE tl n = 0
    · rw [hz2] at CO
      have htl : tn = n := by
        have := hT.1
        unfold ordE at hz2
        by_cases c : (tl.length : Int) = n
        · omega
        · rw [if_neg c] at hz2; omega
      have HV : Hid (corV WL n tl = coreV (findF (fun s => dealL (lisA WL) tl (whoL s n) s false) (2 ^ n) 0)) := by
        show _ = _
        unfold corV
        rw [if_neg (by omega), if_neg (by omega)]
      subst htl
      have htr := ord_range hz2
      have hg : ∀ k, k < tn → tl[k]?.getD 0 ∈ lisA WL k := fun k hk => by
        have := htr _ (getD_mem (l := tl) (k := k) (by have := hT.1; omega))
        have h3 := hfull k hk (tl[k]?.getD 0).toNat (by omega)
        rwa [Int.toNat_of_nonneg this.1] at h3
      have hN : 2 ^ tn ≤ 64 := Nat.le_trans (Nat.pow_le_pow_right (by omega) hn6) (by decide)
      have CB := hide (fun (s : Nat) (hs : s < 64) W (hb : Below w.heap.size w W) => better_any tn wa wc WL ta tc tl s hn6 hs hr hg W (hW.later hb) (hT.later hb))
      have HWW := hide hW
      have HT := hide hT
      have HR := hide hr
      have HFULL := hide hfull
      clear hz hz2 htr hW hT hr hfull hg
      generalize hf : (fun s => dealL (lisA WL) tl (whoL s tn) s false) = f at *
      have HFF := hide hf
      clear hf
      obtain ⟨N, hNe⟩ : ∃ N, N = 2 ^ tn := ⟨_, rfl⟩
      rw [← hNe] at hN HV
      have hsh : ∀ m : Nat, m ≤ 6 → IntKind.i64.wrap (2 ^ m) = ((2 ^ m : Nat) : Int) := by decide
      have hs1 : IntKind.i64.wrap (2 ^ tn) = (N : Int) := by rw [hsh tn hn6, hNe]
      clear hsh hNe
      go_enter Try.func15, Try.ntmps15
      go_wp2_with (first | (go_at_call 10; refine (unhide CM).mono ?_; rintro e w4 ⟨rfl, hw4⟩; subst w4) | (go_at_call 27; refine (unhide CO).mono ?_; rintro e w4 ⟨rfl, hw4⟩; subst w4))
      go_loopw [25] (fun q wy => Below w.heap.size w wy ∧ ∃ k : Nat, k ≤ N ∧ q = .int .i64 k ∧ findF f N 0 = findF f N k) (fun q _ => N - (intOf q).toNat)
      case atStart => exact ⟨Below.refl _ _, 0, Nat.zero_le _, rfl, rfl⟩
      case round =>
        rename World => wr
        obtain ⟨hbr, k, hk, rfl, hi⟩ := hrel
        have HI := hide hi
        clear hi
        by_cases hlt : k < N
        · have CC := unhide CB k (by omega) wr hbr
          rw [show dealL (lisA WL) tl (whoL k tn) k false = f k from congrFun (unhide HFF) k] at CC
          cases hfk : f k with
          | true =>
            rw [hfk] at CC
            have C1 := hide CC
            have HE : Hid (corV WL tn tl = three false k 0) := by
              show _ = _
              rw [unhide HV, unhide HI, find_yes hlt hfk]
              rfl
            clear CC hfk
            go_wp2_with (go_at_call 30; refine (unhide C1).mono ?_; rintro e w4 ⟨rfl, hb4⟩)
            go_ret3
            exact ⟨by rw [unhide HE]; rfl, hbr.trans (hb4.mono hbr.size)⟩
          | false =>
            rw [hfk] at CC
            have C1 := hide CC
            have HE := hide (find_no hlt hfk)
            clear CC hfk
            go_wp2_with (go_at_call 30; refine (unhide C1).mono ?_; rintro e w4 ⟨rfl, hb4⟩)
            go_roundw
            case rel => exact ⟨hbr.trans (hb4.mono hbr.size), k + 1, by omega, by go_num, by rw [unhide HI, unhide HE]⟩
            case measure => simp [intOf]; omega
        · have HE : Hid (corV WL tn tl = three true 0 0) := by
            show _ = _
            rw [unhide HV, unhide HI, find_end hlt]
            rfl
          go_wp2
          go_ret3
          exact ⟨by rw [unhide HE]; rfl, hbr⟩
    · have HE : Hid (corV WL n tl = three false 0 (ordE tl n)) := by
        show _ = _
        unfold corV
        rw [if_neg (by omega), if_pos hz2]
      generalize ordE tl n = z at *
      have hb2 : (z != 0) = true := by simpa using hz2
      clear hW hT hr hfull
      go_enter Try.func15, Try.ntmps15
      go_wp2_with (first | (go_at_call 10; refine (unhide CM).mono ?_; rintro e w4 ⟨rfl, hw4⟩; subst w4) | (go_at_call 27; refine (unhide CO).mono ?_; rintro e w4 ⟨rfl, hw4⟩; subst w4))
      go_ret3
      exact ⟨by rw [unhide HE]; rfl, Below.refl _ _⟩
  · have HE : Hid (corV WL n tl = three false 0 (tE WL n)) := by
      show _ = _
      unfold corV
      rw [if_pos hz]
    generalize tE WL n = z at *
    have hb2 : (z != 0) = true := by simpa using hz
    clear hW hT
    go_enter Try.func15, Try.ntmps15
    go_wp2_with (go_at_call 10; refine (unhide CM).mono ?_; rintro e w4 ⟨rfl, hw4⟩; subst w4)
    go_ret3
    exact ⟨by rw [unhide HE]; rfl, Below.refl _ _⟩
end Go.Proofs.Ytihmbfapbkddeaa
