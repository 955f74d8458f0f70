import Derived.Test.YtbcchbhchfdbiaaH
namespace Go.Proofs.Ytbcchbhchfdbiaa
open Go.RowKit Go.Shelf
attribute [local go_sem] Oper.semAt_some
/-- What the k-th round is handed: from the end. -/
def bkV (n : Nat) (L : List Nd) (k : Nat) : Array Value := #[.int .i64 ((n - 1 - k : Nat) : Int), nV (ndAt L (n - 1 - k)).pl (ndAt L (n - 1 - k)).k.la (ndAt L (n - 1 - k)).k.ln (ndAt L (n - 1 - k)).k.lc (ndAt L (n - 1 - k)).p.la (ndAt L (n - 1 - k)).p.ln (ndAt L (n - 1 - k)).p.lc]
set_option maxRecDepth 100000 in
set_option maxHeartbeats 2000000 in
theorem back56 (b off : Nat) (n c : Nat) (L : List Nd) (bx l m : Nat) (hn1 : 1 ≤ n) (hn40 : n ≤ 40) (J : Nat → World → Prop)
    (hJ : ∀ k W, J k W → W.cell? ⟨bx, 0, none⟩ = some (.slice (some ⟨b, off, none⟩) n c) ∧ ∀ j, j < n → W.cell? ⟨b, off + j * 3, none⟩ = some (.int .i64 (ndAt L j).pl) ∧ W.cell? ⟨b, off + j * 3 + 1, none⟩ = some (.slice (ndAt L j).k.la (ndAt L j).k.ln (ndAt L j).k.lc) ∧ W.cell? ⟨b, off + j * 3 + 2, none⟩ = some (.slice (ndAt L j).p.la (ndAt L j).p.ln (ndAt L j).p.lc))
    (hY : ∀ (m k : Nat) W, k < n → J k W → YieldAt Fence.wide m Try.prog l (bkV n L k) W fun e W' => e = .returned (.bool true) ∧ J (k + 1) W') (W : World) (h0 : J 0 W) :
    CallsIn Fence.wide m Try.prog 56 (#[.func (.yield l) #[] #[]] ++ #[.pointer (some ⟨bx, 0, none⟩)]) W fun e W' => (∃ v, e = .returned v) ∧ J n W' := by
  refine callsIn_of_wp Try.func56 rfl trivial ?_ rfl
  simp only [Try.ntmps56, List.size_toArray, List.length_cons, List.length_nil, Nat.reduceAdd, Nat.reduceSub, Array.replicate_succ, Array.replicate_zero, List.push_toArray, List.append_toArray, List.nil_append, List.cons_append]
  have HJ := hide hJ
  have HY := hide hY
  have H0 := hide h0
  have x0 := (hJ 0 W h0).1
  have hwn : IntKind.i64.wrap ((n : Int) - 1) = (n : Int) - 1 := wrap_in _ (by omega) (by omega)
  clear hJ hY h0
  gi_wp2
  gi_loopw [3] (fun i wr => ∃ k : Nat, k ≤ n ∧ i = .int .i64 ((n : Int) - 1 - (k : Int)) ∧ Hid (J k wr)) (fun i _ => (intOf i + 1).toNat)
  case atStart => exact ⟨0, Nat.zero_le _, by simp, H0⟩
  case round =>
    clear H0 x0
    obtain ⟨k, hk, rfl, HJr⟩ := hrel
    by_cases hlt : k < n
    · obtain ⟨j, ej⟩ : ∃ j : Nat, n - 1 - k = j := ⟨_, rfl⟩
      have eji : (n : Int) - 1 - (k : Int) = (j : Int) := by omega
      have hjn : j < n := by omega
      obtain ⟨x0, hcells⟩ := unhide HJ k wr (unhide HJr)
      obtain ⟨c0, c1, c2⟩ := hcells j hjn
      have hy := unhide HY (m - 1) k wr hlt (unhide HJr)
      unfold bkV nV at hy
      rw [ej] at hy
      have HE : Hid ((n : Int) - 1 - ((k + 1 : Nat) : Int) = (j : Int) - 1) := by show _ = _; omega
      rw [eji]
      generalize ndAt L j = d at *
      obtain ⟨pl, ⟨ka, kn, kc, kids⟩, ⟨qa, qn, qc, pay⟩⟩ := d
      simp only at c0 c1 c2 hy
      obtain ⟨fn, tmps, assign, body, hy', hR⟩ := hy
      have HR := hide hR
      have hdj : decide (0 ≤ (j : Int)) = true := by simp
      have hwj : IntKind.i64.wrap ((j : Int) - 1) = (j : Int) - 1 := wrap_in _ (by omega) (by omega)
      clear hR hcells eji ej
      gi_wp2
      refine ⟨fun h => by simp [Fence.wide] at h, (unhide HR).mono ?_⟩
      rintro e W' ⟨rfl, h1⟩
      have HJ2 := hide h1
      clear h1 hy'
      gi_wp2
      go_roundw
      case rel => exact ⟨k + 1, by omega, by rw [unhide HE], HJ2⟩
      case measure => simp [intOf]
    · obtain rfl : n = k := by omega
      have e0 : (n : Int) - 1 - (n : Int) = -1 := by omega
      rw [e0]
      gi_wp2
      go_end0
      exact ⟨⟨_, rfl⟩, HJr⟩
end Go.Proofs.Ytbcchbhchfdbiaa
