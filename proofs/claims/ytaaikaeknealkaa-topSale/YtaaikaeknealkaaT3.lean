import Derived.Test.YtaaikaeknealkaaT2
namespace Go.Proofs.Ytaaikaeknealkaa
open Go.RowKit
theorem erase_set {α : Type} : ∀ (l : List α) (i : Nat) (x : α), (l.set i x).eraseIdx i = l.eraseIdx i
  | [], _, _ => rfl
  | _ :: _, 0, _ => rfl
  | a :: l, i + 1, x => by
    show a :: (l.set i x).eraseIdx i = a :: l.eraseIdx i
    rw [erase_set l i x]
/-- What was used up so far. -/
def us : List Int → Nat → Int
  | _, 0 => 0
  | [], _ => 0
  | s :: l, k + 1 => s + us l k
theorem us_step : ∀ (l : List Int) (k : Nat), k < l.length → us l (k + 1) = us l k + nth l k
  | [], _, h => by simp at h
  | s :: l, 0, _ => by
    show s + us l 0 = 0 + s
    have : us l 0 = 0 := by cases l <;> rfl
    omega
  | s :: l, k + 1, h => by
    have := us_step l k (by simpa using h)
    show s + us l (k + 1) = s + us l k + nth l k
    omega
theorem sub_eq : ∀ s : Nat, s < 16 → ∀ f : Nat, f < 16 → anN s f = 0 → anN f s = f - s ∧ s ≤ f := by decide +kernel
theorem sub_tr : ∀ f : Nat, f < 16 → ∀ s : Nat, s < 16 → ∀ r : Nat, r < 16 → anN r (anN f s) = 0 → anN r f = 0 := by decide +kernel
/-- What is left behind the first k sets. -/
theorem alc_rest {ws : List (Nat → Int)} : ∀ {f : Nat} {l : List Int}, Alc ws f l → f < 16 → ∀ k, k ≤ l.length → ∃ r : Nat, r < 16 ∧ anN r f = 0 ∧ us l k + (r : Int) = (f : Int) ∧ (k < l.length → ∃ s : Nat, nth l k = (s : Int) ∧ anN s r = 0) := by
  induction ws with
  | nil =>
    intro f l h hf k hk
    rw [show l = [] from h] at hk ⊢
    obtain rfl : k = 0 := by simpa using hk
    exact ⟨f, hf, by unfold anN; simp, by show 0 + (f : Int) = f; omega, fun h => by simp at h⟩
  | cons w ws ih =>
    intro f l h hf k hk
    obtain ⟨s, l', rfl, h1, h2⟩ := h
    have hs16 := alc_small hf h1
    obtain ⟨e1, e2⟩ := sub_eq s hs16 f hf h1
    cases k with
    | zero => exact ⟨f, hf, by unfold anN; simp, by show 0 + (f : Int) = f; omega, fun _ => ⟨s, rfl, h1⟩⟩
    | succ k =>
      have hf' : anN f s < 16 := Nat.lt_of_le_of_lt (anN_le _ _) hf
      obtain ⟨r, r1, r2, r3, r4⟩ := ih h2 hf' k (by simpa using hk)
      refine ⟨r, r1, sub_tr f hf s hs16 r r1 r2, ?_, fun hk2 => ?_⟩
      · show (s : Int) + us l' k + (r : Int) = (f : Int)
        rw [e1] at r3
        clear r4 ih h2
        omega
      · exact r4 (by simpa using hk2)
theorem fs_set : ∀ (L : List Sl) (i : Nat) (s : Sl), fs (L.set i s) = (fs L).set i (nth s.ints)
  | [], _, _ => rfl
  | _ :: _, 0, _ => rfl
  | t :: L, i + 1, s => by
    show nth t.ints :: fs (L.set i s) = nth t.ints :: (fs L).set i (nth s.ints)
    rw [fs_set L i s]
theorem wat_fs {L : List Sl} {i : Nat} (h : i < L.length) (x : Int) : wat (fs L) i x = nth (slAt L i).ints x.toNat := by
  unfold wat
  rw [fs_at h]
/-- The step of a region that draws its order: WorthOf is called. -/
theorem step_worth (w : World) {ops : Array Oper} {o : Oper} {a : Act} {K : Act → World → Prop} {Q : Exit → Act → World → Prop} {E : Prop} (hgd : o.guard = none) (x z : Operand)
    (ho : o.op = .call { callee := .value (.func 14), args := #[x, .const (.int .i64 0), z], argTypes := #[26, 3, 3] }) (ra : Option Addr) (rn rc : Nat) (raw : List Int) (it : Nat) (hx : a.eval x = .slice ra rn rc) (hz : a.eval z = .int .i64 (it : Int))
    (h : Ints w ra rn rc raw) (hr : ∀ x ∈ raw, InR x) (hrn : rn ≤ 256) (hit : it ≤ 4) (hK : ∀ f w', WS it f (2 ^ it) → Row w.heap.size w' (some ⟨w.heap.size, 0, none⟩) (2 ^ it) f → Below w.heap.size w w' → K (a.put o.dst (.slice (some ⟨w.heap.size, 0, none⟩) (2 ^ it) (2 ^ it))) w') :
    if Region.wanted o (yielded ops a.tmps) = true then Oper.wp Try.prog o a w K Q else E := by
  have hw : Region.wanted o (yielded ops a.tmps) = true := by simp [Region.wanted, hgd]
  rw [if_pos hw]
  unfold Oper.wp execOp
  simp [ho, resolve, invoke, Act.eval, Oper.upon, List.map_toArray, List.map_cons, List.map_nil] at hx hz ⊢
  rw [hx, hz]
  refine (worthOf_any ra rn rc raw 0 it w h hr hrn (by omega) hit).mono ?_
  rintro e w' ⟨f, h1, rfl, h2, h3⟩
  exact hK f w' h1 h2 h3
end Go.Proofs.Ytaaikaeknealkaa
