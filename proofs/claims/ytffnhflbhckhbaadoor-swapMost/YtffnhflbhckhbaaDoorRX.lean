import Derived.Test.YtffnhflbhckhbaaDoorRW
namespace Go.Proofs.YtffnhflbhckhbaaDoor
open Go.RowKit Go.Shelf
theorem range_ex {P : Program} {n : Nat} (Wy : List Int → Prop) {g : Operand} {ps : Array Tmp} {assign body : Code} {Q : Exit → Act → World → Prop} {a : Act} {w : World} (h1 : 1 ≤ n)
    {gf : Nat} {lb : Array Value} (hg : a.eval g = .func (.func gf) #[] lb) (eg : ∀ args w, (callFunc gf args).run P w = .ok (.enter gf args) w) (hps : ps.size = 1)
    (I : List (List Int) → (Nat → Prop) → World → Prop) (hI : Inv I) (E : World → Prop) (hE : ∀ pre S W, I pre S W → E W) (S0 : Nat → Prop) (h0 : I [] S0 w) (all : List (List Int))
    (hiter : ∀ (l : Nat) (J : List (List Int) → (Nat → Prop) → World → Prop), Inv J → (∀ pre S W, J pre S W → E W) → Rounds P l Wy J → ∀ (S : Nat → Prop) (W : World), J [] S W → Below w.heap.size w W → (∀ b, S b → S0 b ∨ w.heap.size ≤ b) →
      CallsIn Fence.wide (n - 1) P gf (#[.func (.yield l) #[] #[]] ++ lb) W fun e W' => (∃ v, e = .returned v) ∧ ∃ S', J all S' W')
    (hx : ∃ a₁ : List Int → Option Addr → Nat → Act, (∀ (l m : Nat) (o : List Int) (gb : Option Addr) (c : Nat) (W : World) (K : Act → World → Prop), K (a₁ o gb c) W →
      assign.wpIn (Fence.wide.inRound l) m P (Exit.then K (fun _ _ _ => False)) { tmps := (ps.zip #[.slice gb o.length c]).foldl (fun t (p, v) => t.setIfInBounds p v) a.tmps, defers := [] } W) ∧ (∀ (l m : Nat) pre o S W (gb : Option Addr) (c : Nat), I pre S W → Ints W gb o.length c o → (∀ b, (Value.slice gb o.length c).ownBlock = some b → ¬ S b ∧ b < W.heap.size) → Wy o → body.wpIn (Fence.wide.inRound l) m P (endPost I (pre ++ [o]) S (.slice gb o.length c) W) (a₁ o gb c) W))
    (hdone : ∀ (D : Nat) S (W : World), w.heap.size ≤ D → I all S W → W.heap[D]? = some (.deferred (some [])) → ¬ S D → Q .normal { a with defers := { target := .collected D, args := #[] } :: a.defers } W) :
    (Code.rangeFunc g ps assign body).wpIn Fence.wide n P Q a w := by
  obtain ⟨a₁, h2, h3⟩ := hx
  exact range_all Wy h1 hg eg hps I hI E hE S0 h0 all hiter a₁ h2 h3 hdone
end Go.Proofs.YtffnhflbhckhbaaDoor
