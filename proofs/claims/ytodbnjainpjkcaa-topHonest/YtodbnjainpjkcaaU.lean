import Derived.Test.YtodbnjainpjkcaaX
namespace Go.Proofs.Ytodbnjainpjkcaa
open Go.RowKit
theorem stab_form (lL lR : List Ag) (ws : List Int) (P : Nat → Nat → Bool) : ∃ b x y z, stabV lL lR ws P = four b x y z := by
  unfold stabV
  split
  · split
    · exact ⟨_, _, _, _, rfl⟩
    · split
      · exact ⟨_, _, _, _, rfl⟩
      · exact ⟨_, _, _, _, rfl⟩
  · exact ⟨_, _, _, _, rfl⟩
end Go.Proofs.Ytodbnjainpjkcaa
