/-
  No cell of these rows narrows 'for every input' (looked for: loops, veiled, ifaces, maps, wideKeys, modest, calm, conditions, laid).
  DERIVED. THE GIVEN ROWS OF THIS SEAT. 5 by the template 'for every input the law returns true; each argument reads behind the call as it read before'; 0 by the template 'total and deterministic' (their statements: YtodbnjainpjkcaaTotals.lean).
  GIVEN WITH THE SEED: the statements are not yours to turn. If you find one false, say at which input.
  Laid BY PROGRAM, IN A SANDBOX (cutbox-rows.mjs): the forced cells as the released guide's own fill.sh prints them over the translation 6bcfd6fe96a2acfc… (all of the seat's roots in one cut). By AI agents, Wed Nov 11 2026. No macro, syntax, notation, axiom, sorry.
-/
import Derived.Test.YtodbnjainpjkcaaChecked
import GoSem.Claim
import GoSem.ClaimJoined
import GoSem.ClaimMapViews
import Derived.JoinedTies
import Derived.KernelRfl
namespace Go.Proofs.Ytodbnjainpjkcaa
/- THE CELL 'sum', in the pinned program and in every row, IS THE sha256 OF THE DUMP (.gsa) THAT YtodbnjainpjkcaaProg.lean LOADS. Nothing in Lean hashes anything: it is a label: what it is worth is what the hold of that sum in a sandbox is worth. -/
noncomputable def Try.pinned : Pinned := { name := "ytodbnjainpjkcaa", sum := "6bcfd6fe96a2acfc5e1a49627984dac497dd1d6e29dbb45321d9e9a9e84d53a6", checked := Try.checked }
namespace Rows
def none {H : Type} : Left H := { results := [], args := [] }

/-- 'agoralaw.MatchMade': WHATEVER THE INPUT: true; the input reads as it did. -/
def matchMadeSpec : ChangeSpec := { name := "matchMade", fn := fun _ => fun
  | [d1, d2, d3] => { results := [.lit (.bool true)], args := [d1, d2, d3] }
  | _ => none }
def matchMadeRow : OpenClaim := { program := "ytodbnjainpjkcaa", sum := "6bcfd6fe96a2acfc5e1a49627984dac497dd1d6e29dbb45321d9e9a9e84d53a6", func := "agora/agoralaw.MatchMade", spec := "matchMade", unfollowed := true, recurses := true, apart := false }
def MatchMadeSaid : Prop := matchMadeRow.holds Try.pinned (OpenSpec.ofChange matchMadeSpec)

/-- ITS FALSE NEIGHBOUR: 'it returns false'. Refute it at one input. -/
def matchMadeWrong : ChangeSpec := { name := "matchMade", fn := fun _ => fun
  | [d1, d2, d3] => { results := [.lit (.bool false)], args := [d1, d2, d3] }
  | _ => none }
def MatchMadeWrongFalsely : Prop := matchMadeRow.holds Try.pinned (OpenSpec.ofChange matchMadeWrong)

/-- 'agoratop.TopStable': WHATEVER THE INPUT: true; the input reads as it did. -/
def topStableSpec : ChangeSpec := { name := "topStable", fn := fun _ => fun
  | [d1, d2, d3, d4] => { results := [.lit (.bool true)], args := [d1, d2, d3, d4] }
  | _ => none }
def topStableRow : OpenClaim := { program := "ytodbnjainpjkcaa", sum := "6bcfd6fe96a2acfc5e1a49627984dac497dd1d6e29dbb45321d9e9a9e84d53a6", func := "agora/agoratop.TopStable", spec := "topStable", unfollowed := true, recurses := true, apart := false }
def TopStableSaid : Prop := topStableRow.holds Try.pinned (OpenSpec.ofChange topStableSpec)

/-- ITS FALSE NEIGHBOUR: 'it returns false'. Refute it at one input. -/
def topStableWrong : ChangeSpec := { name := "topStable", fn := fun _ => fun
  | [d1, d2, d3, d4] => { results := [.lit (.bool false)], args := [d1, d2, d3, d4] }
  | _ => none }
def TopStableWrongFalsely : Prop := topStableRow.holds Try.pinned (OpenSpec.ofChange topStableWrong)

/-- 'agoratop.TopRural': WHATEVER THE INPUT: true; the input reads as it did. -/
def topRuralSpec : ChangeSpec := { name := "topRural", fn := fun _ => fun
  | [d1, d2, d3] => { results := [.lit (.bool true)], args := [d1, d2, d3] }
  | _ => none }
def topRuralRow : OpenClaim := { program := "ytodbnjainpjkcaa", sum := "6bcfd6fe96a2acfc5e1a49627984dac497dd1d6e29dbb45321d9e9a9e84d53a6", func := "agora/agoratop.TopRural", spec := "topRural", unfollowed := true, recurses := true, apart := false }
def TopRuralSaid : Prop := topRuralRow.holds Try.pinned (OpenSpec.ofChange topRuralSpec)

/-- ITS FALSE NEIGHBOUR: 'it returns false'. Refute it at one input. -/
def topRuralWrong : ChangeSpec := { name := "topRural", fn := fun _ => fun
  | [d1, d2, d3] => { results := [.lit (.bool false)], args := [d1, d2, d3] }
  | _ => none }
def TopRuralWrongFalsely : Prop := topRuralRow.holds Try.pinned (OpenSpec.ofChange topRuralWrong)

/-- 'agoratop.TopLattice': WHATEVER THE INPUT: true; the input reads as it did. -/
def topLatticeSpec : ChangeSpec := { name := "topLattice", fn := fun _ => fun
  | [d1, d2, d3, d4, d5] => { results := [.lit (.bool true)], args := [d1, d2, d3, d4, d5] }
  | _ => none }
def topLatticeRow : OpenClaim := { program := "ytodbnjainpjkcaa", sum := "6bcfd6fe96a2acfc5e1a49627984dac497dd1d6e29dbb45321d9e9a9e84d53a6", func := "agora/agoratop.TopLattice", spec := "topLattice", unfollowed := true, recurses := true, apart := false }
def TopLatticeSaid : Prop := topLatticeRow.holds Try.pinned (OpenSpec.ofChange topLatticeSpec)

/-- ITS FALSE NEIGHBOUR: 'it returns false'. Refute it at one input. -/
def topLatticeWrong : ChangeSpec := { name := "topLattice", fn := fun _ => fun
  | [d1, d2, d3, d4, d5] => { results := [.lit (.bool false)], args := [d1, d2, d3, d4, d5] }
  | _ => none }
def TopLatticeWrongFalsely : Prop := topLatticeRow.holds Try.pinned (OpenSpec.ofChange topLatticeWrong)

/-- 'agoratop.TopHonest': WHATEVER THE INPUT: true; the input reads as it did. -/
def topHonestSpec : ChangeSpec := { name := "topHonest", fn := fun _ => fun
  | [d1, d2, d3, d4, d5] => { results := [.lit (.bool true)], args := [d1, d2, d3, d4, d5] }
  | _ => none }
def topHonestRow : OpenClaim := { program := "ytodbnjainpjkcaa", sum := "6bcfd6fe96a2acfc5e1a49627984dac497dd1d6e29dbb45321d9e9a9e84d53a6", func := "agora/agoratop.TopHonest", spec := "topHonest", unfollowed := true, recurses := true, apart := false }
def TopHonestSaid : Prop := topHonestRow.holds Try.pinned (OpenSpec.ofChange topHonestSpec)

/-- ITS FALSE NEIGHBOUR: 'it returns false'. Refute it at one input. -/
def topHonestWrong : ChangeSpec := { name := "topHonest", fn := fun _ => fun
  | [d1, d2, d3, d4, d5] => { results := [.lit (.bool false)], args := [d1, d2, d3, d4, d5] }
  | _ => none }
def TopHonestWrongFalsely : Prop := topHonestRow.holds Try.pinned (OpenSpec.ofChange topHonestWrong)

/- THE SECOND FORM. 'bulk': how many values and letters a reading holds, each counted each time it is reached (what is shared counts as often as it is met; a slice's spare places count too). A statement '..UptoSaid' is the law's where the arguments, and the package variables that the reading takes, are together of bulk at most 1048576: NARROWER than '..Said'. Prove '..Said' where nothing that the law and all that it calls make is longer than what came in: it says more and counts as full. Else prove '..UptoSaid'. A law counts once. -/
mutual
def uptoBulk {H : Type} : DataW H → Nat
  | .lit (.string bytes) => bytes.length + 1
  | .lit _ => 1
  | .nil => 1
  | .ptr d => uptoBulk d + 1
  | .slice elems spare => uptoBulkAll elems + uptoBulkAll spare + 1
  | .agg parts => uptoBulkAll parts + 1
  | .iface _ d => uptoBulk d + 1
  | .map entries => uptoBulkEntries entries + 1
  | .held _ => 1
def uptoBulkAll {H : Type} : List (DataW H) → Nat
  | [] => 0
  | d :: r => uptoBulk d + uptoBulkAll r
def uptoBulkEntries {H : Type} : List (Lit × DataW H) → Nat
  | [] => 0
  | x :: r => uptoBulkEntry x + uptoBulkEntries r
def uptoBulkEntry {H : Type} : Lit × DataW H → Nat
  | (.string bytes, d) => bytes.length + uptoBulk d + 1
  | (_, d) => uptoBulk d + 1
 end
def uptoSmall : (H : Type) → List (DataW H) → Bool := fun _ ds => decide (uptoBulkAll ds ≤ 1048576)
def OpenSpec.upto (s : _root_.Go.ChangeSpec) : _root_.Go.OpenSpec := { _root_.Go.OpenSpec.ofChange s with cond := some uptoSmall }

/-- 'agoralaw.MatchMade', WHERE WHAT IT READS IS OF BULK AT MOST 1048576: true; the input reads as it did. -/
def matchMadeUptoRow : OpenClaim := { program := "ytodbnjainpjkcaa", sum := "6bcfd6fe96a2acfc5e1a49627984dac497dd1d6e29dbb45321d9e9a9e84d53a6", func := "agora/agoralaw.MatchMade", spec := "matchMade", unfollowed := true, recurses := true, apart := false, narrowed := true }
def MatchMadeUptoSaid : Prop := matchMadeUptoRow.holds Try.pinned (OpenSpec.upto matchMadeSpec)

/-- 'agoratop.TopStable', WHERE WHAT IT READS IS OF BULK AT MOST 1048576: true; the input reads as it did. -/
def topStableUptoRow : OpenClaim := { program := "ytodbnjainpjkcaa", sum := "6bcfd6fe96a2acfc5e1a49627984dac497dd1d6e29dbb45321d9e9a9e84d53a6", func := "agora/agoratop.TopStable", spec := "topStable", unfollowed := true, recurses := true, apart := false, narrowed := true }
def TopStableUptoSaid : Prop := topStableUptoRow.holds Try.pinned (OpenSpec.upto topStableSpec)

/-- 'agoratop.TopRural', WHERE WHAT IT READS IS OF BULK AT MOST 1048576: true; the input reads as it did. -/
def topRuralUptoRow : OpenClaim := { program := "ytodbnjainpjkcaa", sum := "6bcfd6fe96a2acfc5e1a49627984dac497dd1d6e29dbb45321d9e9a9e84d53a6", func := "agora/agoratop.TopRural", spec := "topRural", unfollowed := true, recurses := true, apart := false, narrowed := true }
def TopRuralUptoSaid : Prop := topRuralUptoRow.holds Try.pinned (OpenSpec.upto topRuralSpec)

/-- 'agoratop.TopLattice', WHERE WHAT IT READS IS OF BULK AT MOST 1048576: true; the input reads as it did. -/
def topLatticeUptoRow : OpenClaim := { program := "ytodbnjainpjkcaa", sum := "6bcfd6fe96a2acfc5e1a49627984dac497dd1d6e29dbb45321d9e9a9e84d53a6", func := "agora/agoratop.TopLattice", spec := "topLattice", unfollowed := true, recurses := true, apart := false, narrowed := true }
def TopLatticeUptoSaid : Prop := topLatticeUptoRow.holds Try.pinned (OpenSpec.upto topLatticeSpec)

/-- 'agoratop.TopHonest', WHERE WHAT IT READS IS OF BULK AT MOST 1048576: true; the input reads as it did. -/
def topHonestUptoRow : OpenClaim := { program := "ytodbnjainpjkcaa", sum := "6bcfd6fe96a2acfc5e1a49627984dac497dd1d6e29dbb45321d9e9a9e84d53a6", func := "agora/agoratop.TopHonest", spec := "topHonest", unfollowed := true, recurses := true, apart := false, narrowed := true }
def TopHonestUptoSaid : Prop := topHonestUptoRow.holds Try.pinned (OpenSpec.upto topHonestSpec)

end Rows
end Go.Proofs.Ytodbnjainpjkcaa
