/-
  DERIVED. GIVEN WITH THE SEED: THE CARDS: each row of YtffnhflbhckhbaaDoorRows.lean that lists a variable, with what it lists TIED to the program's text (the seventh form; the later family's looks); each row that meets fmt, with fmt's text TOLD by the authors' own Lean function (tested against real Go, not proved from fmt's source: count such statements apart). THE CARD IS WHAT COUNTS. Prove the row's statement (the work); the ties are given (YtffnhflbhckhbaaDoorTie.lean); close each card by the builder's one call (the guide's Derived/Test/ToyasCard.lean, 'card_holds'). Laid BY PROGRAM, IN A SANDBOX (cutbox-door.mjs). By AI agents, Wed Nov 11 2026. No macro, syntax, notation, axiom, sorry.
-/
import Derived.Test.YtffnhflbhckhbaaDoorRows
import GoSem.ClaimSeven
namespace Go.Proofs.YtffnhflbhckhbaaDoor
namespace Rows

/-- THE TIED CARD OF 'agoralaw.SwapMost'. -/
def swapMostCard : Claim7 := { stood := { row := swapMostRow, standIns := [], harness := (true, "f755f7b3f47384841ad5be6fbb36dac8ec846c5db95265f7649022c0fe697405"), looks := false }, kinds := [], alts := [], laidByText := true, laidKinds := [.data, .data], laidTests := true, laidLooks := .later }
def SwapMostCardSaid : Prop := Claim7.holds Tryd.pinned (.plain (OpenSpec.ofChange swapMostSpec)) swapMostCard

/-- THE TIED CARD OF 'agoratop.TopGifts'. -/
def topGiftsCard : Claim7 := { stood := { row := topGiftsRow, standIns := [], harness := (true, "f755f7b3f47384841ad5be6fbb36dac8ec846c5db95265f7649022c0fe697405"), looks := false }, kinds := [], alts := [], laidByText := true, laidKinds := [.data, .data], laidTests := true, laidLooks := .later }
def TopGiftsCardSaid : Prop := Claim7.holds Tryd.pinned (.plain (OpenSpec.ofChange topGiftsSpec)) topGiftsCard

/-- THE SECOND FORM's CARD OF 'agoralaw.SwapMost'. -/
def swapMostUptoCard : Claim7 := { stood := { row := swapMostUptoRow, standIns := [], harness := (true, "f755f7b3f47384841ad5be6fbb36dac8ec846c5db95265f7649022c0fe697405"), looks := false }, kinds := [], alts := [], laidByText := true, laidKinds := [.data, .data], laidTests := true, laidLooks := .later }
def SwapMostUptoCardSaid : Prop := Claim7.holds Tryd.pinned (.plain (OpenSpec.upto swapMostSpec)) swapMostUptoCard

/-- THE SECOND FORM's CARD OF 'agoratop.TopGifts'. -/
def topGiftsUptoCard : Claim7 := { stood := { row := topGiftsUptoRow, standIns := [], harness := (true, "f755f7b3f47384841ad5be6fbb36dac8ec846c5db95265f7649022c0fe697405"), looks := false }, kinds := [], alts := [], laidByText := true, laidKinds := [.data, .data], laidTests := true, laidLooks := .later }
def TopGiftsUptoCardSaid : Prop := Claim7.holds Tryd.pinned (.plain (OpenSpec.upto topGiftsSpec)) topGiftsUptoCard
end Rows
end Go.Proofs.YtffnhflbhckhbaaDoor
