import Derived.Test.YtajdijjecojdhaaDoorWNV
import Derived.Test.YtajdijjecojdhaaDoorWNW
import Derived.Test.YtajdijjecojdhaaDoorWNX
namespace Go.Proofs.YtajdijjecojdhaaDoor
open Go.RowKit
/-- The document's answer reads every text as the program does. -/
theorem reads14 : Reads 14 specP := fun s w hs _ => by
  cases h : readAll [] (cutB s) with
  | error k => exact rpA s w hs (fun k hk => by unfold specP; rw [hk]) ⟨k, h⟩
  | ok E =>
    cases h2 : setAll E [] E with
    | error k => exact rpB s w hs E h k h2
    | ok Ls => exact rpC s w hs E h Ls h2
theorem reads13 : Reads 13 specP := parse_any
end Go.Proofs.YtajdijjecojdhaaDoor
