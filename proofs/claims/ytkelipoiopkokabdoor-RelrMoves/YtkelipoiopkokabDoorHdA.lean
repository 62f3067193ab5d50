
/-
  Layer 8 (head): numbers at places, the file's header, one program header, a part's end.
-/
import Derived.Test.YtkelipoiopkokabDoorHdM
set_option linter.unusedVariables false
namespace Go.Proofs.YtkelipoiopkokabDoor
open Go.RowKit Go.PlainAid
end Go.Proofs.YtkelipoiopkokabDoor
