
/-
  Layer 8 (head): how many pages a library has.
-/
import Derived.Test.YtkelipoiopkokabDoorHdE
set_option linter.unusedVariables false
namespace Go.Proofs.YtkelipoiopkokabDoor
open Go.RowKit Go.PlainAid
end Go.Proofs.YtkelipoiopkokabDoor
