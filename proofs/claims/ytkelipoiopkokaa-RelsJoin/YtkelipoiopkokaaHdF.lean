
/-
  Layer 8 (head): how many pages a library has.
-/
import Derived.Test.YtkelipoiopkokaaHdE
set_option linter.unusedVariables false
namespace Go.Proofs.Ytkelipoiopkokaa
open Go.RowKit Go.PlainAid
end Go.Proofs.Ytkelipoiopkokaa
