
/-
  Layer 8 (head): how many pages a library has.
-/
import Derived.Test.YtkelipoiopkokaaDoorHdE
set_option linter.unusedVariables false
namespace Go.Proofs.YtkelipoiopkokaaDoor
open Go.RowKit Go.PlainAid
end Go.Proofs.YtkelipoiopkokaaDoor
