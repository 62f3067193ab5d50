
/-
  Layer 8 (head): numbers at places, the file's header, one program header, a part's end.
-/
import Derived.Test.YtkelipoiopkokaaDoorHdM
set_option linter.unusedVariables false
namespace Go.Proofs.YtkelipoiopkokaaDoor
open Go.RowKit Go.PlainAid
end Go.Proofs.YtkelipoiopkokaaDoor
