
/-
  Layer 8 (head): which headers are of a type, and whether parts may be.
-/
import Derived.Test.YtkelipoiopkokaaDoorHdF
set_option linter.unusedVariables false
namespace Go.Proofs.YtkelipoiopkokaaDoor
open Go.RowKit Go.PlainAid
theorem ofT_len (ps : List Ph) (k : Nat) : (ofT ps k).length ≤ ps.length := List.length_filter_le _ _
end Go.Proofs.YtkelipoiopkokaaDoor
