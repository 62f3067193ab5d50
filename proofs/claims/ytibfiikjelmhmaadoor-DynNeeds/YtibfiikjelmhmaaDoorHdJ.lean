
/-
  Layer 8 (head): what the headers of a library say: Parse keeps its contract.
-/
import Derived.Test.YtibfiikjelmhmaaDoorHdI
set_option linter.unusedVariables false
namespace Go.Proofs.YtibfiikjelmhmaaDoor
open Go.RowKit Go.PlainAid Go.Sort
end Go.Proofs.YtibfiikjelmhmaaDoor
