
/-
  Layer 8 (head): how many pages a library has.
-/
import Derived.Test.YtibfiikjelmhmaaDoorHdE
set_option linter.unusedVariables false
namespace Go.Proofs.YtibfiikjelmhmaaDoor
open Go.RowKit Go.PlainAid
end Go.Proofs.YtibfiikjelmhmaaDoor
