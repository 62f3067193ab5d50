
/-
  Layer 8 (head): which headers are of a type, and whether parts may be.
-/
import Derived.Test.YtibfiikjelmhmaaDoorHdF
set_option linter.unusedVariables false
namespace Go.Proofs.YtibfiikjelmhmaaDoor
open Go.RowKit Go.PlainAid
theorem ofT_len (ps : List Ph) (k : Nat) : (ofT ps k).length ≤ ps.length := List.length_filter_le _ _
end Go.Proofs.YtibfiikjelmhmaaDoor
