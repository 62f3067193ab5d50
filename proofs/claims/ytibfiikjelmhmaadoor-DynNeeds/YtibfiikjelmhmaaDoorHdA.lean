
/-
  Layer 8 (head): numbers at places, the file's header, one program header, a part's end.
-/
import Derived.Test.YtibfiikjelmhmaaDoorHdM
set_option linter.unusedVariables false
namespace Go.Proofs.YtibfiikjelmhmaaDoor
open Go.RowKit Go.PlainAid
end Go.Proofs.YtibfiikjelmhmaaDoor
