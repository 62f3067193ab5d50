
/-
  Layer 4: the chapter's examples hold ('alive' of messuagelaw04).
-/
import Derived.Test.YtmcefflgbliehaaDoorPathI
set_option linter.unusedVariables false
namespace Go.Proofs.YtmcefflgbliehaaDoor
open Go.RowKit Go.PlainAid
end Go.Proofs.YtmcefflgbliehaaDoor
