
/-
  Layer 4: the chapter's examples hold ('alive' of messuagelaw04).
-/
import Derived.Test.YthkpcafbfgfjpaaDoorPathI
set_option linter.unusedVariables false
namespace Go.Proofs.YthkpcafbfgfjpaaDoor
open Go.RowKit Go.PlainAid
end Go.Proofs.YthkpcafbfgfjpaaDoor
