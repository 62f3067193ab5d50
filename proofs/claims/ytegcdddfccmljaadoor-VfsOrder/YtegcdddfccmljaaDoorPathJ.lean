
/-
  Layer 4: the chapter's examples hold ('alive' of messuagelaw04).
-/
import Derived.Test.YtegcdddfccmljaaDoorPathI
set_option linter.unusedVariables false
namespace Go.Proofs.YtegcdddfccmljaaDoor
open Go.RowKit Go.PlainAid
end Go.Proofs.YtegcdddfccmljaaDoor
