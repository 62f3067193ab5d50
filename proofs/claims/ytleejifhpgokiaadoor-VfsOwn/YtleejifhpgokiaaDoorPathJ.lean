/-
  Layer 4: the chapter's examples hold ('alive' of messuagelaw04).
-/
import Derived.Test.YtleejifhpgokiaaDoorPathI
set_option linter.unusedVariables false
namespace Go.Proofs.YtleejifhpgokiaaDoor
open Go.RowKit Go.PlainAid
end Go.Proofs.YtleejifhpgokiaaDoor
