
/-
  Layer 8 (head): how many pages a library has.
-/
import Derived.Test.YtndlfgjkfbdikaaHdE
set_option linter.unusedVariables false
namespace Go.Proofs.Ytndlfgjkfbdikaa
open Go.RowKit Go.PlainAid
end Go.Proofs.Ytndlfgjkfbdikaa
