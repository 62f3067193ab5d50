
/-
  The plain functions of layer 1 (num) keep their contracts: each returns, for whatever numbers, what is typed here, and turns nothing in memory.
-/
import Derived.Test.YtmcefflgbliehaaDoorProg
import Derived.Test.YtmcefflgbliehaaDoorMath
import Derived.WalkKit
import Derived.WalkLawsBesides
import Derived.WalkSpells
set_option linter.unusedVariables false
namespace Go.Proofs.YtmcefflgbliehaaDoor
open Go.RowKit

/-! ### Sums, differences, products -/
/-! ### Powers of two, rounding -/
/-! ### Rows of bytes -/
def inB (a s f r : Int) : Bool := decide (f ≤ a ∧ a + s ≤ f + r)
def apB (a s f r : Int) : Bool := decide (s = 0 ∨ r = 0 ∨ a + s ≤ f ∨ f + r ≤ a)
end Go.Proofs.YtmcefflgbliehaaDoor
