
/-
  Layer 4, the program's and the reference's: Archive and Same keep their contracts.
-/
import Derived.Test.YtmcefflgbliehaaDoorPathH
set_option linter.unusedVariables false
namespace Go.Proofs.YtmcefflgbliehaaDoor
open Go.RowKit Go.PlainAid
theorem below_drewN (w : World) (n : Nat) : Below w.heap.size w (w.drewN n) := ⟨rfl, rfl, rfl, Nat.le_refl _, fun _ _ => rfl⟩
/-- Both sides of the first !/, and whether there is one. -/
def arcA (l : List UInt8) : List UInt8 := (Lib.cut l [33, 47]).1
def arcB (l : List UInt8) : List UInt8 := (Lib.cut l [33, 47]).2.1
def arcC (l : List UInt8) : Bool := (Lib.cut l [33, 47]).2.2
end Go.Proofs.YtmcefflgbliehaaDoor
