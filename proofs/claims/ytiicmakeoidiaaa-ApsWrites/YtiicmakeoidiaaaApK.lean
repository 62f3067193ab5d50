
/-
  Layer 14 (aps): the chapter's examples ('alive') keep their contract.
-/
import Derived.Test.YtiicmakeoidiaaaApJ
import Derived.Test.YtiicmakeoidiaaaApC
set_option linter.unusedVariables false
namespace Go.Proofs.Ytiicmakeoidiaaa
open Go.RowKit Go.PlainAid
theorem rel_spec : RelSpec := fun w B T R v s rela fine h m f st inf h0 h1 hl => ap_takeRel w B T R v s rela fine h m f st inf h0 h1 hl
theorem aps_Dec (w : World) (v : Value) (l : List UInt8) (h : Arg w v l) (rela : Bool) : Calls Try.prog 26 #[v, .bool rela] w fun e w' => ApsIs w (apsZ l rela) e w' ∧ Below w.heap.size w w' := aps_Decode rel_spec w v l h rela
end Go.Proofs.Ytiicmakeoidiaaa
