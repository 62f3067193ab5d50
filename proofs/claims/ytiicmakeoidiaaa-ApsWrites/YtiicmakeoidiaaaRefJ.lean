
/-
  The reference of layer 3: S and Left keep their contracts.
-/
import Derived.Test.YtiicmakeoidiaaaRefI
set_option linter.unusedVariables false
namespace Go.Proofs.Ytiicmakeoidiaaa
open Go.RowKit Go.PlainAid
def SA (sl0 : Value) (l : List UInt8) (v : Value) : Prop :=
  (¬ whole l ∧ ∃ sl, v = .tuple #[.agg #[sl, .int .i64 (noErr l)], .int .i64 0] ∧ IsSl sl) ∨
  (whole l ∧ (hiN 10 l = 9 ∧ gl l 10 ≠ 0 ∧ gl l 10 ≠ 127) ∧ ∃ sl, v = .tuple #[.agg #[sl, .int .i64 30], .int .i64 0] ∧ IsSl sl) ∨
  (whole l ∧ ¬ (hiN 10 l = 9 ∧ gl l 10 ≠ 0 ∧ gl l 10 ≠ 127) ∧ ∃ sl, v = .tuple #[.agg #[sl, .int .i64 0], .int .i64 (IntKind.i64.wrap (nb (rbits (grp l) (hiN 10 l + 1) true)))] ∧ Cut sl0 sl l (hiN 10 l + 1))
end Go.Proofs.Ytiicmakeoidiaaa
