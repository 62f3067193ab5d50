
/-
  Copy keeps its contract.
-/
import Derived.Test.YthkpcafbfgfjpaaDoorFsT
import Derived.Deep.CutRange
set_option linter.unusedVariables false
namespace Go.Proofs.YthkpcafbfgfjpaaDoor
open Go.RowKit Go.PlainAid
/-- In Copy's loop. -/
structure Cp (w wr : World) (L : List Nd) (i : Nat) (v : Value) (l : List Nd) : Prop where
  at_ : CopyAt wr w.heap.size v l
  same : l.map strip = (L.take i).map strip
  below : Below w.heap.size w wr
def CpJ (w wr : World) (L : List Nd) (i : Nat) (v : Value) : Prop := ∃ l, Cp w wr L i v l
theorem own_apart {w : World} {B C : Nat} {v u : Value} {t e : TypeId} {s q n m : Nat} {xs ys : List Value} (h : w.ownsRow B t s v n xs) (k : ∀ g, u.ownBlock = some g → w.heap.size ≤ g) : ∀ g, u.ownBlock = some g → v.ownBlock ≠ some g := fun g hg e => by
  have := (World.ownsRow.lt h g e).2
  have := k g hg
  omega
end Go.Proofs.YthkpcafbfgfjpaaDoor
