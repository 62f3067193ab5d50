
/-
  Layer 13 (relr): the reference's Decode.
-/
import Derived.Test.YtkelipoiopkokabDoorRrE
set_option linter.unusedVariables false
namespace Go.Proofs.YtkelipoiopkokabDoor
open Go.RowKit Go.PlainAid Go.Sort
theorem pow_half (r k : Nat) : r / 2 ^ (k + 1) = r / 2 ^ k / 2 := by rw [Nat.pow_succ, Nat.div_div_eq_div_mul]
theorem grow_below {B : Nat} {w wr w' : World} {v : Value} {l : List Nat} (hb : Below B w wr) (ho : OwnN wr B v l) (hs : B ≤ wr.heap.size) (hg : wr.grownBy w' v.ownBlock) : Below B w w' := hb.grown hg hs (fun k hk => (ho.base k hk).1)
end Go.Proofs.YtkelipoiopkokabDoor
