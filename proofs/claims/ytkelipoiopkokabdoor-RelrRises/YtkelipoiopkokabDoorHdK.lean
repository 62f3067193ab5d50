
/-
  Layer 8 (head): the small library of the statements, and what they ask of it.
-/
import Derived.Test.YtkelipoiopkokabDoorHdJ
set_option linter.unusedVariables false
namespace Go.Proofs.YtkelipoiopkokabDoor
open Go.RowKit Go.PlainAid Go.Sort
def smHead : List UInt8 := [127, 69, 76, 70, 2, 1, 1] ++ List.replicate 9 0 ++ leN 2 3 ++ leN 2 62 ++ List.replicate 12 0 ++ leN 8 64 ++ List.replicate 12 0 ++ leN 2 64 ++ leN 2 56 ++ leN 2 2 ++ List.replicate 6 0
def sm0 : List UInt8 := smHead
def sm1 : List UInt8 := sm0 ++ leN 4 1 ++ leN 4 4 ++ leN 8 0 ++ leN 8 0 ++ leN 8 0 ++ leN 8 256 ++ leN 8 256 ++ leN 8 8
def sm2 : List UInt8 := sm1 ++ leN 4 2 ++ leN 4 4 ++ leN 8 192 ++ leN 8 192 ++ leN 8 0 ++ leN 8 16 ++ leN 8 16 ++ leN 8 8
def smI : Nat → List UInt8
  | 0 => sm0
  | 1 => sm1
  | _ => sm2
def smallB : List UInt8 := sm2 ++ List.replicate 80 0
/-- A row of bytes of the call's own, and nothing that was there has turned. -/
structure Sm (w w1 : World) (v : Value) (l : List UInt8) : Prop where
  own : Own w1 w.heap.size v l
  bel : Below w.heap.size w w1
theorem Gx.below {w w1 w2 : World} {v v' : Value} {l : List UInt8} (h : Sm w w1 v l) (hg : Gx w1 w2 v v') : Below w.heap.size w w2 :=
  h.bel.grown hg.1 h.bel.size (fun k hk => (h.own.base k hk).1)
/-- Beside it three blocks lie, which it doesn't touch. -/
structure Sk (w w1 : World) (v : Value) (l : List UInt8) (g : Nat) (x y z : Obj) : Prop where
  sm : Sm w w1 v l
  low : w.heap.size ≤ g
  lt : g + 2 < w1.heap.size
  far : v.ownBlock ≠ some g ∧ v.ownBlock ≠ some (g + 1) ∧ v.ownBlock ≠ some (g + 2)
  x : w1.heap[g]? = some x
  y : w1.heap[g + 1]? = some y
  z : w1.heap[g + 2]? = some z
theorem sm_start (w : World) : Sm w (w.alloc (.cells #[.int .u8 127, .int .u8 69, .int .u8 76, .int .u8 70, .int .u8 2, .int .u8 1, .int .u8 1] 5)) (.slice (some ⟨w.heap.size, 0, none⟩) 7 7) [127, 69, 76, 70, 2, 1, 1] := by
  refine ⟨?_, (Below.refl _ w).alloc (Nat.le_refl _) _⟩
  unfold Own
  refine ⟨rfl, .inr ⟨w.heap.size, 7, _, rfl, Nat.le_refl _, heap_alloc_new _ _, by decide, by decide, rfl, rfl⟩⟩
end Go.Proofs.YtkelipoiopkokabDoor
