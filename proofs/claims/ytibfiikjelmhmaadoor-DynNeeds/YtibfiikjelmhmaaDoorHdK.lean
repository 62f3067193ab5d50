
/-
  Layer 8 (head): the small library of the statements, and what they ask of it.
-/
import Derived.Test.YtibfiikjelmhmaaDoorHdJ
set_option linter.unusedVariables false
namespace Go.Proofs.YtibfiikjelmhmaaDoor
open Go.RowKit Go.PlainAid Go.Sort
def smHead : List UInt8 := [127, 69, 76, 70, 2, 1, 1] ++ List.replicate 9 0 ++ leN 2 3 ++ leN 2 62 ++ List.replicate 12 0 ++ leN 8 64 ++ List.replicate 12 0 ++ leN 2 64 ++ leN 2 56 ++ leN 2 2 ++ List.replicate 6 0
def sm0 : List UInt8 := smHead
def sm1 : List UInt8 := sm0 ++ leN 4 1 ++ leN 4 4 ++ leN 8 0 ++ leN 8 0 ++ leN 8 0 ++ leN 8 256 ++ leN 8 256 ++ leN 8 8
def sm2 : List UInt8 := sm1 ++ leN 4 2 ++ leN 4 4 ++ leN 8 192 ++ leN 8 192 ++ leN 8 0 ++ leN 8 16 ++ leN 8 16 ++ leN 8 8
def smI : Nat → List UInt8
  | 0 => sm0
  | 1 => sm1
  | _ => sm2
def smallB : List UInt8 := sm2 ++ List.replicate 80 0
/-- A row of bytes of the call's own, and nothing that was there has turned. -/
structure Sm (w w1 : World) (v : Value) (l : List UInt8) : Prop where
  own : Own w1 w.heap.size v l
  bel : Below w.heap.size w w1
theorem Gx.below {w w1 w2 : World} {v v' : Value} {l : List UInt8} (h : Sm w w1 v l) (hg : Gx w1 w2 v v') : Below w.heap.size w w2 :=
  h.bel.grown hg.1 h.bel.size (fun k hk => (h.own.base k hk).1)
theorem sm_Put {w w1 : World} {v : Value} {l : List UInt8} (h : Hid (Sm w w1 v l)) (hl : Hid (l.length ≤ 100000)) (n k : Nat) (hk : k ≤ 8) (hn : (n : Int) ≤ 18446744073709551615) :
    Calls Tryd.prog 19 #[v, .int .u64 n, .int .i64 k] w1 fun e w' => ∃ v', e = .returned v' ∧ Hid (Sm w w' v' (l ++ leN k n)) :=
  (ref_Put w1 w.heap.size v l n k h.out.own h.out.bel.size (by have := hl.out; omega) hn).mono fun e w' ⟨v', he, ho, hg⟩ => ⟨v', he, ⟨ho, hg.below h.out⟩⟩
theorem sm_Zeros {w w1 : World} {v : Value} {l : List UInt8} (h : Hid (Sm w w1 v l)) (hl : Hid (l.length ≤ 100000)) (z : Nat) (hz : z ≤ 4096) :
    Calls Tryd.prog 21 #[v, .int .i64 z] w1 fun e w' => ∃ v', e = .returned v' ∧ Hid (Sm w w' v' (l ++ List.replicate z 0)) :=
  (ref_Zeros w1 w.heap.size v l z h.out.own h.out.bel.size (by have := hl.out; omega) (by omega)).mono fun e w' ⟨v', he, ho, hg⟩ => ⟨v', he, ⟨by simpa using ho, hg.below h.out⟩⟩
/-- Beside it three blocks lie, which it doesn't touch. -/
structure Sk (w w1 : World) (v : Value) (l : List UInt8) (g : Nat) (x y z : Obj) : Prop where
  sm : Sm w w1 v l
  low : w.heap.size ≤ g
  lt : g + 2 < w1.heap.size
  far : v.ownBlock ≠ some g ∧ v.ownBlock ≠ some (g + 1) ∧ v.ownBlock ≠ some (g + 2)
  x : w1.heap[g]? = some x
  y : w1.heap[g + 1]? = some y
  z : w1.heap[g + 2]? = some z
theorem sk_Put {w w1 : World} {v : Value} {l : List UInt8} {g : Nat} {x y z : Obj} (h : Hid (Sk w w1 v l g x y z)) (hl : Hid (l.length ≤ 100000)) (n k : Nat) (hk : k ≤ 8) (hn : (n : Int) ≤ 18446744073709551615) :
    Calls Tryd.prog 19 #[v, .int .u64 n, .int .i64 k] w1 fun e w' => ∃ v', e = .returned v' ∧ Hid (Sk w w' v' (l ++ leN k n) g x y z) := by
  refine (ref_Put w1 w.heap.size v l n k h.out.sm.own h.out.sm.bel.size (by have := hl.out; omega) hn).mono fun e w' ⟨v', he, ho, hg⟩ => ⟨v', he, ⟨⟨ho, hg.below h.out.sm⟩, h.out.low, Nat.lt_of_lt_of_le h.out.lt hg.1.size, ?_, ?_, ?_, ?_⟩⟩
  · have hlt := h.out.lt
    rcases hg.2 with e | ⟨k, e, hk⟩
    · rw [e]; exact h.out.far
    · rw [e]; refine ⟨fun e => ?_, fun e => ?_, fun e => ?_⟩ <;> (injection e with e; omega)
  · rw [hg.1.block g (by have := h.out.lt; omega) (fun e => h.out.far.1 e.symm)]; exact h.out.x
  · rw [hg.1.block (g + 1) (by have := h.out.lt; omega) (fun e => h.out.far.2.1 e.symm)]; exact h.out.y
  · rw [hg.1.block (g + 2) (by have := h.out.lt; omega) (fun e => h.out.far.2.2 e.symm)]; exact h.out.z
theorem sm_start (w : World) : Sm w (w.alloc (.cells #[.int .u8 127, .int .u8 69, .int .u8 76, .int .u8 70, .int .u8 2, .int .u8 1, .int .u8 1] 5)) (.slice (some ⟨w.heap.size, 0, none⟩) 7 7) [127, 69, 76, 70, 2, 1, 1] := by
  refine ⟨?_, (Below.refl _ w).alloc (Nat.le_refl _) _⟩
  unfold Own
  refine ⟨rfl, .inr ⟨w.heap.size, 7, _, rfl, Nat.le_refl _, heap_alloc_new _ _, by decide, by decide, rfl, rfl⟩⟩
end Go.Proofs.YtibfiikjelmhmaaDoor
