
/-
  The reference of layer 3: bits keeps its contract (groups as 64 bits).
-/
import Derived.Test.YtiicmakeoidiaaaRefD
set_option linter.unusedVariables false
namespace Go.Proofs.Ytiicmakeoidiaaa
open Go.RowKit Go.PlainAid
def seven (c : UInt8) : List Bool := (List.range 7).map fun k => c.toNat.testBit k
def bitsOf (l : List UInt8) : List Bool := l.flatMap seven
theorem seven_len (c : UInt8) : (seven c).length = 7 := by simp [seven]
theorem bitsOf_len : ∀ l : List UInt8, (bitsOf l).length = 7 * l.length
  | [] => rfl
  | c :: t => by
    have := bitsOf_len t
    unfold bitsOf at *
    simp only [List.flatMap_cons, List.length_append, List.length_cons, seven_len, this]; omega
theorem bitsOf_snoc (l : List UInt8) (i : Nat) (h : i < l.length) : bitsOf (l.take (i + 1)) = bitsOf (l.take i) ++ seven (l.getD i 0) := by
  rw [List.take_add_one]
  unfold bitsOf
  rw [List.flatMap_append]
  congr 1
  simp [List.getD, List.getElem?_eq_getElem h]
theorem seven_snoc (c : UInt8) (k : Nat) (h : k < 7) : (seven c).take (k + 1) = (seven c).take k ++ [c.toNat.testBit k] := by
  rw [List.take_add_one]
  congr 1
  simp [seven, h]
theorem bit_is (c : UInt8) (k : Nat) (hk : k < 7) : (bits .and .u8 ((c.toNat : Int) / 2 ^ k) 1 == 1) = c.toNat.testBit k := by
  have h : ∀ a : Fin 256, ∀ q : Fin 7, (bits .and .u8 ((a.val : Int) / 2 ^ q.val) 1 == 1) = a.val.testBit q.val := by decide +kernel
  exact h ⟨c.toNat, c.toNat_lt⟩ ⟨k, hk⟩
/-- The 64 bits that groups say. -/
def rbits (g : List UInt8) (n : Nat) (sign : Bool) : List Bool := (bitsOf g ++ List.replicate (64 - 7 * n) (sign && (bitsOf g).getD (7 * n - 1) false)).take 64
/-- v is a slice of 64 bits, R. -/
def IsB (w : World) (v : Value) (R : List Bool) : Prop := ∃ g2 cap2, v = .slice (some ⟨g2, 0, none⟩) 64 cap2 ∧ 64 ≤ cap2 ∧ cap2 ≤ maxLen ∧ (∀ j, j < 64 → w.cell? ⟨g2, j, none⟩ = some (.bool (R.getD j false)))
/-- A slice's length. -/
def slenR : Value → Nat | .slice _ n _ => n | _ => 0
end Go.Proofs.Ytiicmakeoidiaaa
