
/-
  Plain facts on the digits of a number in the base 10 or 16; no program is in sight here.
-/
import Derived.WalkKit
import Derived.PlainAid
set_option linter.unusedVariables false
namespace Go.Proofs.YtmcefflgbliehaaDoor
open Go.RowKit Go.PlainAid

def dgs : ByteArray := ⟨#[48, 49, 50, 51, 52, 53, 54, 55, 56, 57, 97, 98, 99, 100, 101, 102]⟩
def dg (d : Nat) : UInt8 := dgs.data.toList.getD d 0
/-- The digits of a number, without noughts ahead: so many at most. -/
def digs (b : Nat) : Nat → Nat → List UInt8
  | 0, _ => []
  | f + 1, n => if n / b = 0 then [dg (n % b)] else digs b f (n / b) ++ [dg (n % b)]
theorem dg_at (d : Nat) (h : d < 16) : bt ⟨#[48, 49, 50, 51, 52, 53, 54, 55, 56, 57, 97, 98, 99, 100, 101, 102]⟩ d = ((dg d).toNat : Int) := by
  have : ∀ k : Fin 16, bt ⟨#[48, 49, 50, 51, 52, 53, 54, 55, 56, 57, 97, 98, 99, 100, 101, 102]⟩ k.val = ((dg k.val).toNat : Int) := by decide
  exact this ⟨d, h⟩
theorem pow10_20 : 18446744073709551615 < 10 ^ 20 := by decide
theorem pow16_20 : 18446744073709551615 < 16 ^ 20 := by decide
theorem div_lt_pow {n b f : Nat} (hb : 0 < b) (h : n < b ^ (f + 1)) : n / b < b ^ f := by
  apply Nat.div_lt_of_lt_mul
  rw [Nat.mul_comm, ← Nat.pow_succ]; exact h
end Go.Proofs.YtmcefflgbliehaaDoor
