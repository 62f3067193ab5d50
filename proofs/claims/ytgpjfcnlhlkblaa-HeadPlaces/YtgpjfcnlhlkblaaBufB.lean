
/-
  What lays bytes down in a buffer of package le: put, Put16, Put32, Put64, Raw, Zeros, To; Bytes; each keeps its contract.
-/
import Derived.Test.YtgpjfcnlhlkblaaArgA
import Derived.Test.YtgpjfcnlhlkblaaBufA
import Derived.Test.YtgpjfcnlhlkblaaNumA
import Derived.BigRegion
set_option linter.unusedVariables false
namespace Go.Proofs.Ytgpjfcnlhlkblaa
open Go.RowKit Go.PlainAid
/-- A byte out of a number (a name, so that nobody takes it apart). -/
def b8 (k : Nat) : UInt8 := UInt8.ofNat k
theorem b8_toNat {k : Nat} (h : k < 256) : ((b8 k).toNat : Int) = (k : Int) := by
  unfold b8; rw [UInt8.toNat_ofNat']; omega
/-- The lowest k bytes of a number, the lowest one first. -/
def leN : Nat → Nat → List UInt8
  | 0, _ => []
  | k + 1, n => b8 (n % 256) :: leN k (n / 256)
theorem leN_length : ∀ k n, (leN k n).length = k
  | 0, _ => rfl
  | k + 1, n => by simp [leN, leN_length k]
theorem leN_snoc : ∀ i n, leN (i + 1) n = leN i n ++ [b8 (n / 256 ^ i % 256)]
  | 0, n => by simp [leN]
  | i + 1, n => by
    rw [leN, leN_snoc i (n / 256), leN]
    simp only [List.cons_append]
    rw [Nat.div_div_eq_div_mul, Nat.pow_succ, Nat.mul_comm]
theorem pow_step (n i : Nat) : n / 256 ^ (i + 1) = n / 256 ^ i / 256 := by rw [Nat.pow_succ, Nat.div_div_eq_div_mul]
theorem Own.isSlice {w : World} {B : Nat} {v : Value} {l : List UInt8} (h : Own w B v l) : ∃ a n cap, v = .slice a n cap := by
  obtain ⟨a, cap, rfl, _⟩ := h.slice
  exact ⟨_, _, _, rfl⟩
end Go.Proofs.Ytgpjfcnlhlkblaa
