/-
  The reference's PutS keeps its contract: the groups of a number with its sign, in new memory; nothing that was there is turned.
-/
import Derived.Test.YtobamanlfcnilaaLebA
set_option linter.unusedVariables false
namespace Go.Proofs.Ytobamanlfcnilaa
open Go.RowKit Go.PlainAid
theorem tmod_facts (m : Int) (h : m < 0) : ∃ t, m.tmod 128 = t ∧ ((t = 0 ∧ m % 128 = 0) ∨ (t < 0 ∧ -128 < t ∧ m % 128 = t + 128)) := by
  refine ⟨_, rfl, ?_⟩
  have h1 := Int.tmod_eq_emod (a := m) (b := 128)
  rw [h1]
  split <;> omega
theorem tdiv_exact (m g : Int) (h : m % 128 = g) : (m - g).tdiv 128 = m / 128 := by
  have e : m - g = 128 * (m / 128) := by omega
  rw [e, Int.mul_tdiv_cancel_left _ (by omega)]
theorem b8_group {m : Int} : (m % 128) = ((b8 (m % 128).toNat).toNat : Int) := by rw [ofNat_toNat (by omega)]; omega
theorem b8_group2 {m : Int} : (m % 128) + 128 = ((b8 ((m % 128).toNat + 128)).toNat : Int) := by rw [ofNat_toNat (by omega)]; omega
end Go.Proofs.Ytobamanlfcnilaa
