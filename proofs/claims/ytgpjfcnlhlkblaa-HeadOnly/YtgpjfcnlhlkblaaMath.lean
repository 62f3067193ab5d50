
/-
  Plain facts on numbers and bits that the walks over layer 1 lean on; no program is in sight here.
-/
import Derived.WalkKit
import Derived.PlainAid
import Derived.Lib.Mul64
import Derived.Deep.QuietTactic
set_option linter.unusedVariables false
namespace Go.Proofs.Ytgpjfcnlhlkblaa
open Go.RowKit

theorem bel_drewN {B : Nat} {a w : World} (h : Below B a w) (n : Nat) : Below B a (w.drewN n) := h.trans ⟨rfl, rfl, rfl, Nat.le_refl _, fun _ _ => rfl⟩

/-! ### Powers of two -/
theorem and_pred_pow (k : Nat) : 2 ^ k &&& (2 ^ k - 1) = 0 := by
  rw [Nat.and_two_pow_sub_one_eq_mod]; exact Nat.mod_self _

theorem pow_of_and_pred : ∀ (f n : Nat), n ≤ f → n ≠ 0 → n &&& (n - 1) = 0 → ∃ k, n = 2 ^ k
  | 0, n, h, h0, _ => absurd (Nat.le_zero.mp h) h0
  | f + 1, n, h, h0, ha => by
    have hd : (n &&& (n - 1)) / 2 = n / 2 &&& (n - 1) / 2 := Nat.and_div_two
    rw [ha] at hd
    by_cases hodd : n % 2 = 1
    · have e : (n - 1) / 2 = n / 2 := by omega
      rw [e, Nat.and_self] at hd
      exact ⟨0, by simp; omega⟩
    · have e : (n - 1) / 2 = n / 2 - 1 := by omega
      rw [e] at hd
      obtain ⟨k, hk⟩ := pow_of_and_pred f (n / 2) (by omega) (by omega) (by simpa using hd.symm)
      exact ⟨k + 1, by rw [Nat.pow_succ]; omega⟩

/-- A power of two among the numbers of 64 bits. -/
def isPow (n : Int) : Prop := ∃ k : Nat, k < 64 ∧ n = ((2 ^ k : Nat) : Int)

theorem pow_lt64 {k : Nat} (h : k < 64) : 2 ^ k < 18446744073709551616 := by
  have := Nat.pow_lt_pow_right (a := 2) (by omega) h
  simpa using this
theorem lt64_of_pow {k : Nat} (h : 2 ^ k < 18446744073709551616) : k < 64 := by
  apply Nat.lt_of_not_le; intro hk
  have : 2 ^ 64 ≤ 2 ^ k := Nat.pow_le_pow_right (by omega) hk
  omega

theorem isPow_pos {n : Int} (h : isPow n) : 1 ≤ n ∧ n ≤ 9223372036854775808 := by
  obtain ⟨k, hk, rfl⟩ := h
  have h1 : 0 < 2 ^ k := Nat.two_pow_pos k
  have h2 : 2 ^ k ≤ 2 ^ 63 := Nat.pow_le_pow_right (by omega) (by omega)
  exact ⟨by omega, by omega⟩

theorem isPow_bits {n : Int} (h : isPow n) : (bits .and .u64 n (n - 1) == 0) = true := by
  obtain ⟨k, hk, rfl⟩ := h
  have h1 : 0 < 2 ^ k := Nat.two_pow_pos k
  have h2 := pow_lt64 hk
  have e : ((2 ^ k : Nat) : Int) - 1 = ((2 ^ k - 1 : Nat) : Int) := by omega
  rw [e, bits_and_u64_nat _ _ h2 (by omega), and_pred_pow]; rfl

theorem not_isPow_bits {n : Int} (h0 : 1 ≤ n) (h1 : n ≤ 18446744073709551615) (h : ¬ isPow n) : (bits .and .u64 n (n - 1) == 0) = false := by
  obtain ⟨m, rfl⟩ := Int.eq_ofNat_of_zero_le (show 0 ≤ n by omega)
  have e : ((m : Nat) : Int) - 1 = ((m - 1 : Nat) : Int) := by omega
  rw [e, bits_and_u64_nat _ _ (by omega) (by omega)]
  have hne : m &&& (m - 1) ≠ 0 := by
    intro ha
    obtain ⟨k, hk⟩ := pow_of_and_pred m m (Nat.le_refl _) (by omega) ha
    exact h ⟨k, lt64_of_pow (by rw [← hk]; omega), by rw [hk]⟩
  simp; omega

/-! ### Rounding down -/
theorem and_high (n k : Nat) (hn : n < 2 ^ 64) (hk : k < 64) : n &&& (2 ^ 64 - 1 - (2 ^ k - 1)) = n / 2 ^ k * 2 ^ k := by
  apply Nat.eq_of_testBit_eq
  intro i
  have hp : 2 ^ k - 1 < 2 ^ 64 := by have := pow_lt64 hk; omega
  have e : 2 ^ 64 - 1 - (2 ^ k - 1) = 2 ^ 64 - ((2 ^ k - 1) + 1) := by omega
  rw [Nat.testBit_and, e, Nat.testBit_two_pow_sub_succ hp, Nat.testBit_two_pow_sub_one, Nat.testBit_mul_two_pow, Nat.testBit_div_two_pow]
  by_cases hi : i < k
  · simp [hi, Nat.not_le.mpr hi]
  · have hki : k ≤ i := by omega
    by_cases h64 : i < 64
    · simp [hki, hi, h64]
    · have : n.testBit i = false := Nat.testBit_lt_two_pow (Nat.lt_of_lt_of_le hn (Nat.pow_le_pow_right (by omega) (by omega)))
      simp [hki, hi, h64, this]

theorem down_bits {n u : Int} (hn0 : 0 ≤ n) (hn1 : n ≤ 18446744073709551615) (hu : isPow u) : bits .andNot .u64 n (u - 1) = n / u * u := by
  obtain ⟨k, hk, rfl⟩ := hu
  obtain ⟨m, rfl⟩ := Int.eq_ofNat_of_zero_le hn0
  have h1 : 0 < 2 ^ k := Nat.two_pow_pos k
  have h2 := pow_lt64 hk
  have e : ((2 ^ k : Nat) : Int) - 1 = ((2 ^ k - 1 : Nat) : Int) := by omega
  have hm : m < 18446744073709551616 := by omega
  have ha := and_high m k (by simpa using hm) hk
  rw [e, u64_andNot_nat _ _ hm (by omega)]
  have e2 : (18446744073709551615 : Nat) - (2 ^ k - 1) = 2 ^ 64 - 1 - (2 ^ k - 1) := by simp
  rw [e2, ha]
  simp

/-! ### A product, bit by bit -/
theorem mul_odd (p N Q b : Nat) (h : p = N + Q * b) (hb : b % 2 = 1) : p = (N + Q) + (Q + Q) * (b / 2) := by
  have e : b = 2 * (b / 2) + 1 := by omega
  have e2 : Q * b = (Q + Q) * (b / 2) + Q := by
    conv => lhs; rw [e]
    rw [Nat.mul_add, Nat.mul_one, Nat.add_mul, Nat.mul_left_comm]
    omega
  omega
theorem mul_even (p N Q b : Nat) (h : p = N + Q * b) (hb : b % 2 = 0) : p = N + (Q + Q) * (b / 2) := by
  have e : b = 2 * (b / 2) := by omega
  have e2 : Q * b = (Q + Q) * (b / 2) := by
    conv => lhs; rw [e]
    rw [Nat.add_mul, Nat.mul_left_comm]
    omega
  omega
end Go.Proofs.Ytgpjfcnlhlkblaa
