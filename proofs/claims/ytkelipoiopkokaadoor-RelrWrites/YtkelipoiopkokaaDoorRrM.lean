
/-
  Layer 13 (relr): places told by words, as plain data.
-/
import Derived.Test.YtkelipoiopkokaaDoorHdM
import Derived.Test.YtkelipoiopkokaaDoorRowB
import Derived.Test.YtkelipoiopkokaaDoorBufD
import Derived.Lib.TrailingZeros
set_option linter.unusedVariables false
namespace Go.Proofs.YtkelipoiopkokaaDoor
open Go.RowKit Go.PlainAid
/-- The places that n bits of a row tell, from bit k + 1 on. -/
def rowP (w f : Nat) : Nat → Nat → List Nat
  | 0, _ => []
  | n + 1, k => (if w / 2 ^ (k + 1) % 2 = 1 then [(f + 8 * k) % 18446744073709551616] else []) ++ rowP w f n (k + 1)
def rowAll (w f : Nat) : List Nat := rowP w f 63 0
/-- One word more. -/
def stepD (acc : List Nat) (f w : Nat) : Option (List Nat × Nat) :=
  if w % 2 = 0 then (if acc.length < 512 ∧ w + 8 < 18446744073709551616 then some (acc ++ [w], w + 8) else none)
  else (if acc ≠ [] ∧ f + 504 < 18446744073709551616 ∧ (acc ++ rowAll w f).length ≤ 512 then some (acc ++ rowAll w f, f + 504) else none)
def decW : List Nat → Nat → List Nat → Option (List Nat)
  | acc, _, [] => some acc
  | acc, f, w :: ws => match stepD acc f w with
    | none => none
    | some (a, g) => decW a g ws
def wordsOf (l : List UInt8) (n : Nat) : List Nat := (List.range n).map fun i => rd l (8 * i) 8
def relrZ (l : List UInt8) : Option (List Nat) := if l.length % 8 = 0 ∧ l.length / 8 ≤ 512 then decW [] 0 (wordsOf l (l.length / 8)) else none
theorem words_drop (l : List UInt8) (n i : Nat) (h : i < n) : (wordsOf l n).drop i = rd l (8 * i) 8 :: (wordsOf l n).drop (i + 1) := by
  have hl : i < (wordsOf l n).length := by simpa [wordsOf] using h
  rw [List.drop_eq_getElem_cons hl]
  simp [wordsOf]
theorem words_end (l : List UInt8) (n : Nat) : (wordsOf l n).drop n = [] := by simp [wordsOf]
theorem rowP_len (w f : Nat) : ∀ n k, (rowP w f n k).length ≤ n
  | 0, _ => by simp [rowP]
  | n + 1, k => by
    have := rowP_len w f n (k + 1)
    unfold rowP
    rw [List.length_append]
    split <;> simp <;> omega
theorem rowP_zero (w f : Nat) : ∀ n k, w / 2 ^ (k + 1) = 0 → rowP w f n k = []
  | 0, _, _ => rfl
  | n + 1, k, h => by
    unfold rowP
    have h2 : w / 2 ^ (k + 1 + 1) = 0 := by rw [Nat.pow_succ, ← Nat.div_div_eq_div_mul, h]
    rw [rowP_zero w f n (k + 1) h2, h]
    simp
theorem rowP_skip (w f : Nat) : ∀ d n k, (∀ j, k ≤ j → j < k + d → w / 2 ^ (j + 1) % 2 = 0) → rowP w f (d + n) k = rowP w f n (k + d)
  | 0, n, k, _ => by simp
  | d + 1, n, k, h => by
    have e : d + 1 + n = (d + n) + 1 := by omega
    have h0 := h k (Nat.le_refl _) (by omega)
    rw [e, rowP, if_neg (by omega), List.nil_append, rowP_skip w f d n (k + 1) (fun j h1 h2 => h j (by omega) (by omega)), show k + 1 + d = k + (d + 1) by omega]
/-- What is left of a word above bit j, its lowest bit taken off. -/
theorem low_bit (w j : Nat) (hw : w < 18446744073709551616) (h0 : w / 2 ^ j * 2 ^ j ≠ 0) :
    ∃ t, Lib.ctz 64 (w / 2 ^ j * 2 ^ j) = t ∧ j ≤ t ∧ t < 64 ∧ w / 2 ^ t % 2 = 1 ∧ (∀ i, j ≤ i → i < t → w / 2 ^ i % 2 = 0) ∧
      (w / 2 ^ j * 2 ^ j) &&& (w / 2 ^ j * 2 ^ j - 1) = w / 2 ^ (t + 1) * 2 ^ (t + 1) := by
  have e64 : (2 : Nat) ^ 64 = 18446744073709551616 := by decide
  obtain ⟨x, hx⟩ : ∃ x, w / 2 ^ j * 2 ^ j = x := ⟨_, rfl⟩
  have hxw : x ≤ w := by rw [← hx]; exact Nat.div_mul_le_self _ _
  rw [hx] at h0 ⊢
  obtain ⟨m, hm, hk⟩ := Lib.ctzFrom_spec 64 x (by omega) (by omega)
  have ec : Lib.ctz 64 x = Lib.ctzFrom 64 x := by simp [Lib.ctz, h0]
  rw [ec]
  generalize Lib.ctzFrom 64 x = t at *
  have hp : ∀ k, 0 < 2 ^ k := fun k => Nat.two_pow_pos k
  have hjt : j ≤ t := by
    apply Nat.le_of_not_lt
    intro hlt
    obtain ⟨d, rfl⟩ : ∃ d, j = t + (d + 1) := ⟨j - t - 1, by omega⟩
    have e1 : 2 ^ t * (2 * m + 1) = 2 ^ t * (2 * (w / 2 ^ (t + (d + 1)) * 2 ^ d)) := by
      rw [← hm, ← hx, Nat.pow_add, Nat.pow_succ]
      generalize w / (2 ^ t * (2 ^ d * 2)) = q
      generalize 2 ^ t = a
      generalize 2 ^ d = b
      rw [Nat.mul_comm b 2, ← Nat.mul_assoc, ← Nat.mul_assoc, Nat.mul_comm q a, Nat.mul_assoc, Nat.mul_assoc, ← Nat.mul_assoc q 2 b, Nat.mul_comm q 2, Nat.mul_assoc]
    have := Nat.eq_of_mul_eq_mul_left (hp t) e1
    omega
  -- above bit j the word and what is left are the same
  have hsame : ∀ i, j ≤ i → w / 2 ^ i = x / 2 ^ i := by
    intro i hi
    obtain ⟨d, rfl⟩ : ∃ d, i = j + d := ⟨i - j, by omega⟩
    rw [← hx, Nat.pow_add, ← Nat.div_div_eq_div_mul, ← Nat.div_div_eq_div_mul, Nat.mul_div_cancel _ (hp j)]
  have hxt : x / 2 ^ t = 2 * m + 1 := by rw [hm, Nat.mul_div_cancel_left _ (hp t)]
  refine ⟨t, rfl, hjt, hk, by rw [hsame t hjt, hxt]; omega, fun i h1 h2 => ?_, ?_⟩
  · obtain ⟨d, rfl⟩ : ∃ d, t = i + (d + 1) := ⟨t - i - 1, by omega⟩
    rw [hsame i h1, hm, Nat.pow_add, Nat.mul_assoc, Nat.mul_div_cancel_left _ (hp i), Nat.pow_succ, Nat.mul_comm (2 ^ d) 2, Nat.mul_assoc]
    omega
  · have e1 : w / 2 ^ (t + 1) * 2 ^ (t + 1) = 2 ^ t * (2 * m) := by
      rw [hsame (t + 1) (by omega), Nat.pow_succ, ← Nat.div_div_eq_div_mul, hxt, show (2 * m + 1) / 2 = m by omega, Nat.mul_comm m, Nat.mul_assoc]
    rw [e1]
    apply Nat.eq_of_testBit_eq
    intro i
    have e2 : x - 1 = 2 ^ t * (2 * m) + (2 ^ t - 1) := by
      have := hp t
      rw [hm, Nat.mul_add, Nat.mul_one]; omega
    rw [Nat.testBit_and, e2, hm]
    by_cases hi : t ≤ i
    · obtain ⟨d, rfl⟩ : ∃ d, i = t + d := ⟨i - t, by omega⟩
      have b1 : (2 ^ t * (2 * m + 1)).testBit (t + d) = (2 * m + 1).testBit d := by
        rw [Nat.mul_comm, Nat.testBit_mul_two_pow]; simp
      have b2 : (2 ^ t * (2 * m)).testBit (t + d) = (2 * m).testBit d := by
        rw [Nat.mul_comm, Nat.testBit_mul_two_pow]; simp
      have b3 : (2 ^ t * (2 * m) + (2 ^ t - 1)).testBit (t + d) = (2 * m).testBit d := by
        rw [Nat.testBit_eq_decide_div_mod_eq, Nat.testBit_eq_decide_div_mod_eq, Nat.pow_add, ← Nat.div_div_eq_div_mul]
        have : (2 ^ t * (2 * m) + (2 ^ t - 1)) / 2 ^ t = 2 * m := by
          rw [Nat.mul_add_div (hp t), Nat.div_eq_of_lt (by have := hp t; omega), Nat.add_zero]
        rw [this]
      rw [b1, b2, b3]
      cases d with
      | zero => simp
      | succ d =>
        rw [Nat.testBit_succ, Nat.testBit_succ, show (2 * m + 1) / 2 = m by omega, show 2 * m / 2 = m by omega]
        simp
    · have b1 : ∀ q, (2 ^ t * q).testBit i = false := by
        intro q; rw [Nat.mul_comm, Nat.testBit_mul_two_pow]; simp; intro h; omega
      rw [b1, b1]; simp
theorem off_one (w : Nat) (h : w % 2 = 1) : w - 1 = w / 2 ^ 1 * 2 ^ 1 := by omega
end Go.Proofs.YtkelipoiopkokaaDoor
