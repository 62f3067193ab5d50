
/-
  The reference's Put, Zeros and To keep their contracts.
-/
import Derived.Test.YtdclofiifcpkkaaBufD
set_option linter.unusedVariables false
namespace Go.Proofs.Ytdclofiifcpkkaa
open Go.RowKit Go.PlainAid
/-- Only the row's own block and new blocks have turned, and the row lies where it lay, or in a new block. -/
def Gx (w w' : World) (v v' : Value) : Prop := w.grownBy w' v.ownBlock ∧ Nx w v.ownBlock v'.ownBlock
theorem Gx.refl (w : World) (v : Value) : Gx w w v v := ⟨World.grownBy.refl _ _, Nx.refl _ _⟩
theorem Gx.trans {a b c : World} {v v' v2 : Value} (h : Gx a b v v') (k : Gx b c v' v2) : Gx a c v v2 := by
  refine ⟨⟨k.1.os.trans h.1.os, k.1.tape.trans h.1.tape, k.1.output.trans h.1.output, Nat.le_trans h.1.size k.1.size, fun j hj ho => ?_⟩, h.2.trans h.1.size k.2⟩
  rw [k.1.block j (Nat.lt_of_lt_of_le hj h.1.size) ?_, h.1.block j hj ho]
  rcases h.2 with e | ⟨q, e, hq⟩
  · rw [e]; exact ho
  · rw [e]; intro e2; have := Option.some.inj e2; omega
theorem to_stop {n t u : Nat} (hu : 0 < u) (ht : t ≤ toN n u) : ((n + t) % u ≠ 0 → t < toN n u) ∧ ((n + t) % u = 0 → t = toN n u) := by
  have h1 := toN_lt n u hu
  have e : n + toN n u = (n + (u - 1)) / u * u := by unfold toN; omega
  have h2 : (n + toN n u) % u = 0 := by rw [e]; exact Nat.mul_mod_left _ _
  have h3 : toN n u < u := by unfold toN; omega
  constructor
  · intro h
    rcases Nat.lt_or_ge t (toN n u) with q | q
    · exact q
    · have : t = toN n u := by omega
      subst this; exact absurd h2 h
  · intro h
    obtain ⟨a, ha⟩ := Nat.dvd_of_mod_eq_zero h
    obtain ⟨b, hb⟩ := Nat.dvd_of_mod_eq_zero h2
    rcases Nat.lt_or_ge a b with q | q
    · have : u * (a + 1) ≤ u * b := Nat.mul_le_mul_left u q
      rw [Nat.mul_add] at this
      omega
    · have : u * b ≤ u * a := Nat.mul_le_mul_left u q
      omega
/-- p is a power of 2, and the one below it lies below the unit. -/
def PowUp (u : Int) (p : Nat) : Prop := ∃ j, j ≤ 18 ∧ p = 2 ^ j ∧ (j = 0 ∨ ((2 ^ (j - 1) : Nat) : Int) < u)
theorem PowUp.le {u : Int} {p : Nat} (h : PowUp u p) : 1 ≤ p ∧ p ≤ 262144 := by
  obtain ⟨j, h1, rfl, _⟩ := h
  have a : 2 ^ j ≤ 2 ^ 18 := Nat.pow_le_pow_right (by omega) h1
  have b := Nat.two_pow_pos j
  have e : (2 : Nat) ^ 18 = 262144 := by decide
  omega
theorem PowUp.step {u : Int} {p : Nat} (h : PowUp u p) (h1 : (p : Int) < u) (h2 : p < 262144) : PowUp u (p * 2) := by
  obtain ⟨j, hj, rfl, _⟩ := h
  have hj2 : j < 18 := by
    rcases Nat.lt_or_ge j 18 with q | q
    · exact q
    · have : j = 18 := by omega
      subst this
      have e : (2 : Nat) ^ 18 = 262144 := by decide
      omega
  exact ⟨j + 1, by omega, by rw [Nat.pow_succ], .inr (by simpa using h1)⟩
theorem PowUp.ends {u : Int} {p : Nat} (h : PowUp u p) (hp : u ≤ (p : Int)) : (u = p → isPow u ∧ u ≤ 262144) ∧ (u ≠ p → ¬ (isPow u ∧ u ≤ 262144)) := by
  have hle := h.le
  obtain ⟨j, hj, rfl, h3⟩ := h
  constructor
  · intro e
    exact ⟨⟨j, by omega, e⟩, by omega⟩
  · rintro hne ⟨⟨m, hm, rfl⟩, _⟩
    apply hne
    have hmj : m ≤ j := by
      rcases Nat.lt_or_ge j m with q | q
      · have : 2 ^ j < 2 ^ m := Nat.pow_lt_pow_right (by omega) q
        omega
      · exact q
    rcases h3 with rfl | h3
    · have : m = 0 := by omega
      subst this; rfl
    · have : j - 1 < m := by
        rcases Nat.lt_or_ge (j - 1) m with q | q
        · exact q
        · have : 2 ^ m ≤ 2 ^ (j - 1) := Nat.pow_le_pow_right (by omega) q
          omega
      have : m = j := by omega
      rw [this]
def slen : Value → Nat
  | .slice _ n _ => n
  | _ => 0
end Go.Proofs.Ytdclofiifcpkkaa
