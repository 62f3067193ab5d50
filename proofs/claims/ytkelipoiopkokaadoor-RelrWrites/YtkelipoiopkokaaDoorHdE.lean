
/-
  Layer 8 (head): which headers are of a type, whether parts may be, whether bytes lie in one; pages; bytes of memory out of the file.
-/
import Derived.Test.YtkelipoiopkokaaDoorHdD
import Derived.Lib.QuietBelow
set_option linter.unusedVariables false
namespace Go.Proofs.YtkelipoiopkokaaDoor
open Go.RowKit Go.PlainAid
theorem endN_le (p : Ph) : endN p ≤ 18446744073709551615 := by unfold endN; split <;> omega
theorem Own.low {w : World} {B C : Nat} {v : Value} {l : List UInt8} (h : Own w B v l) (hb : C ≤ B) : Own w C v l := by
  unfold Own at h ⊢
  refine ⟨h.1, ?_⟩
  rcases h.2 with hn | ⟨g, cap, cur, rfl, hB, rest⟩
  · exact .inl hn
  · exact .inr ⟨g, cap, cur, rfl, Nat.le_trans hb hB, rest⟩
def partZ (l : List UInt8) (ps : List Ph) (x s : Nat) : List UInt8 × Bool :=
  if (offN ps x s).2 = true ∧ (offN ps x s).1 + s ≤ l.length then (win l (offN ps x s).1 s, true) else ([], false)
theorem offN_le (ps : List Ph) (x s : Nat) : (offN ps x s).1 ≤ 18446744073709551615 := by
  induction ps with
  | nil => simp [offN]
  | cons p t ih =>
    rw [offN]
    split
    · split
      · assumption
      · simp
    · exact ih
end Go.Proofs.YtkelipoiopkokaaDoor
