
/-
  The reference of layer 3: number keeps its contract (what a row of 64 bits says).
-/
import Derived.Test.YtiicmakeoidiaaaLebM
import Derived.Test.YtiicmakeoidiaaaRdF
set_option linter.unusedVariables false
namespace Go.Proofs.Ytiicmakeoidiaaa
open Go.RowKit Go.PlainAid
/-- What bits say, the lowest first. -/
def nb : List Bool → Nat
  | [] => 0
  | b :: t => b.toNat + 2 * nb t
theorem nb_lt : ∀ l : List Bool, nb l < 2 ^ l.length
  | [] => by simp [nb]
  | b :: t => by
    have := nb_lt t
    have hb : b.toNat ≤ 1 := Bool.toNat_le b
    simp only [nb, List.length_cons, Nat.pow_succ]
    omega
theorem nb_drop (l : List Bool) (k : Nat) (h : k < l.length) : nb (l.drop k) = (l.getD k false).toNat + 2 * nb (l.drop (k + 1)) := by
  rw [List.drop_eq_getElem_cons h, nb]
  congr 2
  simp [List.getD, List.getElem?_eq_getElem h]
theorem nb_drop_lt (l : List Bool) (k : Nat) (hl : l.length = 64) : nb (l.drop k) < 2 ^ (64 - k) := by
  have := nb_lt (l.drop k)
  rwa [List.length_drop, hl] at this
end Go.Proofs.Ytiicmakeoidiaaa
