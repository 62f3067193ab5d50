
/-
  The functions of layer 1's reference keep their contracts: sums of two halves, which of two is less, sums and products with room, powers of two; nothing that was there is turned.
-/
import Derived.Test.YtkelipoiopkokabDoorNumA
import Derived.BigQuiet
set_option linter.unusedVariables false
namespace Go.Proofs.YtkelipoiopkokabDoor
open Go.RowKit Go.PlainAid

def hi64 (n : Int) : Int := n / 18446744073709551616
def lo64 (n : Int) : Int := n % 18446744073709551616
theorem hi64_small {n : Int} (h0 : 0 ≤ n) (h : n ≤ 18446744073709551615) : hi64 n = 0 := by unfold hi64; omega
theorem lo64_small {n : Int} (h0 : 0 ≤ n) (h : n ≤ 18446744073709551615) : lo64 n = n := by unfold lo64; omega
theorem hi64_big {n : Int} (h0 : 18446744073709551615 < n) (h : n ≤ 36893488147419103230) : hi64 n = 1 := by unfold hi64; omega
theorem lo64_wrap (n : Int) : IntKind.u64.wrap n = lo64 n := by rw [IntKind.wrap_u64]; rfl
theorem lo64_lt {a b : Int} (ha : a ≤ 18446744073709551615) (hb : b ≤ 18446744073709551615) (h : 18446744073709551615 < a + b) : lo64 (a + b) < a := by unfold lo64; omega
def lessB (h1 l1 h2 l2 : Int) : Bool := decide (h1 < h2 ∨ (h1 = h2 ∧ l1 < l2))
theorem lessB_of (m n : Int) (hm : 0 ≤ m) (hn : 0 ≤ n) : lessB (hi64 m) (lo64 m) (hi64 n) (lo64 n) = decide (m < n) := by
  unfold lessB hi64 lo64; rw [decide_eq_decide]; omega

end Go.Proofs.YtkelipoiopkokabDoor
