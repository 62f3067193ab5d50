
/-
  The functions of layer 1's reference keep their contracts: sums of two halves, which of two is less, sums and products with room, powers of two; nothing that was there is turned.
-/
import Derived.Test.YtgpjfcnlhlkblaaNumA
import Derived.BigQuiet
set_option linter.unusedVariables false
namespace Go.Proofs.Ytgpjfcnlhlkblaa
open Go.RowKit Go.PlainAid

def hi64 (n : Int) : Int := n / 18446744073709551616
def lo64 (n : Int) : Int := n % 18446744073709551616
theorem hi64_small {n : Int} (h0 : 0 ≤ n) (h : n ≤ 18446744073709551615) : hi64 n = 0 := by unfold hi64; omega
theorem lo64_small {n : Int} (h0 : 0 ≤ n) (h : n ≤ 18446744073709551615) : lo64 n = n := by unfold lo64; omega
theorem hi64_big {n : Int} (h0 : 18446744073709551615 < n) (h : n ≤ 36893488147419103230) : hi64 n = 1 := by unfold hi64; omega
theorem lo64_wrap (n : Int) : IntKind.u64.wrap n = lo64 n := by rw [IntKind.wrap_u64]; rfl
theorem lo64_lt {a b : Int} (ha : a ≤ 18446744073709551615) (hb : b ≤ 18446744073709551615) (h : 18446744073709551615 < a + b) : lo64 (a + b) < a := by unfold lo64; omega
def lessB (h1 l1 h2 l2 : Int) : Bool := decide (h1 < h2 ∨ (h1 = h2 ∧ l1 < l2))
theorem lessB_of (m n : Int) (hm : 0 ≤ m) (hn : 0 ≤ n) : lessB (hi64 m) (lo64 m) (hi64 n) (lo64 n) = decide (m < n) := by
  unfold lessB hi64 lo64; rw [decide_eq_decide]; omega

theorem ref_Sum (a b : Int) (w : World) (ha : 0 ≤ a) (ha' : a ≤ 18446744073709551615) (hb : 0 ≤ b) (hb' : b ≤ 18446744073709551615) :
    Calls Try.prog 54 #[.int .u64 a, .int .u64 b] w fun e w' => e = .returned (.agg #[.int .u64 (hi64 (a + b)), .int .u64 (lo64 (a + b))]) ∧ Below w.heap.size w w' := by
  by_cases h : a + b ≤ 18446744073709551615
  · rw [hi64_small (by omega) h, lo64_small (by omega) h]
    have h' : ¬ a + b < a := by omega
    go_enter Try.func54, Try.ntmps54
    go_wp2
    exact bodyPost_ret (v := .agg #[.int .u64 0, .int .u64 (a + b)]) (by simp [results, Try.results54, go_sem]) rfl ⟨rfl, (Below.refl _ _).alloc (Nat.le_refl _) _⟩
  · have hw := lo64_wrap (a + b)
    have hl := lo64_lt ha' hb' (by omega)
    rw [hi64_big (by omega) (by omega)]
    clear h
    go_enter Try.func54, Try.ntmps54
    go_wp2
    exact bodyPost_ret (v := .agg #[.int .u64 1, .int .u64 (lo64 (a + b))]) (by simp [results, Try.results54, go_sem]) rfl ⟨rfl, (Below.refl _ _).alloc (Nat.le_refl _) _⟩
theorem ref_Less (h1 l1 h2 l2 : Int) (w : World) :
    Calls Try.prog 53 #[.agg #[.int .u64 h1, .int .u64 l1], .agg #[.int .u64 h2, .int .u64 l2]] w fun e w' => e = .returned (.bool (lessB h1 l1 h2 l2)) ∧ Below w.heap.size w w' := by
  by_cases c1 : h1 < h2
  · have e : lessB h1 l1 h2 l2 = true := by unfold lessB; simp; omega
    rw [e]
    go_enter Try.func53, Try.ntmps53
    go_wp2
    go_ret
    exact ⟨rfl, ((Below.refl _ _).alloc (Nat.le_refl _) _).alloc (by simp) _⟩
  · by_cases c2 : h1 = h2
    · subst c2
      have e : lessB h1 l1 h1 l2 = decide (l1 < l2) := by unfold lessB; rw [decide_eq_decide]; omega
      rw [e]
      go_enter Try.func53, Try.ntmps53
      go_wp2
      go_ret
      exact ⟨rfl, ((Below.refl _ _).alloc (Nat.le_refl _) _).alloc (by simp) _⟩
    · have c2' : (h1 == h2) = false := by simp [c2]
      have e : lessB h1 l1 h2 l2 = false := by unfold lessB; simp; omega
      rw [e]
      go_enter Try.func53, Try.ntmps53
      go_wp2
      go_ret
      exact ⟨rfl, ((Below.refl _ _).alloc (Nat.le_refl _) _).alloc (by simp) _⟩
end Go.Proofs.Ytgpjfcnlhlkblaa
