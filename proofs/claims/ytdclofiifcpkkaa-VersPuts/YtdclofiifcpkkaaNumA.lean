
/-
  The plain functions of layer 1 (num) keep their contracts: each returns, for whatever numbers, what is typed here, and turns nothing in memory.
-/
import Derived.Test.YtdclofiifcpkkaaProg
import Derived.Test.YtdclofiifcpkkaaMath
import Derived.WalkKit
import Derived.WalkLawsBesides
import Derived.WalkSpells
set_option linter.unusedVariables false
namespace Go.Proofs.Ytdclofiifcpkkaa
open Go.RowKit

/-! ### Sums, differences, products -/
theorem num_Add_yes (a b : Int) (w : World) (ha : 0 ≤ a) (hb : 0 ≤ b) (h : a + b ≤ 18446744073709551615) :
    Calls Try.prog 70 #[.int .u64 a, .int .u64 b] w fun e w' => e = .returned (.tuple #[.int .u64 (a + b), .bool true]) ∧ w = w' := by
  have h' : ¬ 18446744073709551615 - b < a := by omega
  go_enter Try.func70, Try.ntmps70
  go_wp2
  go_ret2
  exact ⟨rfl, rfl⟩
theorem num_Add_no (a b : Int) (w : World) (ha : a ≤ 18446744073709551615) (hb : 0 ≤ b) (hb' : b ≤ 18446744073709551615) (h : 18446744073709551615 < a + b) :
    Calls Try.prog 70 #[.int .u64 a, .int .u64 b] w fun e w' => e = .returned (.tuple #[.int .u64 0, .bool false]) ∧ w = w' := by
  have h' : 18446744073709551615 - b < a := by omega
  go_enter Try.func70, Try.ntmps70
  go_wp2
  go_ret2
  exact ⟨rfl, rfl⟩
theorem num_Sub_yes (a b : Int) (w : World) (ha : a ≤ 18446744073709551615) (hb : 0 ≤ b) (h : b ≤ a) :
    Calls Try.prog 82 #[.int .u64 a, .int .u64 b] w fun e w' => e = .returned (.tuple #[.int .u64 (a - b), .bool true]) ∧ w = w' := by
  have h' : ¬ a < b := by omega
  go_enter Try.func82, Try.ntmps82
  go_wp2
  go_ret2
  exact ⟨rfl, rfl⟩
theorem num_Sub_no (a b : Int) (w : World) (h : a < b) :
    Calls Try.prog 82 #[.int .u64 a, .int .u64 b] w fun e w' => e = .returned (.tuple #[.int .u64 0, .bool false]) ∧ w = w' := by
  go_enter Try.func82, Try.ntmps82
  go_wp2
  go_ret2
  exact ⟨rfl, rfl⟩

/-! ### Powers of two, rounding -/
/-! ### Rows of bytes -/
def inB (a s f r : Int) : Bool := decide (f ≤ a ∧ a + s ≤ f + r)
def apB (a s f r : Int) : Bool := decide (s = 0 ∨ r = 0 ∨ a + s ≤ f ∨ f + r ≤ a)
theorem num_Inside (a s f r : Int) (w : World) (ha : 0 ≤ a) (ha' : a ≤ 18446744073709551615) (hs : 0 ≤ s) (hf : 0 ≤ f) (hr : 0 ≤ r) (hr' : r ≤ 18446744073709551615) :
    Calls Try.prog 69 #[.int .u64 a, .int .u64 s, .int .u64 f, .int .u64 r] w fun e w' => e = .returned (.bool (inB a s f r)) ∧ w = w' := by
  by_cases h1 : a < f
  · have e : inB a s f r = false := by unfold inB; simp; omega
    rw [e]
    go_enter Try.func69, Try.ntmps69
    go_wp2_with (go_at_call 82; refine (num_Sub_no _ _ _ h1).mono ?_; rintro e w' ⟨rfl, rfl⟩)
    go_ret
    exact ⟨rfl, rfl⟩
  · by_cases h2 : r < a - f
    · have e : inB a s f r = false := by unfold inB; simp; omega
      rw [e]
      go_enter Try.func69, Try.ntmps69
      go_wp2_with fail
      refine (num_Sub_yes _ _ _ (by omega) (by omega) (by omega)).mono ?_
      rintro e w' ⟨rfl, rfl⟩
      go_wp2_with fail
      refine (num_Sub_no _ _ _ h2).mono ?_
      rintro e w' ⟨rfl, rfl⟩
      go_wp2
      go_ret
      exact ⟨rfl, rfl⟩
    · have e : inB a s f r = decide (s ≤ r - (a - f)) := by unfold inB; rw [decide_eq_decide]; omega
      rw [e]
      go_enter Try.func69, Try.ntmps69
      go_wp2_with fail
      refine (num_Sub_yes _ _ _ (by omega) (by omega) (by omega)).mono ?_
      rintro e w' ⟨rfl, rfl⟩
      go_wp2_with fail
      refine (num_Sub_yes _ _ _ (by omega) (by omega) (by omega)).mono ?_
      rintro e w' ⟨rfl, rfl⟩
      go_wp2
      go_ret
      exact ⟨rfl, rfl⟩
end Go.Proofs.Ytdclofiifcpkkaa
