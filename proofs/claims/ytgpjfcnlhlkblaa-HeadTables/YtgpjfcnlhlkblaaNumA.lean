
/-
  The plain functions of layer 1 (num) keep their contracts: each returns, for whatever numbers, what is typed here, and turns nothing in memory.
-/
import Derived.Test.YtgpjfcnlhlkblaaProg
import Derived.Test.YtgpjfcnlhlkblaaMath
import Derived.WalkKit
import Derived.WalkLawsBesides
import Derived.WalkSpells
set_option linter.unusedVariables false
namespace Go.Proofs.Ytgpjfcnlhlkblaa
open Go.RowKit

/-! ### Sums, differences, products -/
theorem num_Add_yes (a b : Int) (w : World) (ha : 0 ≤ a) (hb : 0 ≤ b) (h : a + b ≤ 18446744073709551615) :
    Calls Try.prog 42 #[.int .u64 a, .int .u64 b] w fun e w' => e = .returned (.tuple #[.int .u64 (a + b), .bool true]) ∧ w = w' := by
  have h' : ¬ 18446744073709551615 - b < a := by omega
  go_enter Try.func42, Try.ntmps42
  go_wp2
  go_ret2
  exact ⟨rfl, rfl⟩
theorem num_Add_no (a b : Int) (w : World) (ha : a ≤ 18446744073709551615) (hb : 0 ≤ b) (hb' : b ≤ 18446744073709551615) (h : 18446744073709551615 < a + b) :
    Calls Try.prog 42 #[.int .u64 a, .int .u64 b] w fun e w' => e = .returned (.tuple #[.int .u64 0, .bool false]) ∧ w = w' := by
  have h' : 18446744073709551615 - b < a := by omega
  go_enter Try.func42, Try.ntmps42
  go_wp2
  go_ret2
  exact ⟨rfl, rfl⟩
theorem num_Sub_yes (a b : Int) (w : World) (ha : a ≤ 18446744073709551615) (hb : 0 ≤ b) (h : b ≤ a) :
    Calls Try.prog 51 #[.int .u64 a, .int .u64 b] w fun e w' => e = .returned (.tuple #[.int .u64 (a - b), .bool true]) ∧ w = w' := by
  have h' : ¬ a < b := by omega
  go_enter Try.func51, Try.ntmps51
  go_wp2
  go_ret2
  exact ⟨rfl, rfl⟩
theorem num_Sub_no (a b : Int) (w : World) (h : a < b) :
    Calls Try.prog 51 #[.int .u64 a, .int .u64 b] w fun e w' => e = .returned (.tuple #[.int .u64 0, .bool false]) ∧ w = w' := by
  go_enter Try.func51, Try.ntmps51
  go_wp2
  go_ret2
  exact ⟨rfl, rfl⟩

/-! ### Powers of two, rounding -/
theorem num_Power_yes (n : Int) (w : World) (h : isPow n) :
    Calls Try.prog 59 #[.int .u64 n] w fun e w' => e = .returned (.bool true) ∧ w = w' := by
  have hp := isPow_pos h
  have hb := isPow_bits h
  have h0 : (n != 0) = true := by simp; omega
  clear h
  go_enter Try.func59, Try.ntmps59
  go_wp2
  go_ret
  exact ⟨rfl, rfl⟩
theorem num_Power_no (n : Int) (w : World) (h0 : 0 ≤ n) (h1 : n ≤ 18446744073709551615) (h : ¬ isPow n) :
    Calls Try.prog 59 #[.int .u64 n] w fun e w' => e = .returned (.bool false) ∧ w = w' := by
  by_cases hz : n = 0
  · subst hz
    clear h
    go_enter Try.func59, Try.ntmps59
    go_wp2
    go_ret
    exact ⟨rfl, rfl⟩
  · have hb := not_isPow_bits (by omega) h1 h
    have hz' : (n != 0) = true := by simp; omega
    have h2 : 1 ≤ n := by omega
    clear h
    go_enter Try.func59, Try.ntmps59
    go_wp2
    go_ret
    exact ⟨rfl, rfl⟩
theorem num_Down_yes (n u : Int) (w : World) (h0 : 0 ≤ n) (h1 : n ≤ 18446744073709551615) (hu : isPow u) :
    Calls Try.prog 60 #[.int .u64 n, .int .u64 u] w fun e w' => e = .returned (.tuple #[.int .u64 (n / u * u), .int .i64 0]) ∧ w = w' := by
  have hp := isPow_pos hu
  have hd := down_bits h0 h1 hu
  go_enter Try.func60, Try.ntmps60
  go_wp2_with (go_at_call 59; refine (num_Power_yes _ _ hu).mono ?_; rintro e w' ⟨rfl, rfl⟩)
  go_ret2
  exact ⟨rfl, rfl⟩
theorem num_Down_no (n u : Int) (w : World) (h0 : 0 ≤ u) (h1 : u ≤ 18446744073709551615) (hu : ¬ isPow u) :
    Calls Try.prog 60 #[.int .u64 n, .int .u64 u] w fun e w' => e = .returned (.tuple #[.int .u64 0, .int .i64 11]) ∧ w = w' := by
  go_enter Try.func60, Try.ntmps60
  go_wp2_with (go_at_call 59; refine (num_Power_no _ _ h0 h1 hu).mono ?_; rintro e w' ⟨rfl, rfl⟩)
  go_ret2
  exact ⟨rfl, rfl⟩
theorem num_Up_yes (n u : Int) (w : World) (h0 : 0 ≤ n) (hu : isPow u) (h : n + (u - 1) ≤ 18446744073709551615) :
    Calls Try.prog 45 #[.int .u64 n, .int .u64 u] w fun e w' => e = .returned (.tuple #[.int .u64 ((n + (u - 1)) / u * u), .int .i64 0]) ∧ w = w' := by
  have hp := isPow_pos hu
  go_enter Try.func45, Try.ntmps45
  go_wp2_with (first
    | (go_at_call 59; refine (num_Power_yes _ _ hu).mono ?_; rintro e w' ⟨rfl, rfl⟩)
    | (go_at_call 42; refine (num_Add_yes _ _ _ (by omega) (by omega) (by omega)).mono ?_; rintro e w' ⟨rfl, rfl⟩)
    | (go_at_call 60; refine (num_Down_yes _ _ _ (by omega) (by omega) hu).mono ?_; rintro e w' ⟨rfl, rfl⟩))
  go_ret2
  exact ⟨rfl, rfl⟩
theorem num_Up_over (n u : Int) (w : World) (h0 : 0 ≤ n) (h1 : n ≤ 18446744073709551615) (hu : isPow u) (h : 18446744073709551615 < n + (u - 1)) :
    Calls Try.prog 45 #[.int .u64 n, .int .u64 u] w fun e w' => e = .returned (.tuple #[.int .u64 0, .int .i64 10]) ∧ w = w' := by
  have hp := isPow_pos hu
  go_enter Try.func45, Try.ntmps45
  go_wp2_with (first
    | (go_at_call 59; refine (num_Power_yes _ _ hu).mono ?_; rintro e w' ⟨rfl, rfl⟩)
    | (go_at_call 42; refine (num_Add_no _ _ _ (by omega) (by omega) (by omega) (by omega)).mono ?_; rintro e w' ⟨rfl, rfl⟩))
  go_ret2
  exact ⟨rfl, rfl⟩
theorem num_Up_no (n u : Int) (w : World) (h0 : 0 ≤ u) (h1 : u ≤ 18446744073709551615) (hu : ¬ isPow u) :
    Calls Try.prog 45 #[.int .u64 n, .int .u64 u] w fun e w' => e = .returned (.tuple #[.int .u64 0, .int .i64 11]) ∧ w = w' := by
  go_enter Try.func45, Try.ntmps45
  go_wp2_with (go_at_call 59; refine (num_Power_no _ _ h0 h1 hu).mono ?_; rintro e w' ⟨rfl, rfl⟩)
  go_ret2
  exact ⟨rfl, rfl⟩

/-! ### Rows of bytes -/
def inB (a s f r : Int) : Bool := decide (f ≤ a ∧ a + s ≤ f + r)
def apB (a s f r : Int) : Bool := decide (s = 0 ∨ r = 0 ∨ a + s ≤ f ∨ f + r ≤ a)
theorem num_Inside (a s f r : Int) (w : World) (ha : 0 ≤ a) (ha' : a ≤ 18446744073709551615) (hs : 0 ≤ s) (hf : 0 ≤ f) (hr : 0 ≤ r) (hr' : r ≤ 18446744073709551615) :
    Calls Try.prog 32 #[.int .u64 a, .int .u64 s, .int .u64 f, .int .u64 r] w fun e w' => e = .returned (.bool (inB a s f r)) ∧ w = w' := by
  by_cases h1 : a < f
  · have e : inB a s f r = false := by unfold inB; simp; omega
    rw [e]
    go_enter Try.func32, Try.ntmps32
    go_wp2_with (go_at_call 51; refine (num_Sub_no _ _ _ h1).mono ?_; rintro e w' ⟨rfl, rfl⟩)
    go_ret
    exact ⟨rfl, rfl⟩
  · by_cases h2 : r < a - f
    · have e : inB a s f r = false := by unfold inB; simp; omega
      rw [e]
      go_enter Try.func32, Try.ntmps32
      go_wp2_with fail
      refine (num_Sub_yes _ _ _ (by omega) (by omega) (by omega)).mono ?_
      rintro e w' ⟨rfl, rfl⟩
      go_wp2_with fail
      refine (num_Sub_no _ _ _ h2).mono ?_
      rintro e w' ⟨rfl, rfl⟩
      go_wp2
      go_ret
      exact ⟨rfl, rfl⟩
    · have e : inB a s f r = decide (s ≤ r - (a - f)) := by unfold inB; rw [decide_eq_decide]; omega
      rw [e]
      go_enter Try.func32, Try.ntmps32
      go_wp2_with fail
      refine (num_Sub_yes _ _ _ (by omega) (by omega) (by omega)).mono ?_
      rintro e w' ⟨rfl, rfl⟩
      go_wp2_with fail
      refine (num_Sub_yes _ _ _ (by omega) (by omega) (by omega)).mono ?_
      rintro e w' ⟨rfl, rfl⟩
      go_wp2
      go_ret
      exact ⟨rfl, rfl⟩
end Go.Proofs.Ytgpjfcnlhlkblaa
