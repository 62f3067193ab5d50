
/-
  Rows of bytes (num.Inside, num.Pages); the pages that bytes touch.
-/
import Derived.Test.YtdecbnmibjcnaaaVmC
set_option linter.unusedVariables false
namespace Go.Proofs.Ytdecbnmibjcnaaa
open Go.RowKit Go.PlainAid Go.Sort
theorem num_Sub_yes (a b : Int) (w : World) (ha : a ≤ 18446744073709551615) (hb : 0 ≤ b) (h : b ≤ a) :
    Calls Try.prog 59 #[.int .u64 a, .int .u64 b] w fun e w' => e = .returned (.tuple #[.int .u64 (a - b), .bool true]) ∧ w = w' := by
  have h' : ¬ a < b := by omega
  go_enter Try.func59, Try.ntmps59
  go_wp2
  go_ret2
  exact ⟨rfl, rfl⟩
theorem num_Sub_no (a b : Int) (w : World) (h : a < b) :
    Calls Try.prog 59 #[.int .u64 a, .int .u64 b] w fun e w' => e = .returned (.tuple #[.int .u64 0, .bool false]) ∧ w = w' := by
  go_enter Try.func59, Try.ntmps59
  go_wp2
  go_ret2
  exact ⟨rfl, rfl⟩
def inB (a s f r : Int) : Bool := decide (f ≤ a ∧ a + s ≤ f + r)
theorem num_Inside (a s f r : Int) (w : World) (ha : 0 ≤ a) (ha' : a ≤ 18446744073709551615) (hs : 0 ≤ s) (hf : 0 ≤ f) (hr : 0 ≤ r) (hr' : r ≤ 18446744073709551615) :
    Calls Try.prog 52 #[.int .u64 a, .int .u64 s, .int .u64 f, .int .u64 r] w fun e w' => e = .returned (.bool (inB a s f r)) ∧ w = w' := by
  by_cases h1 : a < f
  · have e : inB a s f r = false := by unfold inB; simp; omega
    rw [e]
    go_enter Try.func52, Try.ntmps52
    go_wp2_with (go_at_call 59; refine (num_Sub_no _ _ _ h1).mono ?_; rintro e w' ⟨rfl, rfl⟩)
    go_ret
    exact ⟨rfl, rfl⟩
  · by_cases h2 : r < a - f
    · have e : inB a s f r = false := by unfold inB; simp; omega
      rw [e]
      go_enter Try.func52, Try.ntmps52
      go_wp2_with fail
      refine (num_Sub_yes _ _ _ (by omega) (by omega) (by omega)).mono ?_
      rintro e w' ⟨rfl, rfl⟩
      go_wp2_with fail
      refine (num_Sub_no _ _ _ h2).mono ?_
      rintro e w' ⟨rfl, rfl⟩
      go_wp2
      go_ret
      exact ⟨rfl, rfl⟩
    · have e : inB a s f r = decide (s ≤ r - (a - f)) := by unfold inB; rw [decide_eq_decide]; omega
      rw [e]
      go_enter Try.func52, Try.ntmps52
      go_wp2_with fail
      refine (num_Sub_yes _ _ _ (by omega) (by omega) (by omega)).mono ?_
      rintro e w' ⟨rfl, rfl⟩
      go_wp2_with fail
      refine (num_Sub_yes _ _ _ (by omega) (by omega) (by omega)).mono ?_
      rintro e w' ⟨rfl, rfl⟩
      go_wp2
      go_ret
      exact ⟨rfl, rfl⟩
theorem num_Pages (n : Nat) (w : World) (h1 : (n : Int) ≤ 18446744073709551000) :
    Calls Try.prog 54 #[.int .u64 n] w fun e w' => e = .returned (.int .u64 (((n + 255) / 256 : Nat) : Int)) ∧ w = w' := by
  by_cases h : n % 256 = 0
  · have e : ((n : Int) % 256 == 0) = true := by rw [beq_iff_eq]; omega
    have e2 : (((n + 255) / 256 : Nat) : Int) = (n : Int) / 256 := by omega
    rw [e2]
    go_enter Try.func54, Try.ntmps54
    go_wp2
    go_ret
    exact ⟨rfl, rfl⟩
  · have e : ((n : Int) % 256 == 0) = false := by rw [beq_eq_false_iff_ne]; omega
    have e2 : (((n + 255) / 256 : Nat) : Int) = (n : Int) / 256 + 1 := by omega
    rw [e2]
    go_enter Try.func54, Try.ntmps54
    go_wp2
    go_ret
    exact ⟨rfl, rfl⟩
/-- The room in which so many bytes lie. -/
def hit (l : List Rm) (a n : Nat) : Option Rm := if begun l a = 0 then none else match l[begun l a - 1]? with
  | some r => if a + n ≤ r.fin then some r else none
  | none => none
def Rm.lo (r : Rm) (a : Nat) : Nat := (a - r.pos) / 256
def Rm.hi (r : Rm) (a n : Nat) : Nat := (a - r.pos + n + 255) / 256
/-- The slice of the pages from lo to hi. -/
def Rm.seg (r : Rm) (lo hi : Nat) : Value := .slice (some ⟨r.blk, lo * 258, none⟩) (hi - lo) (r.cap - lo)
def touV (l : List Rm) (a n : Nat) : Value := match hit l a n with
  | none => .tuple #[.slice none 0 0, .bool false]
  | some r => if n = 0 then .tuple #[.slice none 0 0, .bool true] else .tuple #[r.seg (r.lo a) (r.hi a n), .bool true]
theorem touV_none {l : List Rm} {a n : Nat} (h : hit l a n = none) : touV l a n = .tuple #[.slice none 0 0, .bool false] := by unfold touV; rw [h]
theorem touV_zero {l : List Rm} {a : Nat} {r : Rm} (h : hit l a 0 = some r) : touV l a 0 = .tuple #[.slice none 0 0, .bool true] := by unfold touV; rw [h]; rfl
theorem touV_some {l : List Rm} {a n : Nat} {r : Rm} (h : hit l a n = some r) (hn : n ≠ 0) : touV l a n = .tuple #[r.seg (r.lo a) (r.hi a n), .bool true] := by unfold touV; rw [h]; simp [hn]
theorem hit_begun0 {l : List Rm} {a n : Nat} (h : begun l a = 0) : hit l a n = none := by unfold hit; rw [if_pos h]
theorem hit_at {l : List Rm} {a n : Nat} (h : begun l a ≠ 0) (hi : begun l a - 1 < l.length) : hit l a n = if a + n ≤ l[begun l a - 1].fin then some l[begun l a - 1] else none := by
  unfold hit; rw [if_neg h, List.getElem?_eq_getElem hi]
end Go.Proofs.Ytdecbnmibjcnaaa
