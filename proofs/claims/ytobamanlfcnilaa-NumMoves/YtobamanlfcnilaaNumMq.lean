/-
  The ways through NumMoves: it returns true, and nothing that was there is turned.
-/
import Derived.Test.YtobamanlfcnilaaNumL
import Derived.Lib.QuietBelow
set_option linter.unusedVariables false
namespace Go.Proofs.Ytobamanlfcnilaa
namespace LNumMoves
open Go.ChangeShapes Go.WideShapes Go.ChangeAt Go.RowKit Go.PlainAid Go.Sort
attribute [local go_sem ↓] Go.wp_at_zero Go.wp_at_succ
theorem q_same {F : FuncId} {args : Array Value} {W : World} {d : Nat} {os : Array Obj} {v : Value} (h : Calls Try.prog F args (grow (redrawn W d) os) fun e w' => e = .returned v ∧ grow (redrawn W d) os = w') :
    Calls Try.prog F args (grow (redrawn W d) os) fun e w'' => e = .returned v ∧ ∃ p : Regrown, w'' = grow (redrawn W p.d) p.os :=
  h.mono fun _ _ ⟨he, hw⟩ => ⟨he, ⟨d, os⟩, hw.symm⟩
theorem q_Inside (x s y r : Int) (W : World) (d : Nat) (os : Array Obj) (h1 : 0 ≤ x) (h2 : x ≤ 18446744073709551615) (h3 : 0 ≤ y) (h4 : y ≤ 18446744073709551615) (s0 : 0 ≤ s) (s1 : s ≤ 18446744073709551615) (r0 : 0 ≤ r) (r1 : r ≤ 18446744073709551615) :
    Calls Try.prog 6 #[.int .u64 x, .int .u64 s, .int .u64 y, .int .u64 r] (grow (redrawn W d) os) fun e w'' => e = .returned (.bool (inB x s y r)) ∧ ∃ p : Regrown, w'' = grow (redrawn W p.d) p.os :=
  q_same (num_Inside x s y r (grow (redrawn W d) os) (by omega) (by omega) (by omega) (by omega) (by omega) (by omega))
theorem q_Apart (x s y r : Int) (W : World) (d : Nat) (os : Array Obj) (h1 : 0 ≤ x) (h2 : x ≤ 18446744073709551615) (h3 : 0 ≤ y) (h4 : y ≤ 18446744073709551615) (s0 : 0 ≤ s) (s1 : s ≤ 18446744073709551615) (r0 : 0 ≤ r) (r1 : r ≤ 18446744073709551615) :
    Calls Try.prog 7 #[.int .u64 x, .int .u64 s, .int .u64 y, .int .u64 r] (grow (redrawn W d) os) fun e w'' => e = .returned (.bool (apB x s y r)) ∧ ∃ p : Regrown, w'' = grow (redrawn W p.d) p.os :=
  q_same (num_Apart x s y r (grow (redrawn W d) os) (by omega) (by omega) (by omega) (by omega) (by omega) (by omega))
theorem q_cell (w : World) (cs : Array Value) (T : TypeId) (k : Nat) (v : Value) (h : cs[k]? = some v) (d : Nat) (os : Array Obj) : (grow (redrawn (w.alloc (.cells cs T)) d) os).cell? ⟨w.heap.size, k, none⟩ = some v :=
  cell_regrown (by simp [h]) d os
set_option maxHeartbeats 40000000 in
theorem walkq (a s f r b : Int) (a0 : 0 ≤ a) (s0 : 0 ≤ s) (s1 : s ≤ 18446744073709551615) (f0 : 0 ≤ f) (r0 : 0 ≤ r) (r1 : r ≤ 18446744073709551615) (b0 : 0 ≤ b) (m1 : a + b ≤ 18446744073709551615) (m2 : f + b ≤ 18446744073709551615) (w : World)
    (hcase : (s == 0) = true ∨ ((s == 0) = false ∧ inB a s f r = false) ∨ ((s == 0) = false ∧ inB a s f r = true ∧ apB a s f r = false)) :
    Calls Try.prog 3 #[.agg #[.int .u64 a, .int .u64 s, .int .u64 f, .int .u64 r], .int .u64 b] w fun e w' => e = .returned (.bool true) ∧ Below w.heap.size w w' := by
  have hwa : IntKind.u64.wrap (a + b) = a + b := u64_nonneg (by omega) m1
  have hwf : IntKind.u64.wrap (f + b) = f + b := u64_nonneg (by omega) m2
  have g1 := inB_move a s f r b
  have g2 := apB_move a s f r b
  have e1 : ¬ 18446744073709551615 - a < b := by omega
  have e2 : ¬ 18446744073709551615 - f < b := by omega
  go_enter Try.func3, Try.ntmps3
  go_wp2
  try simp only [List.append_eq, List.cons_append, List.nil_append]
  refine wp_region_quiet_below (by kernel_rfl) (by kernel_rfl) ?_
  have c0 := q_cell w #[.int .u64 a, .int .u64 s, .int .u64 f, .int .u64 r] 24 0 _ rfl
  have c1 := q_cell w #[.int .u64 a, .int .u64 s, .int .u64 f, .int .u64 r] 24 1 _ rfl
  have c2 := q_cell w #[.int .u64 a, .int .u64 s, .int .u64 f, .int .u64 r] 24 2 _ rfl
  have c3 := q_cell w #[.int .u64 a, .int .u64 s, .int .u64 f, .int .u64 r] 24 3 _ rfl
  rcases hcase with hz | ⟨hz, hi⟩ | ⟨hz, hi, hp⟩
  all_goals
    repeat (go_big_quiet_step (first | exact q_Inside _ _ _ _ _ _ _ (by omega) (by omega) (by omega) (by omega) s0 s1 r0 r1 | exact q_Apart _ _ _ _ _ _ _ (by omega) (by omega) (by omega) (by omega) s0 s1 r0 r1 | exact Calls.regrown_of (alive _)))
    refine wpQuiet_nil ?_
    intro _ hw'
    obtain ⟨⟨dq, osq⟩, hw''⟩ := hw'
    subst hw''
    clear c0 c1 c2 c3
    go_wp2
    go_ret
    exact ⟨rfl, ((Below.refl w.heap.size w).alloc (Nat.le_refl _) _).trans ((below_regrown _ dq osq).mono (by simp))⟩
end LNumMoves
end Go.Proofs.Ytobamanlfcnilaa
