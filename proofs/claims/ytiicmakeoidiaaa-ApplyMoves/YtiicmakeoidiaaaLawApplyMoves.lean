
/-
  ApplyMoves returns true for whatever a value is made of and however much further the library lies, and both read afterwards as they read before: no condition.
-/
import Derived.Test.YtiicmakeoidiaaaRows
import Derived.Test.YtiicmakeoidiaaaApyA
import Derived.WalkKit
import Derived.ProofKit
import Derived.OpenShut
import Derived.ShutString
import Derived.ChangeOld
import Derived.Below
import Derived.Lib.QuietBelow
import Derived.Lib.SmallJoins
set_option linter.unusedVariables false
namespace Go.Proofs.Ytiicmakeoidiaaa
namespace LApplyMoves
open Go.ChangeShapes Go.WideShapes Go.ChangeAt Go.RowKit Go.PlainAid Go.Sort
open Go.ChangeMaps (open_string shut_string)
theorem wf_i64 {n : Int} (h : (Lit.int .i64 n).wf = true) : -9223372036854775808 ≤ n ∧ n ≤ 9223372036854775807 := by
  have a : IntKind.i64.min = -9223372036854775808 := rfl
  have b : IntKind.i64.max = 9223372036854775807 := rfl
  simp [Lit.wf] at h
  omega
theorem wf_u64 {n : Int} (h : (Lit.int .u64 n).wf = true) : 0 ≤ n ∧ n ≤ 18446744073709551615 := by
  have a : IntKind.u64.min = 0 := rfl
  have b : IntKind.u64.max = 18446744073709551615 := rfl
  simp [Lit.wf] at h
  omega
theorem u64_u64w (z : Int) : IntKind.u64.wrap (u64w z) = u64w z := by rw [u64_is]; unfold u64w; omega
theorem w_sub (x y y' z : Int) (hz : 0 ≤ z) (hz' : z ≤ 18446744073709551615) (h : y' = x + z) : (IntKind.u64.wrap (u64w y' - u64w x) == z) = true := by
  rw [u64_is]; unfold u64w; simp; omega
set_option maxHeartbeats 4000000 in
theorem walk (k : Int) (w0 : (Lit.int .i64 k).wf = true) (s : Int) (w1 : (Lit.int .u64 s).wf = true) (a : Int) (w2 : (Lit.int .i64 a).wf = true) (b : Int) (w3 : (Lit.int .u64 b).wf = true) (y : Int) (w4 : (Lit.int .u64 y).wf = true) (w : World) :
    Calls Try.prog 5 #[.agg #[.int .i64 k, .int .u64 s, .int .i64 a, .int .u64 b], .int .u64 y] w fun e w' => e = .returned (.bool true) ∧ Below w.heap.size w w' := by
  obtain ⟨y0, y1⟩ := wf_u64 w4
  obtain ⟨s0, s1⟩ := wf_u64 w1
  clear w0 w1 w2 w3 w4
  have HA := hide (fun w => apy_Value k s a b w)
  have HB := hide (fun w => apy_Value k s a (IntKind.u64.wrap (b + y)) w)
  have HC := hide (fun w => apy_Value k (IntKind.u64.wrap (s + y)) a b w)
  have hcase : (k = 2 ∧ (IntKind.u64.wrap (valV k s a (IntKind.u64.wrap (b + y)) - valV k s a b) == y) = true ∧ (valV k (IntKind.u64.wrap (s + y)) a b == valV k s a b) = true)
      ∨ (k = 1 ∧ (valV k s a (IntKind.u64.wrap (b + y)) == valV k s a b) = true ∧ (IntKind.u64.wrap (valV k (IntKind.u64.wrap (s + y)) a b - valV k s a b) == y) = true)
      ∨ (k = 3 ∧ (valV k s a (IntKind.u64.wrap (b + y)) == valV k s a b) = true ∧ (IntKind.u64.wrap (valV k (IntKind.u64.wrap (s + y)) a b - valV k s a b) == y) = true)
      ∨ ((k == 2) = false ∧ (k == 1) = false ∧ (k == 3) = false ∧ valV k s a b = 0 ∧ valV k s a (IntKind.u64.wrap (b + y)) = 0 ∧ valV k (IntKind.u64.wrap (s + y)) a b = 0) := by
    simp only [u64_is]
    unfold valV
    by_cases h2 : k = 2
    · subst h2; exact .inl ⟨rfl, by simp [u64w]; omega, by simp⟩
    by_cases h1 : k = 1
    · subst h1; exact .inr (.inl ⟨rfl, by simp, by simp [u64w]; omega⟩)
    by_cases h3 : k = 3
    · subst h3; exact .inr (.inr (.inl ⟨rfl, by simp, by simp [u64w]; omega⟩))
    · exact .inr (.inr (.inr ⟨by simp [h2], by simp [h1], by simp [h3], by simp [h1, h2, h3], by simp [h1, h2, h3], by simp [h1, h2, h3]⟩))
  generalize valV k s a b = p at HA hcase
  generalize valV k s a (IntKind.u64.wrap (b + y)) = q at HB hcase
  generalize valV k (IntKind.u64.wrap (s + y)) a b = r at HC hcase
  clear y0 y1 s0 s1
  rcases hcase with ⟨rfl, h1, h2⟩ | ⟨rfl, h1, h2⟩ | ⟨rfl, h1, h2⟩ | ⟨k2, k1, k3, rfl, rfl, rfl⟩
  all_goals
    go_enter Try.func5, Try.ntmps5
    go_wp2_with fail
    refine (HA.out _).mono ?_
    rintro e w' ⟨rfl, rfl⟩
    go_wp2_with fail
    refine (HB.out _).mono ?_
    rintro e w' ⟨rfl, rfl⟩
    go_wp2_with fail
    refine (HC.out _).mono ?_
    rintro e w' ⟨rfl, rfl⟩
    go_wp2_with fail
    refine (alive15 _).mono ?_
    rintro e w' ⟨rfl, rfl⟩
    go_wp2
    go_ret
    exact ⟨rfl, ((Below.refl w.heap.size w).alloc (Nat.le_refl _) _)⟩
theorem own : ownKnob Try.prog.godebug = none := by kernel_rfl
theorem laidOut : laidOutB Try.prog = true := by kernel_rfl
set_option maxRecDepth 100000 in
theorem lifted (os : Os) (started : os.Started) (H : Type) (enc : TypeId × Value → H) :
    ReturnsInHanded {} Try.checked os 5 .any (Rows.applyMovesSpec.pre6 enc Try.prog Try.f5 Rows.applyMovesRow.domain false) (Rows.applyMovesSpec.post enc Try.prog Try.f5 false true false false) := by
  refine returnsInHanded_of_change (C := Try.checked) own started (by kernel_rfl) Try.func5
    (ChangeSpec.witness6 (enc := enc) (C := Try.checked) false ⟨#[], #[.agg #[.int .i64 0, .int .u64 0, .int .i64 0, .int .u64 0], .int .u64 0], []⟩ 8 (by kernel_rfl) (by kernel_rfl) (by kernel_rfl) (by kernel_rfl)) ?_
  intro W base args ds gs before hval0 hW hcnd _
  have hval : ∀ (j : Nat) t v, Try.f5.params[j]? = some t → args[j]? = some v → Value.okWide Try.prog W .any base t v := hval0
  have hW' := hW
  obtain ⟨p, q, hA0, hV, rfl, hfz, hnd⟩ := hW
  have hA : DataW.TrodAll enc Try.prog W 0 (fun _ => true) true Try.f5.params.toList args.toList ds p := hA0
  rw [Try.params5] at hA hval
  obtain ⟨v0, vs0, d0, ds0, p0, q0, hargs, rfl, rfl, h0, r0⟩ := trodAll_cons hA
  obtain ⟨v1, vs1, d1, ds1, p1, q1, rfl, rfl, rfl, h1, r1⟩ := trodAll_cons r0
  obtain ⟨rfl, rfl, rfl⟩ := trodAll_nil r1
  obtain rfl : args = #[v0, v1] := by cases args; simp_all
  obtain ⟨rfl, rfl⟩ := trodVars_none hV
  have k0 := h0
  have lt0 : ∀ x ∈ p0, x.block < W.heap.size := by obtain ⟨m, hm⟩ := k0; exact DataW.trod_lt m _ _ _ hm
  have k1 := h1
  have lt1 : ∀ x ∈ p1, x.block < W.heap.size := by obtain ⟨m, hm⟩ := k1; exact DataW.trod_lt m _ _ _ hm
  obtain ⟨c0_0, c0_1, c0_2, c0_3, y0_0, y0_1, y0_2, y0_3, m0, rfl, rfl, rfl, hy0_0, hy0_1, hy0_2, hy0_3⟩ := Go.Joins.open_agg4 Try.underlying35 (by kernel_rfl) (by kernel_rfl) (hval 0 35 v0 rfl rfl) h0
  obtain ⟨a0_0, e0_0, he0_0, w0_0⟩ := DataW.trod_int Try.underlying24 hy0_0
  simp only [List.cons.injEq, and_true] at e0_0
  subst e0_0
  obtain ⟨a0_1, e0_1, he0_1, w0_1⟩ := DataW.trod_int Try.underlying28 hy0_1
  simp only [List.cons.injEq, and_true] at e0_1
  subst e0_1
  obtain ⟨a0_2, e0_2, he0_2, w0_2⟩ := DataW.trod_int Try.underlying2 hy0_2
  simp only [List.cons.injEq, and_true] at e0_2
  subst e0_2
  obtain ⟨a0_3, e0_3, he0_3, w0_3⟩ := DataW.trod_int Try.underlying28 hy0_3
  simp only [List.cons.injEq, and_true] at e0_3
  subst e0_3
  obtain ⟨a1, rfl, rfl, rfl, w1⟩ := open_int Try.underlying28 (hval 1 28 v1 rfl rfl) h1
  clear hA0 hval0
  refine (walk a0_0 w0_0 a0_1 w0_1 a0_2 w0_2 a0_3 w0_3 a1 w1 W).mono fun e W' ⟨he, bel⟩ => ?_
  subst he
  exact ⟨_, rfl, _, _, _, [], _, [], hW', trodAll_mk1 (shut_bool Try.underlying4 _), (trodAll_cons_mk (Below.trod laidOut (by kernel_rfl) (of_decide_eq_true (by kernel_rfl)) k0 bel lt0) (trodAll_cons_mk (Below.trod laidOut (by kernel_rfl) (of_decide_eq_true (by kernel_rfl)) k1 bel lt1) trodAll_mk0)), rfl, bel.frame _, fun h => by cases h⟩

theorem over : Rows.applyMovesRow.holds Try.pinned (OpenSpec.ofChange Rows.applyMovesSpec) :=
  OpenClaim.holds_of_wide 5 Try.f5 rfl rfl rfl rfl rfl rfl rfl ⟨rfl, rfl, rfl, rfl, rfl⟩ rfl rfl rfl rfl rfl (by kernel_rfl) Try.func5 (by kernel_rfl)
    (of_decide_eq_true (by kernel_rfl)) (by unfold Func.isWrapper; first | (rw [if_pos (by decide +kernel)]; kernel_rfl) | (rw [if_neg (by decide +kernel)]; exact ⟨rfl, rfl⟩))
    (fun os started H enc _ => lifted os started H enc)
end LApplyMoves
theorem ApplyMoves_proved : Rows.ApplyMovesSaid := LApplyMoves.over
end Go.Proofs.Ytiicmakeoidiaaa
