/-
  NumMoves returns true for all rows of bytes and every number by which they are moved, and they read afterwards as they read before: no condition.
-/
import Derived.Test.YtobamanlfcnilaaRows
import Derived.Test.YtobamanlfcnilaaNumMq
set_option linter.unusedVariables false
namespace Go.Proofs.Ytobamanlfcnilaa
namespace LNumMoves
open Go.ChangeShapes Go.WideShapes Go.ChangeAt Go.RowKit Go.PlainAid
open Go.ChangeMaps (open_string shut_string)
theorem over_end (a s f r b : Int) (a0 : 0 ≤ a) (a1 : a ≤ 18446744073709551615) (f0 : 0 ≤ f) (f1 : f ≤ 18446744073709551615) (b0 : 0 ≤ b) (h : 18446744073709551615 < a + b ∨ 18446744073709551615 < f + b) (w : World) :
    Calls Try.prog 3 #[.agg #[.int .u64 a, .int .u64 s, .int .u64 f, .int .u64 r], .int .u64 b] w fun e w' => e = .returned (.bool true) ∧ Below w.heap.size w w' := by
  have hb0 := (Below.refl w.heap.size w).alloc (Nat.le_refl _) (.cells #[.int .u64 a, .int .u64 s, .int .u64 f, .int .u64 r] 24)
  have hor : (18446744073709551615 - a < b) ∨ (¬ 18446744073709551615 - a < b ∧ 18446744073709551615 - f < b) := by omega
  clear h
  rcases hor with h1 | ⟨h1, h2⟩
  all_goals
    go_enter Try.func3, Try.ntmps3
    go_wp2_with (go_at_call 5; refine (alive _).mono ?_; rintro e w1 ⟨rfl, hb⟩)
    go_ret
    exact ⟨rfl, hb0.trans (hb.mono hb0.size)⟩
theorem walk (a : Int) (w0 : (Lit.int .u64 a).wf = true) (s : Int) (w1 : (Lit.int .u64 s).wf = true) (f : Int) (w2 : (Lit.int .u64 f).wf = true) (r : Int) (w3 : (Lit.int .u64 r).wf = true) (b : Int) (w4 : (Lit.int .u64 b).wf = true) (w : World) :
    Calls Try.prog 3 #[.agg #[.int .u64 a, .int .u64 s, .int .u64 f, .int .u64 r], .int .u64 b] w fun e w' => e = .returned (.bool true) ∧ Below w.heap.size w w' := by
  obtain ⟨a0, a1⟩ := bounds_u64 w0
  obtain ⟨s0, s1⟩ := bounds_u64 w1
  obtain ⟨f0, f1⟩ := bounds_u64 w2
  obtain ⟨r0, r1⟩ := bounds_u64 w3
  obtain ⟨b0, b1⟩ := bounds_u64 w4
  by_cases h : 18446744073709551615 < a + b ∨ 18446744073709551615 < f + b
  · exact over_end a s f r b a0 a1 f0 f1 b0 h w
  · refine walkq a s f r b a0 s0 s1 f0 r0 r1 b0 (by omega) (by omega) w ?_
    by_cases hs : s = 0
    · exact .inl (by simp [hs])
    · have hz : (s == 0) = false := by simp [hs]
      cases hi : inB a s f r
      · exact .inr (.inl ⟨hz, rfl⟩)
      · exact .inr (.inr ⟨hz, rfl, in_not_ap s0 hs hi⟩)
theorem own : ownKnob Try.prog.godebug = none := by kernel_rfl
theorem laidOut : laidOutB Try.prog = true := by kernel_rfl
set_option maxRecDepth 100000 in
theorem lifted (os : Os) (started : os.Started) (H : Type) (enc : TypeId × Value → H) :
    ReturnsInHanded {} Try.checked os 3 .any (Rows.numMovesSpec.pre6 enc Try.prog Try.f3 Rows.numMovesRow.domain false) (Rows.numMovesSpec.post enc Try.prog Try.f3 false true false false) := by
  refine returnsInHanded_of_change (C := Try.checked) own started (by kernel_rfl) Try.func3
    (ChangeSpec.witness6 (enc := enc) (C := Try.checked) false ⟨#[], #[.agg #[.int .u64 0, .int .u64 0, .int .u64 0, .int .u64 0], .int .u64 0], []⟩ 8 (by kernel_rfl) (by kernel_rfl) (by kernel_rfl) (by kernel_rfl)) ?_
  intro W base args ds gs before hval0 hW hcnd _
  have hval : ∀ (j : Nat) t v, Try.f3.params[j]? = some t → args[j]? = some v → Value.okWide Try.prog W .any base t v := hval0
  have hW' := hW
  obtain ⟨p, q, hA0, hV, rfl, hfz, hnd⟩ := hW
  have hA : DataW.TrodAll enc Try.prog W 0 (fun _ => true) true Try.f3.params.toList args.toList ds p := hA0
  rw [Try.params3] at hA hval
  obtain ⟨v0, vs0, d0, ds0, p0, q0, hargs, rfl, rfl, h0, r0⟩ := trodAll_cons hA
  obtain ⟨v1, vs1, d1, ds1, p1, q1, rfl, rfl, rfl, h1, r1⟩ := trodAll_cons r0
  obtain ⟨rfl, rfl, rfl⟩ := trodAll_nil r1
  obtain rfl : args = #[v0, v1] := by cases args; simp_all
  obtain ⟨rfl, rfl⟩ := trodVars_none hV
  have k0 := h0
  have lt0 : ∀ x ∈ p0, x.block < W.heap.size := by obtain ⟨m, hm⟩ := k0; exact DataW.trod_lt m _ _ _ hm
  have k1 := h1
  have lt1 : ∀ x ∈ p1, x.block < W.heap.size := by obtain ⟨m, hm⟩ := k1; exact DataW.trod_lt m _ _ _ hm
  obtain ⟨c0_0, c0_1, c0_2, c0_3, y0_0, y0_1, y0_2, y0_3, m0, rfl, rfl, rfl, hy0_0, hy0_1, hy0_2, hy0_3⟩ := Go.Joins.open_agg4 Try.underlying24 (by kernel_rfl) (by kernel_rfl) (hval 0 24 v0 rfl rfl) h0
  obtain ⟨a0_0, e0_0, he0_0, w0_0⟩ := DataW.trod_int Try.underlying22 hy0_0
  simp only [List.cons.injEq, and_true] at e0_0
  subst e0_0
  obtain ⟨a0_1, e0_1, he0_1, w0_1⟩ := DataW.trod_int Try.underlying22 hy0_1
  simp only [List.cons.injEq, and_true] at e0_1
  subst e0_1
  obtain ⟨a0_2, e0_2, he0_2, w0_2⟩ := DataW.trod_int Try.underlying22 hy0_2
  simp only [List.cons.injEq, and_true] at e0_2
  subst e0_2
  obtain ⟨a0_3, e0_3, he0_3, w0_3⟩ := DataW.trod_int Try.underlying22 hy0_3
  simp only [List.cons.injEq, and_true] at e0_3
  subst e0_3
  obtain ⟨a1, rfl, rfl, rfl, w1⟩ := open_int Try.underlying22 (hval 1 22 v1 rfl rfl) h1
  clear hA0 hval0
  refine (walk a0_0 w0_0 a0_1 w0_1 a0_2 w0_2 a0_3 w0_3 a1 w1 W).mono fun e W' ⟨he, bel⟩ => ?_
  subst he
  exact ⟨_, rfl, _, _, _, [], _, [], hW', trodAll_mk1 (shut_bool Try.underlying4 _), (trodAll_cons_mk (Below.trod laidOut (by kernel_rfl) (of_decide_eq_true (by kernel_rfl)) k0 bel lt0) (trodAll_cons_mk (Below.trod laidOut (by kernel_rfl) (of_decide_eq_true (by kernel_rfl)) k1 bel lt1) trodAll_mk0)), rfl, bel.frame _, fun h => by cases h⟩

theorem over : Rows.numMovesRow.holds Try.pinned (OpenSpec.ofChange Rows.numMovesSpec) :=
  OpenClaim.holds_of_wide 3 Try.f3 rfl rfl rfl rfl rfl rfl rfl ⟨rfl, rfl, rfl, rfl, rfl⟩ rfl rfl rfl rfl rfl (by kernel_rfl) Try.func3 (by kernel_rfl)
    (of_decide_eq_true (by kernel_rfl)) (by unfold Func.isWrapper; first | (rw [if_pos (by decide +kernel)]; kernel_rfl) | (rw [if_neg (by decide +kernel)]; exact ⟨rfl, rfl⟩))
    (fun os started H enc _ => lifted os started H enc)
end LNumMoves
theorem NumMoves_proved : Rows.NumMovesSaid := LNumMoves.over
end Go.Proofs.Ytobamanlfcnilaa
