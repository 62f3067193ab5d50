/-
  NumInside returns true for all rows of bytes (any numbers of 64 bits), and they read afterwards as they read before: no condition.
-/
import Derived.Test.YtbpajkoaeopnfaaRows
import Derived.Test.YtbpajkoaeopnfaaNumD
import Derived.Test.YtbpajkoaeopnfaaNumH
import Derived.WalkKit
import Derived.ProofKit
import Derived.OpenShut
import Derived.ShutString
import Derived.ChangeOld
import Derived.Below
import Derived.Lib.SmallJoins
import Derived.Deep.RegionHeld3
import Derived.Deep.DrawnRows
set_option linter.unusedVariables false
namespace Go.Proofs.Ytbpajkoaeopnfaa
namespace LNumInside
open Go.ChangeShapes Go.WideShapes Go.ChangeAt Go.RowKit
open Go.ChangeMaps (open_string shut_string)
attribute [local go_sem ↓] Go.wp_at_zero Go.wp_at_succ
theorem apB_comm (a s f r : Int) : apB f r a s = apB a s f r := by unfold apB; rw [decide_eq_decide]; omega
/-- The box of the law's argument holds the four numbers, and below it nothing has turned. -/
abbrev Held (B : Nat) (w0 : World) (a s f r : Int) (w : World) : Prop :=
  w.cell? ⟨B, 0, none⟩ = some (.int .u64 a) ∧ w.cell? ⟨B, 1, none⟩ = some (.int .u64 s) ∧ w.cell? ⟨B, 2, none⟩ = some (.int .u64 f) ∧ w.cell? ⟨B, 3, none⟩ = some (.int .u64 r) ∧ B < w.heap.size ∧ Below B w0 w
theorem Held.on {B : Nat} {w0 : World} {a s f r : Int} {w w' : World} (h : Held B w0 a s f r w) (hb : Below w.heap.size w w') : Held B w0 a s f r w' := by
  obtain ⟨h0, h1, h2, h3, h4, h5⟩ := h
  obtain ⟨hc, _⟩ := bcell hb
  refine ⟨?_, ?_, ?_, ?_, Nat.lt_of_lt_of_le h4 hb.size, h5.trans (hb.mono (Nat.le_of_lt h4))⟩
  · rw [hc _ _ h4]; exact h0
  · rw [hc _ _ h4]; exact h1
  · rw [hc _ _ h4]; exact h2
  · rw [hc _ _ h4]; exact h3
theorem keeps {B : Nat} {w0 : World} {a s f r : Int} {P : Program} {F : Nat} {args : Array Value} {v : Value} {w : World} (h : Held B w0 a s f r w)
    (c : Calls P F args w fun e w' => e = .returned v ∧ Below w.heap.size w w') : Calls P F args w fun e w' => e = .returned v ∧ Held B w0 a s f r w' :=
  c.mono fun e w' ⟨he, hb⟩ => ⟨he, h.on hb⟩
set_option maxHeartbeats 8000000 in
theorem walk (a : Int) (w0 : (Lit.int .u64 a).wf = true) (s : Int) (w1 : (Lit.int .u64 s).wf = true) (f : Int) (w2 : (Lit.int .u64 f).wf = true) (r : Int) (w3 : (Lit.int .u64 r).wf = true) (w : World) :
    Calls Try.prog 6 #[.agg #[.int .u64 a, .int .u64 s, .int .u64 f, .int .u64 r]] w fun e w' => e = .returned (.bool true) ∧ Below w.heap.size w w' := by
  obtain ⟨a0, a1⟩ := bounds_u64 w0
  obtain ⟨s0, s1⟩ := bounds_u64 w1
  obtain ⟨f0, f1⟩ := bounds_u64 w2
  obtain ⟨r0, r1⟩ := bounds_u64 w3
  clear w0 w1 w2 w3
  have hcomm := apB_comm a s f r
  have hb0 := ((Below.refl w.heap.size w).alloc (Nat.le_refl _) (.cells #[.int .u64 a, .int .u64 s, .int .u64 f, .int .u64 r] 34)).drew
  go_enter Try.func6, Try.ntmps6
  go_wp2
  simp only [List.append_eq, List.cons_append, List.nil_append]
  go_region_held3 (fun w' => w'.cell? ⟨w.heap.size, 0, none⟩ = some (.int .u64 a) ∧ w'.cell? ⟨w.heap.size, 1, none⟩ = some (.int .u64 s) ∧ w'.cell? ⟨w.heap.size, 2, none⟩ = some (.int .u64 f) ∧ w'.cell? ⟨w.heap.size, 3, none⟩ = some (.int .u64 r) ∧ w.heap.size < w'.heap.size ∧ Below w.heap.size w w')
    (first | assumption | go_keep)
    (first
      | (go_at_call 21; refine (num_Inside _ _ _ _ _ (by assumption) (by assumption) (by assumption) (by assumption) (by assumption) (by assumption)).mono ?_; rintro e w' ⟨rfl, rfl⟩)
      | (go_at_call 22; refine (keeps (B := w.heap.size) (w0 := w) (a := a) (s := s) (f := f) (r := r) (by assumption) (ref_Inside _ _ _ _ _ (by assumption) (by assumption) (by assumption) (by assumption) (by assumption) (by assumption) (by assumption) (by assumption))).mono ?_; rintro e w' ⟨rfl, hk⟩)
      | (go_at_call 23; refine (num_Apart _ _ _ _ _ (by assumption) (by assumption) (by assumption) (by assumption) (by assumption) (by assumption)).mono ?_; rintro e w' ⟨rfl, rfl⟩)
      | (go_at_call 24; refine (keeps (B := w.heap.size) (w0 := w) (a := a) (s := s) (f := f) (r := r) (by assumption) (ref_Apart _ _ _ _ _ (by assumption) (by assumption) (by assumption) (by assumption) (by assumption) (by assumption) (by assumption) (by assumption))).mono ?_; rintro e w' ⟨rfl, hk⟩)
      | (go_at_call 14; refine (keeps (B := w.heap.size) (w0 := w) (a := a) (s := s) (f := f) (r := r) (by assumption) (alive _)).mono ?_; rintro e w' ⟨rfl, hk⟩))
  go_wp2
  go_ret
  refine ⟨?_, ?_⟩
  · rfl
  · first | (exact hk.2.2.2.2.2) | assumption
theorem own : ownKnob Try.prog.godebug = none := by kernel_rfl
theorem laidOut : laidOutB Try.prog = true := by kernel_rfl
set_option maxRecDepth 100000 in
theorem lifted (os : Os) (started : os.Started) (H : Type) (enc : TypeId × Value → H) :
    ReturnsInHanded {} Try.checked os 6 .any (Rows.numInsideSpec.pre6 enc Try.prog Try.f6 Rows.numInsideRow.domain false) (Rows.numInsideSpec.post enc Try.prog Try.f6 false true false false) := by
  refine returnsInHanded_of_change (C := Try.checked) own started (by kernel_rfl) Try.func6
    (ChangeSpec.witness6 (enc := enc) (C := Try.checked) false ⟨#[], #[.agg #[.int .u64 0, .int .u64 0, .int .u64 0, .int .u64 0]], []⟩ 8 (by kernel_rfl) (by kernel_rfl) (by kernel_rfl) (by kernel_rfl)) ?_
  intro W base args ds gs before hval0 hW hcnd _
  have hval : ∀ (j : Nat) t v, Try.f6.params[j]? = some t → args[j]? = some v → Value.okWide Try.prog W .any base t v := hval0
  have hW' := hW
  obtain ⟨p, q, hA0, hV, rfl, hfz, hnd⟩ := hW
  have hA : DataW.TrodAll enc Try.prog W 0 (fun _ => true) true Try.f6.params.toList args.toList ds p := hA0
  rw [Try.params6] at hA hval
  obtain ⟨v0, vs0, d0, ds0, p0, q0, hargs, rfl, rfl, h0, r0⟩ := trodAll_cons hA
  obtain ⟨rfl, rfl, rfl⟩ := trodAll_nil r0
  obtain rfl : args = #[v0] := by cases args; simp_all
  obtain ⟨rfl, rfl⟩ := trodVars_none hV
  have k0 := h0
  have lt0 : ∀ x ∈ p0, x.block < W.heap.size := by obtain ⟨m, hm⟩ := k0; exact DataW.trod_lt m _ _ _ hm
  obtain ⟨c0_0, c0_1, c0_2, c0_3, y0_0, y0_1, y0_2, y0_3, m0, rfl, rfl, rfl, hy0_0, hy0_1, hy0_2, hy0_3⟩ := Go.Joins.open_agg4 Try.underlying34 (by kernel_rfl) (by kernel_rfl) (hval 0 34 v0 rfl rfl) h0
  obtain ⟨a0_0, e0_0, he0_0, w0_0⟩ := DataW.trod_int Try.underlying22 hy0_0
  simp only [List.cons.injEq, and_true] at e0_0
  subst e0_0
  obtain ⟨a0_1, e0_1, he0_1, w0_1⟩ := DataW.trod_int Try.underlying22 hy0_1
  simp only [List.cons.injEq, and_true] at e0_1
  subst e0_1
  obtain ⟨a0_2, e0_2, he0_2, w0_2⟩ := DataW.trod_int Try.underlying22 hy0_2
  simp only [List.cons.injEq, and_true] at e0_2
  subst e0_2
  obtain ⟨a0_3, e0_3, he0_3, w0_3⟩ := DataW.trod_int Try.underlying22 hy0_3
  simp only [List.cons.injEq, and_true] at e0_3
  subst e0_3
  clear hA0 hval0
  refine (walk a0_0 w0_0 a0_1 w0_1 a0_2 w0_2 a0_3 w0_3 W).mono fun e W' ⟨he, bel⟩ => ?_
  subst he
  exact ⟨_, rfl, _, _, _, [], _, [], hW', trodAll_mk1 (shut_bool Try.underlying4 _), (trodAll_cons_mk (Below.trod laidOut (by kernel_rfl) (of_decide_eq_true (by kernel_rfl)) k0 bel lt0) trodAll_mk0), rfl, bel.frame _, fun h => by cases h⟩

theorem over : Rows.numInsideRow.holds Try.pinned (OpenSpec.ofChange Rows.numInsideSpec) :=
  OpenClaim.holds_of_wide 6 Try.f6 rfl rfl rfl rfl rfl rfl rfl ⟨rfl, rfl, rfl, rfl, rfl⟩ rfl rfl rfl rfl rfl (by kernel_rfl) Try.func6 (by kernel_rfl)
    (of_decide_eq_true (by kernel_rfl)) (by unfold Func.isWrapper; first | (rw [if_pos (by decide +kernel)]; kernel_rfl) | (rw [if_neg (by decide +kernel)]; exact ⟨rfl, rfl⟩))
    (fun os started H enc _ => lifted os started H enc)
end LNumInside
theorem NumInside_proved : Rows.NumInsideSaid := LNumInside.over
end Go.Proofs.Ytbpajkoaeopnfaa
