/-
  LebPuts returns true for all numbers, and they read afterwards as they read before: no condition.
-/
import Derived.Test.YtbpajkoaeopnfacRows
import Derived.Test.YtbpajkoaeopnfacRdF
import Derived.Deep.RegionWith
import Derived.WalkKit
import Derived.ProofKit
import Derived.OpenShut
import Derived.ShutString
import Derived.ChangeOld
import Derived.Below
set_option linter.unusedVariables false
namespace Go.Proofs.Ytbpajkoaeopnfac
namespace LLebPuts
open Go.ChangeShapes Go.WideShapes Go.ChangeAt Go.RowKit
open Go.ChangeMaps (open_string shut_string)
theorem text_all {w1 : World} {B : Nat} {v : Value} {l : List UInt8} (h : Own w1 B v l) (hne : l ≠ []) : ∀ W, Below w1.heap.size w1 W → Sem.run Try.prog (convert 26 9 v) W = .ok (.string ⟨l.toArray⟩) W :=
  fun W hb => (h.stay hb).text hne
theorem lebU_ne (n : Nat) : lebU 10 n ≠ [] := by unfold lebU; split <;> simp
theorem lebS_ne (n : Int) : lebS 10 n ≠ [] := by unfold lebS; split <;> simp
set_option maxHeartbeats 4000000 in
theorem walk (a0 : Int) (w0 : (Lit.int .u64 a0).wf = true) (a1 : Int) (w1 : (Lit.int .i64 a1).wf = true) (w : World) :
    Calls Try.prog 4 #[.int .u64 a0, .int .i64 a1] w fun e w' => e = .returned (.bool true) ∧ Below w.heap.size w w' := by
  obtain ⟨h0, h1⟩ := bounds_u64 w0
  obtain ⟨h2, h3⟩ := bounds_i64 w1
  clear w0 w1
  obtain ⟨n, rfl⟩ := Int.eq_ofNat_of_zero_le h0
  have hA := fun w => leb_PutU n w h1
  have hB := fun w => ref_PutU n w h1
  have hC := fun w => leb_PutS a1 w h2 h3
  have hD := fun w => ref_PutS a1 w h2 h3
  have n1 := lebU_ne n
  have n2 := lebS_ne a1
  generalize lebU 10 n = l1 at *
  generalize lebS 10 a1 = l2 at *
  go_enter Try.func4, Try.ntmps4
  go_wp2
  go_region_with (first
    | (go_at_call 19; refine (hA _).mono ?_; rintro e w1 ⟨v1, rfl, o1, b1⟩; have t1 := text_all o1 n1; have r1 := Below.refl w1.heap.size w1)
    | (go_at_call 20; refine (hB _).mono ?_; rintro e w2 ⟨v2, rfl, o2, b2⟩; have t2 := text_all o2 n1; have r2 := Below.refl w2.heap.size w2)
    | (go_at_call 21; refine (hC _).mono ?_; rintro e w3 ⟨v3, rfl, o3, b3⟩; have t3 := text_all o3 n2; have r3 := Below.refl w3.heap.size w3)
    | (go_at_call 22; refine (hD _).mono ?_; rintro e w4 ⟨v4, rfl, o4, b4⟩; have t4 := text_all o4 n2; have r4 := Below.refl w4.heap.size w4)
    | (go_at_call 23; refine (alive03 _).mono ?_; rintro e w5 ⟨rfl, b5⟩))
  all_goals go_wp2
  all_goals
    go_ret
    have q1 : Below w.heap.size w w1 := ((Below.refl w.heap.size w).drew).trans b1
    have q2 := q1.trans (b2.mono q1.size)
    have q3 := q2.trans (b3.mono q2.size)
    have q4 := q3.trans (b4.mono q3.size)
    exact ⟨rfl, q4.trans (b5.mono q4.size)⟩
theorem own : ownKnob Try.prog.godebug = none := by kernel_rfl
theorem laidOut : laidOutB Try.prog = true := by kernel_rfl
set_option maxRecDepth 100000 in
theorem lifted (os : Os) (started : os.Started) (H : Type) (enc : TypeId × Value → H) :
    ReturnsInHanded {} Try.checked os 4 .any (Rows.lebPutsSpec.pre6 enc Try.prog Try.f4 Rows.lebPutsRow.domain false) (Rows.lebPutsSpec.post enc Try.prog Try.f4 false true false false) := by
  refine returnsInHanded_of_change (C := Try.checked) own started (by kernel_rfl) Try.func4
    (ChangeSpec.witness6 (enc := enc) (C := Try.checked) false ⟨#[], #[.int .u64 0, .int .i64 0], []⟩ 8 (by kernel_rfl) (by kernel_rfl) (by kernel_rfl) (by kernel_rfl)) ?_
  intro W base args ds gs before hval0 hW hcnd _
  have hval : ∀ (j : Nat) t v, Try.f4.params[j]? = some t → args[j]? = some v → Value.okWide Try.prog W .any base t v := hval0
  have hW' := hW
  obtain ⟨p, q, hA0, hV, rfl, hfz, hnd⟩ := hW
  have hA : DataW.TrodAll enc Try.prog W 0 (fun _ => true) true Try.f4.params.toList args.toList ds p := hA0
  rw [Try.params4] at hA hval
  obtain ⟨v0, vs0, d0, ds0, p0, q0, hargs, rfl, rfl, h0, r0⟩ := trodAll_cons hA
  obtain ⟨v1, vs1, d1, ds1, p1, q1, rfl, rfl, rfl, h1, r1⟩ := trodAll_cons r0
  obtain ⟨rfl, rfl, rfl⟩ := trodAll_nil r1
  obtain rfl : args = #[v0, v1] := by cases args; simp_all
  obtain ⟨rfl, rfl⟩ := trodVars_none hV
  have k0 := h0
  have lt0 : ∀ x ∈ p0, x.block < W.heap.size := by obtain ⟨m, hm⟩ := k0; exact DataW.trod_lt m _ _ _ hm
  have k1 := h1
  have lt1 : ∀ x ∈ p1, x.block < W.heap.size := by obtain ⟨m, hm⟩ := k1; exact DataW.trod_lt m _ _ _ hm
  obtain ⟨a0, rfl, rfl, rfl, w0⟩ := open_int Try.underlying25 (hval 0 25 v0 rfl rfl) h0
  obtain ⟨a1, rfl, rfl, rfl, w1⟩ := open_int Try.underlying2 (hval 1 2 v1 rfl rfl) h1
  clear hA0 hval0
  refine (walk a0 w0 a1 w1 W).mono fun e W' ⟨he, bel⟩ => ?_
  subst he
  exact ⟨_, rfl, _, _, _, [], _, [], hW', trodAll_mk1 (shut_bool Try.underlying4 _), (trodAll_cons_mk (Below.trod laidOut (by kernel_rfl) (of_decide_eq_true (by kernel_rfl)) k0 bel lt0) (trodAll_cons_mk (Below.trod laidOut (by kernel_rfl) (of_decide_eq_true (by kernel_rfl)) k1 bel lt1) trodAll_mk0)), rfl, bel.frame _, fun h => by cases h⟩

theorem over : Rows.lebPutsRow.holds Try.pinned (OpenSpec.ofChange Rows.lebPutsSpec) :=
  OpenClaim.holds_of_wide 4 Try.f4 rfl rfl rfl rfl rfl rfl rfl ⟨rfl, rfl, rfl, rfl, rfl⟩ rfl rfl rfl rfl rfl (by kernel_rfl) Try.func4 (by kernel_rfl)
    (of_decide_eq_true (by kernel_rfl)) (by unfold Func.isWrapper; first | (rw [if_pos (by decide +kernel)]; kernel_rfl) | (rw [if_neg (by decide +kernel)]; exact ⟨rfl, rfl⟩))
    (fun os started H enc _ => lifted os started H enc)
end LLebPuts
theorem LebPuts_proved : Rows.LebPutsSaid := LLebPuts.over
end Go.Proofs.Ytbpajkoaeopnfac
