/-
  NumHex returns true for every number of 64 bits and every text, and they read afterwards as they read before: no condition.
-/
import Derived.Test.YtbpajkoaeopnfaaRows
import Derived.Test.YtbpajkoaeopnfaaNumD
import Derived.Test.YtbpajkoaeopnfaaNumJ
import Derived.WalkKit
import Derived.ProofKit
import Derived.OpenShut
import Derived.ShutString
import Derived.ChangeOld
import Derived.Below
set_option linter.unusedVariables false
namespace Go.Proofs.Ytbpajkoaeopnfaa
namespace LNumHex
open Go.ChangeShapes Go.WideShapes Go.ChangeAt Go.RowKit
open Go.ChangeMaps (open_string shut_string)
theorem num_ParseHex (s : ByteArray) (w : World) (hs : s.size ≤ maxLen) :
    Calls Try.prog 25 #[.string s] w fun e w' => e = .returned (.tuple #[.int .u64 (phN s), .int .i64 (phE s)]) ∧ Below w.heap.size w w' := by
  cases h : phex s with
  | none => have P := ph_none h; rw [P.1, P.2]; exact ParseHex_no s w hs h
  | some n => have P := ph_some h; rw [P.1, P.2]; exact ParseHex_yes s n w hs h
theorem phN_bd (s : ByteArray) : (phN s : Int) ≤ 18446744073709551615 := by
  cases h : phex s with
  | none => have P := ph_none h; rw [P.1]; omega
  | some n => have P := ph_some h; rw [P.1]; have := ((phex_iff s n).mp h).2; omega
set_option maxHeartbeats 1000000 in
theorem walk (a0 : Int) (w0 : (Lit.int .u64 a0).wf = true) (s : ByteArray) (hs0 : s.size ≤ maxLen) (w : World) :
    Calls Try.prog 7 #[.int .u64 a0, .string s] w fun e w' => e = .returned (.bool true) ∧ Below w.heap.size w w' := by
  obtain ⟨h0, h1⟩ := bounds_u64 w0
  clear w0
  obtain ⟨n, rfl⟩ := Int.eq_ofNat_of_zero_le h0
  have hs : s.size ≤ 9223372036854775807 := by unfold maxLen at hs0; omega
  by_cases hl : 4096 < s.size
  · clear hs0
    go_enter Try.func7, Try.ntmps7
    go_wp2
    go_ret
    exact ⟨rfl, Below.refl _ _⟩
  · have hP := fun w => num_ParseHex s w hs0
    have hQ := fun w => ref_ParseHex s w hs0
    have hH := fun w => num_Hex n w h1
    have hX := fun w => ref_Hex n w h1
    have hd := digs_len16 n (by omega)
    obtain ⟨t, ht⟩ : ∃ t : ByteArray, t = ⟨(48 :: 120 :: digs 16 20 n).toArray⟩ := ⟨_, rfl⟩
    rw [← ht] at hH hX
    have htl : t.data.toList = 48 :: 120 :: digs 16 20 n := by rw [ht]
    have hts : t.size ≤ maxLen := by
      have e : t.size = (48 :: 120 :: digs 16 20 n).length := by rw [size_list, htl]
      simp at e; unfold maxLen; omega
    have hR := fun w => ParseHex_yes t n w hts ((phex_iff t n).mpr ⟨htl, by omega⟩)
    clear ht htl hd hts hs0
    generalize phN s = p at hP hQ
    generalize phE s = q at hP hQ
    go_enter Try.func7, Try.ntmps7
    go_wp2_with fail
    refine (hP _).mono ?_
    rintro e w1 ⟨rfl, hb1⟩
    go_wp2_with fail
    refine (hQ _).mono ?_
    rintro e w2 ⟨rfl, hb2⟩
    go_wp2_with fail
    refine (hH _).mono ?_
    rintro e w3 ⟨rfl, hb3⟩
    go_wp2_with fail
    refine (hR _).mono ?_
    rintro e w4 ⟨rfl, hb4⟩
    go_wp2_with fail
    refine (hH _).mono ?_
    rintro e w5 ⟨rfl, hb5⟩
    go_wp2_with fail
    refine (hX _).mono ?_
    rintro e w6 ⟨rfl, rfl⟩
    go_wp2_with fail
    refine (alive _).mono ?_
    rintro e w6 ⟨rfl, hb6⟩
    go_wp2
    go_ret
    have q2 := hb1.trans (hb2.mono hb1.size)
    have q3 := q2.trans (hb3.mono q2.size)
    have q4 := q3.trans (hb4.mono q3.size)
    have q5 := q4.trans (hb5.mono q4.size)
    exact ⟨rfl, q5.trans (hb6.mono q5.size)⟩
theorem own : ownKnob Try.prog.godebug = none := by kernel_rfl
theorem laidOut : laidOutB Try.prog = true := by kernel_rfl
set_option maxRecDepth 100000 in
theorem lifted (os : Os) (started : os.Started) (H : Type) (enc : TypeId × Value → H) :
    ReturnsInHanded {} Try.checked os 7 .any (Rows.numHexSpec.pre6 enc Try.prog Try.f7 Rows.numHexRow.domain false) (Rows.numHexSpec.post enc Try.prog Try.f7 false true false false) := by
  refine returnsInHanded_of_change (C := Try.checked) own started (by kernel_rfl) Try.func7
    (ChangeSpec.witness6 (enc := enc) (C := Try.checked) false ⟨#[], #[.int .u64 0, .string ByteArray.empty], []⟩ 8 (by kernel_rfl) (by kernel_rfl) (by kernel_rfl) (by kernel_rfl)) ?_
  intro W base args ds gs before hval0 hW hcnd _
  have hval : ∀ (j : Nat) t v, Try.f7.params[j]? = some t → args[j]? = some v → Value.okWide Try.prog W .any base t v := hval0
  have hW' := hW
  obtain ⟨p, q, hA0, hV, rfl, hfz, hnd⟩ := hW
  have hA : DataW.TrodAll enc Try.prog W 0 (fun _ => true) true Try.f7.params.toList args.toList ds p := hA0
  rw [Try.params7] at hA hval
  obtain ⟨v0, vs0, d0, ds0, p0, q0, hargs, rfl, rfl, h0, r0⟩ := trodAll_cons hA
  obtain ⟨v1, vs1, d1, ds1, p1, q1, rfl, rfl, rfl, h1, r1⟩ := trodAll_cons r0
  obtain ⟨rfl, rfl, rfl⟩ := trodAll_nil r1
  obtain rfl : args = #[v0, v1] := by cases args; simp_all
  obtain ⟨rfl, rfl⟩ := trodVars_none hV
  have k0 := h0
  have lt0 : ∀ x ∈ p0, x.block < W.heap.size := by obtain ⟨m, hm⟩ := k0; exact DataW.trod_lt m _ _ _ hm
  have k1 := h1
  have lt1 : ∀ x ∈ p1, x.block < W.heap.size := by obtain ⟨m, hm⟩ := k1; exact DataW.trod_lt m _ _ _ hm
  obtain ⟨a0, rfl, rfl, rfl, w0⟩ := open_int Try.underlying22 (hval 0 22 v0 rfl rfl) h0
  obtain ⟨a1, rfl, rfl, rfl, w1⟩ := open_string Try.underlying9 (hval 1 9 v1 rfl rfl) h1
  clear hA0 hval0
  refine (walk a0 w0 a1 w1 W).mono fun e W' ⟨he, bel⟩ => ?_
  subst he
  exact ⟨_, rfl, _, _, _, [], _, [], hW', trodAll_mk1 (shut_bool Try.underlying4 _), (trodAll_cons_mk (Below.trod laidOut (by kernel_rfl) (of_decide_eq_true (by kernel_rfl)) k0 bel lt0) (trodAll_cons_mk (Below.trod laidOut (by kernel_rfl) (of_decide_eq_true (by kernel_rfl)) k1 bel lt1) trodAll_mk0)), rfl, bel.frame _, fun h => by cases h⟩

theorem over : Rows.numHexRow.holds Try.pinned (OpenSpec.ofChange Rows.numHexSpec) :=
  OpenClaim.holds_of_wide 7 Try.f7 rfl rfl rfl rfl rfl rfl rfl ⟨rfl, rfl, rfl, rfl, rfl⟩ rfl rfl rfl rfl rfl (by kernel_rfl) Try.func7 (by kernel_rfl)
    (of_decide_eq_true (by kernel_rfl)) (by unfold Func.isWrapper; first | (rw [if_pos (by decide +kernel)]; kernel_rfl) | (rw [if_neg (by decide +kernel)]; exact ⟨rfl, rfl⟩))
    (fun os started H enc _ => lifted os started H enc)
end LNumHex
theorem NumHex_proved : Rows.NumHexSaid := LNumHex.over
end Go.Proofs.Ytbpajkoaeopnfaa
