/-
  NumTexts returns true for every number and every text, and they read afterwards as they read before: no condition.
-/
import Derived.Test.YtbpajkoaeopnfaaRows
import Derived.Test.YtbpajkoaeopnfaaNumD
import Derived.Test.YtbpajkoaeopnfaaNumK
import Derived.WalkKit
import Derived.ProofKit
import Derived.OpenShut
import Derived.ShutString
import Derived.ChangeOld
import Derived.Below
set_option linter.unusedVariables false
namespace Go.Proofs.Ytbpajkoaeopnfaa
namespace LNumTexts
open Go.ChangeShapes Go.WideShapes Go.ChangeAt Go.RowKit
open Go.ChangeMaps (open_string shut_string)
theorem of_list {s : ByteArray} {l : List UInt8} (h : s.data.toList = l) : s = ⟨l.toArray⟩ := by
  apply ByteArray.ext
  apply Array.toList_inj.1
  rw [h]
theorem len_digs (n : Nat) : (ByteArray.mk (digs 10 20 n).toArray).size ≤ maxLen := by
  have e : (ByteArray.mk (digs 10 20 n).toArray).size = (digs 10 20 n).length := by rw [size_list]
  have := digs_len 10 20 n
  unfold maxLen; omega
/-- The number's text, whichever its sign, and what num.Parse makes of it. -/
structure Told (a : Int) (t : ByteArray) (p : Int) (q : Int) : Prop where
  text : ∀ w, Calls Try.prog 31 #[.int .i64 a] w fun e w' => e = .returned (.string t) ∧ Below w.heap.size w w'
  ref : ∀ w, Calls Try.prog 32 #[.int .i64 a] w fun e w' => e = .returned (.string t) ∧ Below w.heap.size w w'
  back : ∀ w, Calls Try.prog 29 #[.string t] w fun e w' => e = .returned (.tuple #[.int .i64 p, .int .i64 q]) ∧ Below w.heap.size w w'
  way : a < 0 ∨ 2147483648 ≤ a ∨ (0 ≤ a ∧ a < 2147483648 ∧ q = 0 ∧ p = a)
theorem told (a : Int) (h0 : -9223372036854775808 ≤ a) (h1 : a ≤ 9223372036854775807) : ∃ t p q, Told a t p q := by
  by_cases hn : a < 0
  · exact ⟨⟨#[48]⟩, _, _, fun w => Text_neg a w hn, fun w => (ref_Text_zero a w (by omega)).mono fun e w' ⟨he, hw⟩ => ⟨he, by subst hw; exact Below.refl _ _⟩, fun w => num_Parse _ w (by decide), .inl hn⟩
  · obtain ⟨n, rfl⟩ := Int.eq_ofNat_of_zero_le (show 0 ≤ a by omega)
    refine ⟨⟨(digs 10 20 n).toArray⟩, _, _, fun w => Text_pos n w h1, fun w => ref_Text n w h1, fun w => num_Parse _ w (len_digs n), ?_⟩
    by_cases hM : 2147483648 ≤ (n : Int)
    · exact .inr (.inl hM)
    · have P := pd_some ((rd_iff_10 ⟨(digs 10 20 n).toArray⟩ n).mpr ⟨rfl, by omega⟩)
      exact .inr (.inr ⟨by omega, by omega, P.2, by rw [P.1]⟩)
set_option maxHeartbeats 2000000 in
theorem walk (a0 : Int) (w0 : (Lit.int .i64 a0).wf = true) (s : ByteArray) (hs0 : s.size ≤ maxLen) (w : World) :
    Calls Try.prog 8 #[.int .i64 a0, .string s] w fun e w' => e = .returned (.bool true) ∧ Below w.heap.size w w' := by
  obtain ⟨h0, h1⟩ := bounds_i64 w0
  clear w0
  have hs : s.size ≤ 9223372036854775807 := by unfold maxLen at hs0; omega
  by_cases hl : 4096 < s.size
  · clear hs0
    go_enter Try.func8, Try.ntmps8
    go_wp2
    go_ret
    exact ⟨rfl, Below.refl _ _⟩
  · have hP := fun w => num_Parse s w hs0
    have hQ := fun w => ref_Parse s w hs0
    obtain ⟨t, p, q, T⟩ := told a0 h0 h1
    obtain ⟨hT, hU, hB, hway⟩ := T
    cases hr : rd 10 2147483647 s with
    | none =>
      have P := pd_none hr
      rw [P.1, P.2] at hP hQ
      clear P hr hs0
      rcases hway with hw | hw | ⟨hw, hw2, rfl, rfl⟩
      all_goals
        go_enter Try.func8, Try.ntmps8
        go_wp2_with fail
        refine (hP _).mono ?_
        rintro e w1 ⟨rfl, hb1⟩
        go_wp2_with fail
        refine (hQ _).mono ?_
        rintro e w2 ⟨rfl, hb2⟩
        go_wp2_with fail
        refine (hT _).mono ?_
        rintro e w3 ⟨rfl, hb3⟩
        go_wp2_with fail
        refine (hU _).mono ?_
        rintro e w4 ⟨rfl, hb4⟩
        go_wp2_with fail
        refine (hT _).mono ?_
        rintro e w5 ⟨rfl, hb5⟩
        go_wp2_with fail
        refine (hB _).mono ?_
        rintro e w6 ⟨rfl, hb6⟩
        go_wp2_with fail
        refine (alive _).mono ?_
        rintro e w7 ⟨rfl, hb7⟩
        go_wp2
        go_ret
        have q2 := hb1.trans (hb2.mono hb1.size)
        have q3 := q2.trans (hb3.mono q2.size)
        have q4 := q3.trans (hb4.mono q3.size)
        have q5 := q4.trans (hb5.mono q4.size)
        have q6 := q5.trans (hb6.mono q5.size)
        exact ⟨rfl, q6.trans (hb7.mono q6.size)⟩
    | some v =>
      have P := pd_some hr
      rw [P.1, P.2] at hP hQ
      have R := (rd_iff_10 s v).mp hr
      have hS := fun w => Text_pos v w (by omega)
      rw [← of_list R.1] at hS
      have hv : (v : Int) ≤ 2147483647 := by omega
      clear P hr hs0 R
      rcases hway with hw | hw | ⟨hw, hw2, rfl, rfl⟩
      all_goals
        go_enter Try.func8, Try.ntmps8
        go_wp2_with fail
        refine (hP _).mono ?_
        rintro e w1 ⟨rfl, hb1⟩
        go_wp2_with fail
        refine (hQ _).mono ?_
        rintro e w2 ⟨rfl, hb2⟩
        go_wp2_with fail
        refine (hT _).mono ?_
        rintro e w3 ⟨rfl, hb3⟩
        go_wp2_with fail
        refine (hU _).mono ?_
        rintro e w4 ⟨rfl, hb4⟩
        go_wp2_with fail
        refine (hT _).mono ?_
        rintro e w5 ⟨rfl, hb5⟩
        go_wp2_with fail
        refine (hB _).mono ?_
        rintro e w6 ⟨rfl, hb6⟩
        go_wp2_with fail
        refine (hS _).mono ?_
        rintro e w7 ⟨rfl, hb7⟩
        go_wp2_with fail
        refine (alive _).mono ?_
        rintro e w8 ⟨rfl, hb8⟩
        go_wp2
        go_ret
        have q2 := hb1.trans (hb2.mono hb1.size)
        have q3 := q2.trans (hb3.mono q2.size)
        have q4 := q3.trans (hb4.mono q3.size)
        have q5 := q4.trans (hb5.mono q4.size)
        have q6 := q5.trans (hb6.mono q5.size)
        have q7 := q6.trans (hb7.mono q6.size)
        exact ⟨rfl, q7.trans (hb8.mono q7.size)⟩
theorem own : ownKnob Try.prog.godebug = none := by kernel_rfl
theorem laidOut : laidOutB Try.prog = true := by kernel_rfl
set_option maxRecDepth 100000 in
theorem lifted (os : Os) (started : os.Started) (H : Type) (enc : TypeId × Value → H) :
    ReturnsInHanded {} Try.checked os 8 .any (Rows.numTextsSpec.pre6 enc Try.prog Try.f8 Rows.numTextsRow.domain false) (Rows.numTextsSpec.post enc Try.prog Try.f8 false true false false) := by
  refine returnsInHanded_of_change (C := Try.checked) own started (by kernel_rfl) Try.func8
    (ChangeSpec.witness6 (enc := enc) (C := Try.checked) false ⟨#[], #[.int .i64 0, .string ByteArray.empty], []⟩ 8 (by kernel_rfl) (by kernel_rfl) (by kernel_rfl) (by kernel_rfl)) ?_
  intro W base args ds gs before hval0 hW hcnd _
  have hval : ∀ (j : Nat) t v, Try.f8.params[j]? = some t → args[j]? = some v → Value.okWide Try.prog W .any base t v := hval0
  have hW' := hW
  obtain ⟨p, q, hA0, hV, rfl, hfz, hnd⟩ := hW
  have hA : DataW.TrodAll enc Try.prog W 0 (fun _ => true) true Try.f8.params.toList args.toList ds p := hA0
  rw [Try.params8] at hA hval
  obtain ⟨v0, vs0, d0, ds0, p0, q0, hargs, rfl, rfl, h0, r0⟩ := trodAll_cons hA
  obtain ⟨v1, vs1, d1, ds1, p1, q1, rfl, rfl, rfl, h1, r1⟩ := trodAll_cons r0
  obtain ⟨rfl, rfl, rfl⟩ := trodAll_nil r1
  obtain rfl : args = #[v0, v1] := by cases args; simp_all
  obtain ⟨rfl, rfl⟩ := trodVars_none hV
  have k0 := h0
  have lt0 : ∀ x ∈ p0, x.block < W.heap.size := by obtain ⟨m, hm⟩ := k0; exact DataW.trod_lt m _ _ _ hm
  have k1 := h1
  have lt1 : ∀ x ∈ p1, x.block < W.heap.size := by obtain ⟨m, hm⟩ := k1; exact DataW.trod_lt m _ _ _ hm
  obtain ⟨a0, rfl, rfl, rfl, w0⟩ := open_int Try.underlying3 (hval 0 3 v0 rfl rfl) h0
  obtain ⟨a1, rfl, rfl, rfl, w1⟩ := open_string Try.underlying9 (hval 1 9 v1 rfl rfl) h1
  clear hA0 hval0
  refine (walk a0 w0 a1 w1 W).mono fun e W' ⟨he, bel⟩ => ?_
  subst he
  exact ⟨_, rfl, _, _, _, [], _, [], hW', trodAll_mk1 (shut_bool Try.underlying4 _), (trodAll_cons_mk (Below.trod laidOut (by kernel_rfl) (of_decide_eq_true (by kernel_rfl)) k0 bel lt0) (trodAll_cons_mk (Below.trod laidOut (by kernel_rfl) (of_decide_eq_true (by kernel_rfl)) k1 bel lt1) trodAll_mk0)), rfl, bel.frame _, fun h => by cases h⟩

theorem over : Rows.numTextsRow.holds Try.pinned (OpenSpec.ofChange Rows.numTextsSpec) :=
  OpenClaim.holds_of_wide 8 Try.f8 rfl rfl rfl rfl rfl rfl rfl ⟨rfl, rfl, rfl, rfl, rfl⟩ rfl rfl rfl rfl rfl (by kernel_rfl) Try.func8 (by kernel_rfl)
    (of_decide_eq_true (by kernel_rfl)) (by unfold Func.isWrapper; first | (rw [if_pos (by decide +kernel)]; kernel_rfl) | (rw [if_neg (by decide +kernel)]; exact ⟨rfl, rfl⟩))
    (fun os started H enc _ => lifted os started H enc)
end LNumTexts
theorem NumTexts_proved : Rows.NumTextsSaid := LNumTexts.over
end Go.Proofs.Ytbpajkoaeopnfaa
