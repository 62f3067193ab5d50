
/-
  ZipMakes returns true for every row of files, and the row reads afterwards as it read before: no condition.
-/
import Derived.Test.YtegcdddfccmljaaRows
import Derived.Test.YtegcdddfccmljaaZpX
import Derived.WalkKit
import Derived.ProofKit
import Derived.OpenShut
import Derived.ShutString
import Derived.ChangeOld
import Derived.Below
set_option linter.unusedVariables false
namespace Go.Proofs.Ytegcdddfccmljaa
namespace LZipMakes
open Go.ChangeShapes Go.WideShapes Go.ChangeAt Go.RowKit
theorem argNil (w : World) : Arg w (.slice none 0 0) [] := ⟨none, 0, rfl, by simp, by simp, by simp, .inl ⟨rfl, rfl, rfl⟩⟩
/-- In either case a row of bytes and a number. -/
theorem made_arg {w' : World} {B : Nat} {o : Except Int (List UInt8)} {e : Ending} (h : MakesZ w' B o e) (hl : ∀ b, o = .ok b → b.length ≤ 262144) :
    ∃ v l c, e = .returned (.tuple #[v, .int .i64 c]) ∧ Arg w' v l ∧ (o = .error c ∧ l = [] ∨ o = .ok l ∧ c = 0) := by
  cases o with
  | error c => exact ⟨_, [], c, h, argNil w', .inl ⟨rfl, rfl⟩⟩
  | ok b =>
    obtain ⟨v, rfl, ho⟩ := h
    exact ⟨v, b, 0, rfl, ho.arg (by have := hl b rfl; omega), .inr ⟨rfl, rfl⟩⟩
set_option maxHeartbeats 8000000 in
set_option maxRecDepth 20000 in
theorem walk (w : World) (s0 : Option Addr) (len0 cap0 : Nat) (h0 : IsFls w s0 len0 cap0) :
    Calls Try.prog 5 #[.slice s0 len0 cap0] w fun e w' => e = .returned (.bool true) ∧ Below w.heap.size w w' := by
  obtain ⟨fs, hl, hF⟩ := h0.list
  obtain ⟨hlc, hcm, _⟩ := h0
  subst hl
  have hGr := law_great w s0 cap0 fs hlc hcm hF
  have HF := hide hF
  have HCM := hide hcm
  have HLC := hide hlc
  have HBR : Hid (Below w.heap.size w w) := Below.refl _ _
  clear hF hcm
  go_enter Try.func5, Try.ntmps5
  go_wp2_with fail
  refine hGr.mono ?_
  rintro e w1 ⟨⟨b, rfl, hB⟩, rfl⟩
  clear hGr
  rcases hB with rfl | ⟨rfl, h300, hsm⟩
  · go_wp2
    go_ret
    exact ⟨rfl, HBR.out⟩
  have HFA := hide (HF.out.files hsm)
  have hMk := zip_Make w s0 cap0 fs HLC.out HCM.out HFA.out
  have HLN : Hid (∀ b, makeN fs = .ok b → b.length ≤ 262144) := fun b hb => by
    obtain ⟨S, _, hbl, _⟩ := read_made fs b hb
    exact hbl
  clear hsm
  go_wp2_with fail
  refine hMk.mono ?_
  rintro e w1 ⟨hE, hb1⟩
  obtain ⟨va, la, ca, rfl, haa, hoa⟩ := made_arg hE HLN.out
  have HB1 := hide hb1
  have HAA := hide haa
  have HOA := hide hoa
  have hFl := law_files w1 s0 cap0 fs HLC.out HCM.out h300 (HFA.out.below hb1)
  have HF1 := hide (HFA.out.below hb1)
  clear hMk hb1 hE haa hoa
  go_wp2_with fail
  refine hFl.mono ?_
  rintro e w2 ⟨vf, rfl, hof, hb2⟩
  have HB2 : Hid (Below w.heap.size w w2) := HB1.out.trans (hb2.mono HB1.out.size)
  have HF2 := hide (HF1.out.below hb2)
  have HAA2 := hide (HAA.out.below hb2 rfl)
  have hRM := ref_Make w2 vf _ fs hof trivial (fun f hf => by
    rcases HF2.out with e | ⟨y, o, e, hx⟩
    · rw [e] at hf; simp at hf
    · obtain ⟨k, hk, e2⟩ := List.getElem_of_mem hf
      have q := hx k hk
      rw [e2] at q
      exact ⟨q.arg, q.nlen⟩) h300
  clear hFl hb2 hof
  go_wp2_with fail
  refine hRM.mono ?_
  rintro e w3 ⟨hE, hb3⟩
  obtain ⟨vb, lb, cb, rfl, hab, hob⟩ := made_arg hE HLN.out
  have HB3 : Hid (Below w.heap.size w w3) := HB2.out.trans (hb3.mono HB2.out.size)
  have same : la = lb ∧ ca = cb := by
    rcases HOA.out with ⟨e1, rfl⟩ | ⟨e1, rfl⟩ <;> rcases hob with ⟨e2, rfl⟩ | ⟨e2, rfl⟩
    · rw [e1] at e2; injection e2 with e2; exact ⟨rfl, e2⟩
    · rw [e1] at e2; cases e2
    · rw [e1] at e2; cases e2
    · rw [e1] at e2; injection e2 with e2; exact ⟨e2, rfl⟩
  obtain ⟨rfl, rfl⟩ := same
  have ta := (HAA2.out.below hb3 rfl).text
  have tb := hab.text
  have hAl := alive07 w3
  have b1 : (la == la) = true := by simp
  have b2 : (ca == ca) = true := by simp
  clear hRM hb3 hE hab hob
  go_wp2_with (go_at_call 9; refine hAl.mono ?_; rintro e w4 ⟨rfl, hb4⟩)
  go_ret
  exact ⟨rfl, HB3.out.trans (hb4.mono HB3.out.size)⟩
theorem own : ownKnob Try.prog.godebug = none := by kernel_rfl
theorem laidOut : laidOutB Try.prog = true := by kernel_rfl
set_option maxRecDepth 100000 in
theorem lifted (os : Os) (started : os.Started) (H : Type) (enc : TypeId × Value → H) :
    ReturnsInHanded {} Try.checked os 5 .any (Rows.zipMakesSpec.pre6 enc Try.prog Try.f5 Rows.zipMakesRow.domain false) (Rows.zipMakesSpec.post enc Try.prog Try.f5 false true false false) := by
  refine returnsInHanded_of_change (C := Try.checked) own started (by kernel_rfl) Try.func5
    (ChangeSpec.witness6 (enc := enc) (C := Try.checked) false ⟨#[], #[.slice none 0 0], []⟩ 8 (by kernel_rfl) (by kernel_rfl) (by kernel_rfl) (by kernel_rfl)) ?_
  intro W base args ds gs before hval0 hW hcnd _
  have hval : ∀ (j : Nat) t v, Try.f5.params[j]? = some t → args[j]? = some v → Value.okWide Try.prog W .any base t v := hval0
  have hW' := hW
  obtain ⟨p, q, hA0, hV, rfl, hfz, hnd⟩ := hW
  have hA : DataW.TrodAll enc Try.prog W 0 (fun _ => true) true Try.f5.params.toList args.toList ds p := hA0
  rw [Try.params5] at hA hval
  obtain ⟨v0, vs0, d0, ds0, p0, q0, hargs, rfl, rfl, h0, r0⟩ := trodAll_cons hA
  obtain ⟨rfl, rfl, rfl⟩ := trodAll_nil r0
  obtain rfl : args = #[v0] := by cases args; simp_all
  obtain ⟨rfl, rfl⟩ := trodVars_none hV
  have k0 := h0
  have lt0 : ∀ x ∈ p0, x.block < W.heap.size := by obtain ⟨m, hm⟩ := k0; exact DataW.trod_lt m _ _ _ hm
  obtain ⟨s0, len0, cap0, rfl⟩ := okWide_slice Try.underlying41 (hval 0 41 v0 rfl rfl)
  have w0 := isOps_of h0
  clear hA0 hval0
  refine (walk W s0 len0 cap0 w0).mono fun e W' ⟨he, bel⟩ => ?_
  subst he
  exact ⟨_, rfl, _, _, _, [], _, [], hW', trodAll_mk1 (shut_bool Try.underlying4 _), (trodAll_cons_mk (Below.trod laidOut (by kernel_rfl) (of_decide_eq_true (by kernel_rfl)) k0 bel lt0) trodAll_mk0), rfl, bel.frame _, fun h => by cases h⟩

theorem over : Rows.zipMakesRow.holds Try.pinned (OpenSpec.ofChange Rows.zipMakesSpec) :=
  OpenClaim.holds_of_wide 5 Try.f5 rfl rfl rfl rfl rfl rfl rfl ⟨rfl, rfl, rfl, rfl, rfl⟩ rfl rfl rfl rfl rfl (by kernel_rfl) Try.func5 (by kernel_rfl)
    (of_decide_eq_true (by kernel_rfl)) (by unfold Func.isWrapper; first | (rw [if_pos (by decide +kernel)]; kernel_rfl) | (rw [if_neg (by decide +kernel)]; exact ⟨rfl, rfl⟩))
    (fun os started H enc _ => lifted os started H enc)
end LZipMakes
theorem ZipMakes_proved : Rows.ZipMakesSaid := LZipMakes.over
end Go.Proofs.Ytegcdddfccmljaa
