
/-
  RelsWrites returns true for any two rows of relocations and both kinds of list, and the rows read afterwards as they read before: no condition.
-/
import Derived.Test.YtkelipoiopkokaaRows
import Derived.Test.YtkelipoiopkokaaRlJ
import Derived.WalkKit
import Derived.ProofKit
import Derived.OpenShut
import Derived.ShutString
import Derived.ChangeOld
import Derived.Below
set_option linter.unusedVariables false
namespace Go.Proofs.Ytkelipoiopkokaa
namespace LRelsWrites
open Go.ChangeShapes Go.WideShapes Go.ChangeAt Go.RowKit Go.PlainAid Go.Sort
open Classical
set_option maxHeartbeats 4000000 in
set_option maxRecDepth 20000 in
theorem core (w : World) (v u : Value) (l m : List Rl) (h : ArgR w v l) (hm : ArgR w u m) (hl : l.length ≤ 1000) (hml : m.length ≤ 1000) (rela : Bool) :
    Calls Try.prog 4 #[v, u, .bool rela] w fun e w' => e = .returned (.bool true) ∧ Below w.heap.size w w' := by
  have HA := hide h
  have HM := hide hm
  have hT := rels_Encode w v l h rela (by omega)
  have HR := hide (fun W hW => ref12_Encode W v l hW rela (by omega))
  obtain ⟨D, hD⟩ : ∃ D, decide (l = m) = D := ⟨_, rfl⟩
  have HS1 := hide (fun W hW hV => rels_Same W v u l m hW hV)
  have HS2 := hide (fun W hW hV => ref12_Same W v u l m hW hV)
  rw [hD] at HS1 HS2
  have HS3 : Hid (∀ W, ArgR W v l → Calls Try.prog 10 #[v, v] W fun e w' => e = .returned (.bool true) ∧ Below W.heap.size W w') := fun W hW => by
    have k := rels_Same W v v l l hW hW
    rw [show decide (l = l) = true by simp] at k
    exact k
  obtain ⟨a, cap, rfl, _⟩ := h.form
  obtain ⟨b, cap2, rfl, _⟩ := hm.form
  obtain ⟨n, hn⟩ : ∃ n, l.length = n := ⟨_, rfl⟩
  obtain ⟨k, hk⟩ : ∃ k, m.length = k := ⟨_, rfl⟩
  rw [hn] at hl hT HR HA HS1 HS2 HS3 ⊢
  rw [hk] at hml HM HS1 HS2 ⊢
  have hnI : ¬ (1000 : Int) < (n : Int) := by omega
  have hkI : ¬ (1000 : Int) < (k : Int) := by omega
  clear h hm hn hk hD
  have HOK : Hid (∀ x, encR l rela = some x → x.length ≤ 100000) := fun x hx => by
    unfold encR at hx
    split at hx
    · rename_i hc
      injection hx with hx
      have := flat_short (l := l) hc.1 l.length
      rw [List.take_length] at this
      rw [← hx]; omega
    · cases hx
  generalize encR l rela = O at *
  go_enter Try.func4, Try.ntmps4
  go_wp2_with fail
  refine hT.mono ?_
  rintro e w1 ⟨hE, hb1⟩
  have HB1 := hide hb1
  have hRR := HR.out w1 (HA.out.below hb1)
  clear hT hb1 HR
  obtain ⟨B, q, hO⟩ : ∃ (B : List UInt8) (q : Int), (O = none ∧ B = [] ∧ q = 120) ∨ (O = some B ∧ q = 0) := by
    cases O with
    | none => exact ⟨[], 120, .inl ⟨rfl, rfl, rfl⟩⟩
    | some B => exact ⟨B, 0, .inr ⟨rfl, rfl⟩⟩
  have HBl : Hid (B.length ≤ 1000000000000) := by
    rcases hO with ⟨_, rfl, _⟩ | ⟨e, _⟩
    · simp [Hid]
    · have := HOK.out B e; rw [Hid]; omega
  obtain ⟨v1, hE1, hA1⟩ : ∃ v1, e = .returned (.tuple #[v1, .int .i64 q]) ∧ Arg w1 v1 B := by
    rcases hO with ⟨rfl, rfl, rfl⟩ | ⟨rfl, rfl⟩
    · exact ⟨_, hE, nilA _⟩
    · obtain ⟨v1, e1, o1⟩ := hE
      exact ⟨v1, e1, o1.arg HBl.out⟩
  subst hE1
  have HA1 := hide hA1
  clear hE hA1
  go_wp2_with fail
  refine hRR.mono ?_
  rintro e w2 ⟨hE, hb2⟩
  obtain ⟨v2, hE2, hA2⟩ : ∃ v2, e = .returned (.tuple #[v2, .int .i64 q]) ∧ Arg w2 v2 B := by
    rcases hO with ⟨rfl, rfl, rfl⟩ | ⟨rfl, rfl⟩
    · exact ⟨_, hE, nilA _⟩
    · obtain ⟨v1, e1, o1⟩ := hE
      exact ⟨v1, e1, o1.arg HBl.out⟩
  subst hE2
  have HB2 : Hid (Below w.heap.size w w2) := HB1.out.trans (hb2.mono HB1.out.size)
  have t1 := (HA1.out.below' hb2).text
  have t2 := hA2.text
  have hc1 := HS1.out w2 (HA.out.below HB2.out) (HM.out.below HB2.out)
  obtain ⟨a1, c1, rfl, _⟩ := hA2.isSlice
  obtain ⟨a2, c2, rfl, _⟩ := HA1.out.isSlice
  generalize B.length = BL at *
  generalize B.toArray = BA at *
  clear hRR hb2 hE hA2 hO HOK HA1 HBl
  go_wp2_with fail
  refine hc1.mono ?_
  rintro e w3 ⟨rfl, hb3⟩
  have HB3 : Hid (Below w.heap.size w w3) := HB2.out.trans (hb3.mono HB2.out.size)
  have hc2 := HS2.out w3 (HA.out.below HB3.out) (HM.out.below HB3.out)
  clear hc1 hb3 t1 t2
  go_wp2_with fail
  refine hc2.mono ?_
  rintro e w4 ⟨rfl, hb4⟩
  have HB4 : Hid (Below w.heap.size w w4) := HB3.out.trans (hb4.mono HB3.out.size)
  have hc3 := HS3.out w4 (HA.out.below HB4.out)
  clear hc2 hb4
  have hdd : (D == D) = true := by simp
  go_wp2_with fail
  refine hc3.mono ?_
  rintro e w5 ⟨rfl, hb5⟩
  have HB5 : Hid (Below w.heap.size w w5) := HB4.out.trans (hb5.mono HB4.out.size)
  have hAl := alive12 w5
  clear hc3 hb5
  go_wp2_with fail
  refine hAl.mono ?_
  rintro e w6 ⟨rfl, hb6⟩
  have HB6 : Hid (Below w.heap.size w w6) := HB5.out.trans (hb6.mono HB5.out.size)
  clear hAl hb6
  go_wp2
  go_ret
  exact ⟨rfl, HB6.out⟩
theorem walk (w : World) (s0 : Option Addr) (len0 cap0 : Nat) (h : IsRels w s0 len0 cap0) (s1 : Option Addr) (len1 cap1 : Nat) (h1 : IsRels w s1 len1 cap1) (rela : Bool) :
    Calls Try.prog 4 #[.slice s0 len0 cap0, .slice s1 len1 cap1, .bool rela] w fun e w' => e = .returned (.bool true) ∧ Below w.heap.size w w' := by
  obtain ⟨p1, p2, l, rfl, ha⟩ := h
  obtain ⟨p3, p4, m, rfl, hm⟩ := h1
  unfold maxLen at p2 p4
  by_cases hl : l.length ≤ 1000 ∧ m.length ≤ 1000
  · exact core w _ _ _ _ ha hm hl.1 hl.2 rela
  · have HBR : Hid (Below w.heap.size w w) := Below.refl _ _
    clear ha hm
    generalize l.length = n at *
    generalize m.length = k at *
    by_cases hn : n ≤ 1000
    · have hnI : ¬ (1000 : Int) < (n : Int) := by omega
      have hkI : (1000 : Int) < (k : Int) := by omega
      clear hl
      go_enter Try.func4, Try.ntmps4
      go_wp2
      go_ret
      exact ⟨rfl, HBR.out⟩
    · have hnI : (1000 : Int) < (n : Int) := by omega
      clear hl
      go_enter Try.func4, Try.ntmps4
      go_wp2
      go_ret
      exact ⟨rfl, HBR.out⟩
theorem own : ownKnob Try.prog.godebug = none := by kernel_rfl
theorem laidOut : laidOutB Try.prog = true := by kernel_rfl
set_option maxRecDepth 100000 in
theorem lifted (os : Os) (started : os.Started) (H : Type) (enc : TypeId × Value → H) :
    ReturnsInHanded {} Try.checked os 4 .any (Rows.relsWritesSpec.pre6 enc Try.prog Try.f4 Rows.relsWritesRow.domain false) (Rows.relsWritesSpec.post enc Try.prog Try.f4 false true false false) := by
  refine returnsInHanded_of_change (C := Try.checked) own started (by kernel_rfl) Try.func4
    (ChangeSpec.witness6 (enc := enc) (C := Try.checked) false ⟨#[], #[.slice none 0 0, .slice none 0 0, .bool false], []⟩ 8 (by kernel_rfl) (by kernel_rfl) (by kernel_rfl) (by kernel_rfl)) ?_
  intro W base args ds gs before hval0 hW hcnd _
  have hval : ∀ (j : Nat) t v, Try.f4.params[j]? = some t → args[j]? = some v → Value.okWide Try.prog W .any base t v := hval0
  have hW' := hW
  obtain ⟨p, q, hA0, hV, rfl, hfz, hnd⟩ := hW
  have hA : DataW.TrodAll enc Try.prog W 0 (fun _ => true) true Try.f4.params.toList args.toList ds p := hA0
  rw [Try.params4] at hA hval
  obtain ⟨v0, vs0, d0, ds0, p0, q0, hargs, rfl, rfl, h0, r0⟩ := trodAll_cons hA
  obtain ⟨v1, vs1, d1, ds1, p1, q1, rfl, rfl, rfl, h1, r1⟩ := trodAll_cons r0
  obtain ⟨v2, vs2, d2, ds2, p2, q2, rfl, rfl, rfl, h2, r2⟩ := trodAll_cons r1
  obtain ⟨rfl, rfl, rfl⟩ := trodAll_nil r2
  obtain rfl : args = #[v0, v1, v2] := by cases args; simp_all
  obtain ⟨rfl, rfl⟩ := trodVars_none hV
  have k0 := h0
  have lt0 : ∀ x ∈ p0, x.block < W.heap.size := by obtain ⟨m, hm⟩ := k0; exact DataW.trod_lt m _ _ _ hm
  have k1 := h1
  have lt1 : ∀ x ∈ p1, x.block < W.heap.size := by obtain ⟨m, hm⟩ := k1; exact DataW.trod_lt m _ _ _ hm
  have k2 := h2
  have lt2 : ∀ x ∈ p2, x.block < W.heap.size := by obtain ⟨m, hm⟩ := k2; exact DataW.trod_lt m _ _ _ hm
  obtain ⟨s0, len0, cap0, rfl⟩ := okWide_slice Try.underlying23 (hval 0 23 v0 rfl rfl)
  have w0 := isOps_of h0
  obtain ⟨s1, len1, cap1, rfl⟩ := okWide_slice Try.underlying23 (hval 1 23 v1 rfl rfl)
  have w1 := isOps_of h1
  obtain ⟨a2, rfl, rfl, rfl⟩ := open_bool Try.underlying4 (hval 2 4 v2 rfl rfl) h2
  clear hA0 hval0
  refine (walk W s0 len0 cap0 w0 s1 len1 cap1 w1 a2).mono fun e W' ⟨he, bel⟩ => ?_
  subst he
  exact ⟨_, rfl, _, _, _, [], _, [], hW', trodAll_mk1 (shut_bool Try.underlying4 _), (trodAll_cons_mk (Below.trod laidOut (by kernel_rfl) (of_decide_eq_true (by kernel_rfl)) k0 bel lt0) (trodAll_cons_mk (Below.trod laidOut (by kernel_rfl) (of_decide_eq_true (by kernel_rfl)) k1 bel lt1) (trodAll_cons_mk (Below.trod laidOut (by kernel_rfl) (of_decide_eq_true (by kernel_rfl)) k2 bel lt2) trodAll_mk0))), rfl, bel.frame _, fun h => by cases h⟩

theorem over : Rows.relsWritesRow.holds Try.pinned (OpenSpec.ofChange Rows.relsWritesSpec) :=
  OpenClaim.holds_of_wide 4 Try.f4 rfl rfl rfl rfl rfl rfl rfl ⟨rfl, rfl, rfl, rfl, rfl⟩ rfl rfl rfl rfl rfl (by kernel_rfl) Try.func4 (by kernel_rfl)
    (of_decide_eq_true (by kernel_rfl)) (by unfold Func.isWrapper; first | (rw [if_pos (by decide +kernel)]; kernel_rfl) | (rw [if_neg (by decide +kernel)]; exact ⟨rfl, rfl⟩))
    (fun os started H enc _ => lifted os started H enc)
end LRelsWrites
theorem RelsWrites_proved : Rows.RelsWritesSaid := LRelsWrites.over
end Go.Proofs.Ytkelipoiopkokaa
