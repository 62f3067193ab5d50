
/-
  RelrWrites returns true for every row of numbers, and the row reads afterwards as it read before: no condition but that the listed variable starts as the program's text lays it.
-/
import Derived.Test.YtkelipoiopkokaaDoorRrK
import Derived.Test.YtkelipoiopkokaaDoorRrQ
import Derived.WalkKit
import Derived.ProofKit
import Derived.OpenShut
import Derived.ShutString
import Derived.ChangeOld
import Derived.Below
import Derived.SevenTiedAt
set_option linter.unusedVariables false
namespace Go.Proofs.YtkelipoiopkokaaDoor
namespace LRelrWrites
open Go.ChangeShapes Go.WideShapes Go.ChangeAt Go.RowKit Go.PlainAid Go.Sort
theorem tab {W : World} (h : laidMetH Tryd.prog Rows.relrWritesRow.laid W) : TabZ W := tab_of_vars _ rfl (by kernel_rfl) (by kernel_rfl) (by kernel_rfl) h
set_option maxHeartbeats 4000000 in
set_option maxRecDepth 20000 in
theorem core (w : World) (v : Value) (l : List Nat) (h : ArgN w v l) (hl : l.length ≤ 1000) (hTab : TabZ w) :
    Calls Tryd.prog 4 #[v] w fun e w' => e = .returned (.bool true) ∧ Below w.heap.size w w' := by
  have HA := hide h
  have hT := relr_Encode w v l h (by omega)
  have HTab := hide hTab
  have HR := hide (fun W hW => ref13_Encode W v l hW (by omega))
  obtain ⟨a, cap, rfl, c1, c2⟩ := h.form
  obtain ⟨n, hn⟩ : ∃ n, l.length = n := ⟨_, rfl⟩
  have HN := hide hn
  rw [hn] at hl hT HA c1 HR ⊢
  have hnI : ¬ (1000 : Int) < (n : Int) := by omega
  have HOK : Hid (∀ x, relrE l = some x → x.length ≤ 100000) := fun x hx => by
    obtain ⟨h1, h2, rfl⟩ := relrE_is hx
    have := encW_len l
    rw [flatW_len]; omega
  clear h hn hTab
  generalize relrE l = O at *
  go_enter Tryd.func4, Tryd.ntmps4
  go_wp2_with fail
  refine hT.mono ?_
  rintro e w1 ⟨hE, hb1⟩
  have HB1 := hide hb1
  have hRR := HR.out w1 (HA.out.below hb1)
  clear hT hb1 HR
  obtain ⟨B, q, hO⟩ : ∃ (B : List UInt8) (q : Int), (O = none ∧ B = [] ∧ q = 130) ∨ (O = some B ∧ q = 0) := by
    cases O with
    | none => exact ⟨[], 130, .inl ⟨rfl, rfl, rfl⟩⟩
    | some B => exact ⟨B, 0, .inr ⟨rfl, rfl⟩⟩
  have HBl : Hid (B.length ≤ 1000000000000) := by
    rcases hO with ⟨_, rfl, _⟩ | ⟨e, _⟩
    · simp [Hid]
    · have := HOK.out B e; rw [Hid]; omega
  obtain ⟨v1, hE1, hA1⟩ : ∃ v1, e = .returned (.tuple #[v1, .int .i64 q]) ∧ Arg w1 v1 B := by
    rcases hO with ⟨rfl, rfl, rfl⟩ | ⟨rfl, rfl⟩
    · exact ⟨_, hE, nilB _⟩
    · obtain ⟨v1, e1, o1⟩ := hE
      exact ⟨v1, e1, o1.arg HBl.out⟩
  subst hE1
  have HA1 := hide hA1
  clear hE hA1
  go_wp2_with fail
  refine hRR.mono ?_
  rintro e w2 ⟨hE, hb2⟩
  obtain ⟨v2, hE2, hA2⟩ : ∃ v2, e = .returned (.tuple #[v2, .int .i64 q]) ∧ Arg w2 v2 B := by
    rcases hO with ⟨rfl, rfl, rfl⟩ | ⟨rfl, rfl⟩
    · exact ⟨_, hE, nilB _⟩
    · obtain ⟨v1, e1, o1⟩ := hE
      exact ⟨v1, e1, o1.arg HBl.out⟩
  subst hE2
  have HB2 : Hid (Below w.heap.size w w2) := HB1.out.trans (hb2.mono HB1.out.size)
  have t1 := (HA1.out.below' hb2).text
  have t2 := hA2.text
  obtain ⟨a1, c1', rfl, _⟩ := hA2.isSlice
  obtain ⟨a2, c2', rfl, _⟩ := HA1.out.isSlice
  generalize B.length = BL at *
  generalize B.toArray = BA at *
  have hAl := alive13 w2 (HTab.out.below HB2.out)
  clear hRR hb2 hE hA2 hO HOK HA1 HBl
  go_wp2_with fail
  refine hAl.mono ?_
  rintro e w6 ⟨rfl, hb6⟩
  have HB6 : Hid (Below w.heap.size w w6) := HB2.out.trans (hb6.mono HB2.out.size)
  clear hAl hb6 t1 t2
  go_wp2
  go_ret
  exact ⟨rfl, HB6.out⟩
theorem walk (w : World) (s0 : Option Addr) (len0 cap0 : Nat) (z0 : List Int) (h : IsRow .u64 w s0 len0 cap0 z0) (hsh : w.ShapedOpen Tryd.prog) (hL : laidMetH Tryd.prog Rows.relrWritesRow.laid w) :
    Calls Tryd.prog 4 #[.slice s0 len0 cap0] w fun e w' => e = .returned (.bool true) ∧ Below w.heap.size w w' := by
  by_cases hl : len0 ≤ 1000
  · obtain ⟨l, e, ha⟩ := h.argN
    exact core w _ _ ha (by omega) (tab hL)
  · have hl2 : (1000 : Int) < (len0 : Int) := by omega
    have HBR : Hid (Below w.heap.size w w) := Below.refl _ _
    have hlm : len0 ≤ 9223372036854775807 := by
      rcases h with ⟨_, rfl, _⟩ | ⟨_, _, h1, h2, _⟩
      · omega
      · unfold maxLen at h2; omega
    clear h hsh hL
    go_enter Tryd.func4, Tryd.ntmps4
    go_wp2
    go_ret
    exact ⟨rfl, HBR.out⟩
theorem own : ownKnob Tryd.prog.godebug = none := by kernel_rfl
theorem laidOut : laidOutB Tryd.prog = true := by kernel_rfl
set_option maxRecDepth 100000 in
theorem lifted (os : Os) (started : os.Started) (H : Type) (enc : TypeId × Value → H) :
    ReturnsInHanded {} Tryd.checked os 4 .any (fun w args => (Rows.relrWritesSpec.pre enc Tryd.prog Tryd.f4 Rows.relrWritesRow.domain false w args ∧ laidMetH Tryd.prog Rows.relrWritesRow.laid w) ∧ sizedMet enc Tryd.prog Tryd.f4 (OpenSpec.ofChange Rows.relrWritesSpec) false w args)
      (Rows.relrWritesSpec.post enc Tryd.prog Tryd.f4 false true false false) := by
  refine wrap_and_shaped (C := Tryd.checked) (X := fun w _ => laidMetH Tryd.prog Rows.relrWritesRow.laid w) (fun _ _ _ hh h => h.of_heap hh) own started (by kernel_rfl) Tryd.func4
    (ChangeSpec.witness_shaped (enc := enc) (C := Tryd.checked) (os := os) (X := fun w _ => laidMetH Tryd.prog Rows.relrWritesRow.laid w) false (World.laidAll Tryd.prog os Rows.relrWritesRow.laid) #[.slice none 0 0] 8 (World.laidAll_os _ _ _)
      (World.shaped_of_ZipB (by kernel_rfl) (by kernel_rfl)) (by kernel_rfl) (by kernel_rfl) (by kernel_rfl)
      (by rw [MakeChecks.laidMetH_plain _ _ _ (by kernel_rfl)]; exact laidMet_laidAll _ (by kernel_rfl) (by kernel_rfl))) ?_
  intro W base args ds gs before hval0 hW hcnd hz hL hsh
  have hval : ∀ (j : Nat) t v, Tryd.f4.params[j]? = some t → args[j]? = some v → Value.okWide Tryd.prog W .any base t v := hval0
  have hW' := hW
  obtain ⟨p, q, hA0, hV, rfl, hfz, hnd⟩ := hW
  have hA : DataW.TrodAll enc Tryd.prog W 0 (fun _ => true) true Tryd.f4.params.toList args.toList ds p := hA0
  rw [Tryd.params4] at hA hval
  obtain ⟨v0, vs0, d0, ds0, p0, q0, hargs, rfl, rfl, h0, r0⟩ := trodAll_cons hA
  obtain ⟨rfl, rfl, rfl⟩ := trodAll_nil r0
  obtain rfl : args = #[v0] := by cases args; simp_all
  obtain ⟨rfl, rfl⟩ := trodVars_none hV
  have k0 := h0
  have lt0 : ∀ x ∈ p0, x.block < W.heap.size := by obtain ⟨m, hm⟩ := k0; exact DataW.trod_lt m _ _ _ hm
  obtain ⟨s0, len0, cap0, rfl⟩ := okWide_slice Tryd.underlying23 (hval 0 23 v0 rfl rfl)
  obtain ⟨z0, w0⟩ : ∃ zs, IsRow .u64 W s0 len0 cap0 zs := by
    obtain ⟨fuel, hf⟩ := h0
    rcases open_ints Tryd.underlying23 Tryd.underlying37 (by kernel_rfl) hf with ⟨hcs, _⟩ | ⟨x, l, c, zs, hcs, _, hl, hm, hz, _, hcell, hwz⟩
    · simp [Value.cells] at hcs
      obtain ⟨rfl, rfl, rfl⟩ := hcs
      exact ⟨[], .inl ⟨rfl, rfl, rfl, rfl⟩⟩
    · simp [Value.cells] at hcs
      obtain ⟨rfl, rfl, rfl⟩ := hcs
      exact ⟨zs, .inr ⟨_, rfl, hl, hm, by simpa using hz, hcell, hwz⟩⟩
  clear hA0 hval0
  refine (walk W s0 len0 cap0 z0 w0 hsh hL).mono fun e W' ⟨he, bel⟩ => ?_
  subst he
  exact ⟨_, rfl, _, _, _, [], _, [], hW', trodAll_mk1 (shut_bool Tryd.underlying4 _), (trodAll_cons_mk (Below.trod laidOut (by kernel_rfl) (of_decide_eq_true (by kernel_rfl)) k0 bel lt0) trodAll_mk0), rfl, bel.frame _, fun h => by cases h⟩

theorem over : Rows.relrWritesRow.holds Tryd.pinned (OpenSpec.ofChange Rows.relrWritesSpec) :=
  OpenClaim.holds_of_wide 4 Tryd.f4 rfl rfl rfl rfl rfl rfl rfl ⟨rfl, rfl, rfl, rfl, rfl⟩ rfl rfl rfl rfl rfl (by kernel_rfl) Tryd.func4 (by kernel_rfl)
    (of_decide_eq_true (by kernel_rfl)) (by unfold Func.isWrapper; first | (rw [if_pos (by decide +kernel)]; kernel_rfl) | (rw [if_neg (by decide +kernel)]; exact ⟨rfl, rfl⟩))
    (fun os started H enc _ => lifted os started H enc)

theorem card : Claim7.holds Tryd.pinned (.plain (OpenSpec.ofChange Rows.relrWritesSpec)) Rows.relrWritesCard :=
  Claim7.holds_tied_plain_at .later [] [.data] true (true, "60496cfbdc6660834f5f911938d26717a5a018324f6b8d3d9309a664f127f0d5") false over (fun _ h => by cases h) (by kernel_rfl) (fun _ h => by cases h) relrWrites_row_tie rfl ⟨rfl, rfl⟩ (by kernel_rfl) rfl
    (fun f fn hf hfn => by
      obtain rfl : f = 4 := Option.some.inj ((show Tryd.prog.funcNamed Rows.relrWritesRow.func = some 4 by kernel_rfl).symm.trans hf) |>.symm
      obtain rfl : fn = Tryd.f4 := (Option.some.inj (Tryd.func4.symm.trans hfn)).symm
      exact ⟨by kernel_rfl, fun j t ht => by
        rw [Tryd.params4] at ht
        have hm : t ∈ [23] := by simpa using Array.mem_of_getElem? ht
        have hall : ([23].all fun u => !Tryd.prog.wantsStandIn u) = true := by kernel_rfl
        exact (show Tryd.prog.wantsStandIn t = false by simpa using List.all_eq_true.1 hall t hm)⟩)
    (by kernel_rfl)
end LRelrWrites
theorem RelrWrites_proved : Rows.RelrWritesCardSaid := LRelrWrites.card
end Go.Proofs.YtkelipoiopkokaaDoor
