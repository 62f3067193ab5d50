
/-
  ConfGets returns true for every part and every name, and both read afterwards as they read before: no condition (the listed tables of unicode/utf8 are tied to the program's text, and never read; internal/bytealg.MaxLen is whatever it is).
-/
import Derived.Test.YtmcefflgbliehaaDoorRows
import Derived.Test.YtmcefflgbliehaaDoorCards
import Derived.Test.YtmcefflgbliehaaDoorTie
import Derived.Test.YtmcefflgbliehaaDoorCfQ
import Derived.Test.YtmcefflgbliehaaDoorDoorK
import Derived.WalkKit
import Derived.ProofKit
import Derived.OpenShut
import Derived.ShutString
import Derived.ChangeOld
import Derived.Below
import Derived.LaidMore
import Derived.Lay
import Derived.SevenTiedAt
import Derived.Stop.Joined
set_option linter.unusedVariables false
namespace Go.Proofs.YtmcefflgbliehaaDoor
namespace LConfGets
open Go.ChangeShapes Go.WideShapes Go.ChangeAt Go.RowKit Go.PlainAid
open Go.ChangeMaps (open_string shut_string)
set_option maxHeartbeats 4000000 in
set_option maxRecDepth 20000 in
theorem core (w : World) (hm : Mx w) (n0 : ByteArray) (v : Value) (l : List Pr) (h : ArgP w v l) (hl : l.length ≤ 1000) (nm : List UInt8) :
    Calls Tryd.prog 4 #[.agg #[.string n0, v], .string (tx nm)] w fun e w' => e = .returned (.bool true) ∧ Below w.heap.size w w' := by
  have hb0 := below_box w (.cells #[.string n0, v] 38)
  have k := conf_Get _ n0 v l (h.below hb0) nm
  have HP := hide (fun W (hW : ArgP W v l) => law_props W v l hW)
  have HG := hide (fun W v' (hW : ArgP W v' l) => ref18_Get W n0 v' l hW nm)
  have HH := hide (fun W (hW : Below w.heap.size w W) => h.below hW)
  have HM := hide (fun W (hW : Below w.heap.size w W) => hm.below hW)
  have HB0 := hide hb0
  have HX0 := hide (block_new w (.cells #[.string n0, v] 38))
  generalize tx (getV l nm) = V at *
  generalize getB l nm = G at *
  obtain ⟨a, cap, rfl⟩ := h.form
  have hlI : ¬ (1000 : Int) < (l.length : Int) := by omega
  have HL := hide hl
  clear h hm hb0
  unfold tx at k ⊢
  go_enter Tryd.func4, Tryd.ntmps4
  go_wp2_with fail
  generalize w.alloc (.cells #[.string n0, .slice a l.length cap] 38) = w0 at *
  refine k.mono ?_
  rintro e w1 ⟨rfl, hb1⟩
  have HX1 := hide (block_stay HX0.out hb1)
  have HB1 := hide (HB0.out.trans (hb1.mono HB0.out.size))
  clear k hb1
  go_wp2_with fail
  have x0 : w1.drew.cell? ⟨w.heap.size, 0, none⟩ = some (.string n0) := cells_of_block (w := w1.drew) HX1.out 0 _ rfl
  have x1 : w1.drew.cell? ⟨w.heap.size, 1, none⟩ = some (.slice a l.length cap) := cells_of_block (w := w1.drew) HX1.out 1 _ rfl
  have HB1d : Hid (Below w.heap.size w w1.drew) := HB1.out.drew
  have kP := HP.out w1.drew (HH.out _ HB1d.out)
  go_region_law (first
    | (go_simp; go_at_call 11; refine kP.mono ?_; rintro e w5 ⟨⟨v5, rfl, hown⟩, hb5⟩; have HB5 := hide (HB1d.out.trans (hb5.mono HB1d.out.size)); have HX5 := hide (block_stay (w := w1.drew) HX1.out hb5); have HA5 := hide (hown.arg (by have := HL.out; omega)); obtain ⟨a5, c5, hv5⟩ := row_form hown; subst hv5; have y0 := cells_of_block HX5.out 0 _ rfl; clear hown hb5)
    | (go_simp; go_at_call 16; refine (HG.out w5 _ HA5.out).mono ?_; rintro e w6 ⟨rfl, hb6⟩; have HB6 := hide (HB5.out.trans (hb6.mono HB5.out.size)); clear hb6))
  all_goals
    have kA := alive18 _ (HM.out _ HB6.out)
    clear x0 x1 y0 kP
    go_wp2_with (go_at_call 14; refine kA.mono ?_; rintro e w7 ⟨rfl, b7⟩)
    go_ret
    exact ⟨rfl, HB6.out.trans (b7.mono HB6.out.size)⟩
theorem walk (W : World) (x0 : ByteArray) (vd0 : Value) (h0 : IsPs W vd0) (_ : True) (nm : ByteArray) (w1 : nm.size ≤ maxLen) (hsh : W.ShapedOpen Tryd.prog) (hL : laidMetH Tryd.prog Rows.confGetsRow.laid W) :
    Calls Tryd.prog 4 #[.agg #[.string x0, vd0], .string nm] W fun e w' => e = .returned (.bool true) ∧ Below W.heap.size W w' := by
  obtain ⟨a, len, cap, rfl, h1, h2, h3⟩ := h0
  by_cases hl : len ≤ 1000
  · obtain ⟨l, rfl, h4⟩ := h3 (by omega)
    have := core W (mx_of_shape hsh) x0 _ l h4 hl nm.data.toList
    rwa [tx_data] at this
  · have hlI : (1000 : Int) < (len : Int) := by omega
    have hc : len ≤ 9223372036854775807 := by unfold maxLen at h2; omega
    have HB := hide (below_box W (.cells #[.string x0, .slice a len cap] 38))
    clear hL hsh h3 h1 h2
    go_enter Tryd.func4, Tryd.ntmps4
    go_wp2
    go_ret
    exact ⟨rfl, HB.out⟩
theorem own : ownKnob Tryd.prog.godebug = none := by kernel_rfl
theorem laidOut : laidOutB Tryd.prog = true := by kernel_rfl
set_option maxRecDepth 100000 in
theorem lifted (os : Os) (started : os.Started) (H : Type) (enc : TypeId × Value → H) :
    ReturnsInHanded {} Tryd.checked os 4 .any (fun w args => (Rows.confGetsSpec.pre enc Tryd.prog Tryd.f4 Rows.confGetsRow.domain false w args ∧ laidMetH Tryd.prog Rows.confGetsRow.laid w) ∧ sizedMet enc Tryd.prog Tryd.f4 (OpenSpec.ofChange Rows.confGetsSpec) false w args)
      (Rows.confGetsSpec.post enc Tryd.prog Tryd.f4 false true false false) := by
  refine wrap_and_shaped (C := Tryd.checked) (X := fun w _ => laidMetH Tryd.prog Rows.confGetsRow.laid w) (fun _ _ _ hh h => h.of_heap hh) own started (by kernel_rfl) Tryd.func4
    (ChangeSpec.witness_shaped (enc := enc) (C := Tryd.checked) (os := os) (X := fun w _ => laidMetH Tryd.prog Rows.confGetsRow.laid w) false (World.laidAll Tryd.prog os Rows.confGetsRow.laid) #[.agg #[.string ByteArray.empty, .slice none 0 0], .string ByteArray.empty] 8 (World.laidAll_os _ _ _)
      (World.shaped_of_ZipB (by kernel_rfl) (by kernel_rfl)) (by kernel_rfl) (by kernel_rfl) (by kernel_rfl)
      (by rw [MakeChecks.laidMetH_plain _ _ _ (by kernel_rfl)]; exact laidMet_laidAll _ (by kernel_rfl) (by kernel_rfl))) ?_
  intro W base args ds gs before hval0 hW hcnd hz hL hsh
  have hval : ∀ (j : Nat) t v, Tryd.f4.params[j]? = some t → args[j]? = some v → Value.okWide Tryd.prog W .any base t v := hval0
  have hW' := hW
  obtain ⟨p, q, hA0, hV, rfl, hfz, hnd⟩ := hW
  have hA : DataW.TrodAll enc Tryd.prog W 0 (fun _ => true) true Tryd.f4.params.toList args.toList ds p := hA0
  rw [Tryd.params4] at hA hval
  obtain ⟨v0, vs0, d0, ds0, p0, q0, hargs, rfl, rfl, h0, r0⟩ := trodAll_cons hA
  obtain ⟨v1, vs1, d1, ds1, p1, q1, rfl, rfl, rfl, h1, r1⟩ := trodAll_cons r0
  obtain ⟨rfl, rfl, rfl⟩ := trodAll_nil r1
  obtain rfl : args = #[v0, v1] := by cases args; simp_all
  obtain ⟨rfl, rfl⟩ := trodVars_none hV
  have k0 := h0
  have lt0 : ∀ x ∈ p0, x.block < W.heap.size := by obtain ⟨m, hm⟩ := k0; exact DataW.trod_lt m _ _ _ hm
  have k1 := h1
  have lt1 : ∀ x ∈ p1, x.block < W.heap.size := by obtain ⟨m, hm⟩ := k1; exact DataW.trod_lt m _ _ _ hm
  obtain ⟨cs0, rfl, _⟩ := okWide_struct Tryd.underlying38 (hval 0 38 v0 rfl rfl)
  obtain ⟨x0, vd0, rfl, o0, s0⟩ := opAgg_of h0
  obtain ⟨a1, rfl, rfl, rfl, w1⟩ := open_string Tryd.underlying9 (hval 1 9 v1 rfl rfl) h1
  clear hA0 hval0
  refine (walk W x0 vd0 o0 s0 a1 w1 hsh hL).mono fun e W' ⟨he, bel⟩ => ?_
  subst he
  exact ⟨_, rfl, _, _, _, [], _, [], hW', trodAll_mk1 (shut_bool Tryd.underlying4 _), (trodAll_cons_mk (Below.trod laidOut (by kernel_rfl) (of_decide_eq_true (by kernel_rfl)) k0 bel lt0) (trodAll_cons_mk (Below.trod laidOut (by kernel_rfl) (of_decide_eq_true (by kernel_rfl)) k1 bel lt1) trodAll_mk0)), rfl, bel.frame _, fun h => by cases h⟩

theorem over : Rows.confGetsRow.holds Tryd.pinned (OpenSpec.ofChange Rows.confGetsSpec) :=
  OpenClaim.holds_of_wide 4 Tryd.f4 rfl rfl rfl rfl rfl rfl rfl ⟨rfl, rfl, rfl, rfl, rfl⟩ rfl rfl rfl rfl rfl (by kernel_rfl) Tryd.func4 (by kernel_rfl)
    (of_decide_eq_true (by kernel_rfl)) (by unfold Func.isWrapper; first | (rw [if_pos (by decide +kernel)]; kernel_rfl) | (rw [if_neg (by decide +kernel)]; exact ⟨rfl, rfl⟩))
    (fun os started H enc _ => lifted os started H enc)

theorem card : Claim7.holds Tryd.pinned (.plain (OpenSpec.ofChange Rows.confGetsSpec)) Rows.confGetsCard :=
  Claim7.holds_tied_plain_at .later [] [.data, .pinned] true (true, "eb07dbec49a8a1946eec2d17a25fdca3c68a579a6d3af342861f4b402f0f9484") false over (fun _ h => by cases h) (by kernel_rfl) (fun _ h => by cases h) confGets_row_tie rfl ⟨rfl, rfl⟩ (by kernel_rfl) rfl
    (fun f fn hf hfn => by
      obtain rfl : f = 4 := Option.some.inj ((show Tryd.prog.funcNamed Rows.confGetsRow.func = some 4 by kernel_rfl).symm.trans hf) |>.symm
      obtain rfl : fn = Tryd.f4 := (Option.some.inj (Tryd.func4.symm.trans hfn)).symm
      exact ⟨by kernel_rfl, fun j t ht => by
        rw [Tryd.params4] at ht
        have hm : t ∈ [38, 9] := by simpa using Array.mem_of_getElem? ht
        have hall : ([38, 9].all fun u => !Tryd.prog.wantsStandIn u) = true := by kernel_rfl
        exact (show Tryd.prog.wantsStandIn t = false by simpa using List.all_eq_true.1 hall t hm)⟩)
    (by kernel_rfl)
end LConfGets
theorem ConfGets_proved : Rows.ConfGetsCardSaid := LConfGets.card
end Go.Proofs.YtmcefflgbliehaaDoor
