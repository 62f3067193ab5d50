/-
  PathSlow returns true for every two texts, and the texts read afterwards as they read before: no condition (the listed tables of unicode/utf8 are tied to the program's text, and never read; internal/bytealg.MaxLen is whatever it is).
-/
import Derived.Test.YtobamanlfcnilabDoorRows
import Derived.Test.YtobamanlfcnilabDoorCards
import Derived.Test.YtobamanlfcnilabDoorTie
import Derived.Test.YtobamanlfcnilabDoorDoorK
import Derived.Test.YtobamanlfcnilabDoorPathK
import Derived.WalkKit
import Derived.ProofKit
import Derived.OpenShut
import Derived.ShutString
import Derived.ChangeOld
import Derived.Below
import Derived.LaidMore
import Derived.Lay
import Derived.SevenTiedAt
import Derived.Stop.Joined
set_option linter.unusedVariables false
namespace Go.Proofs.YtobamanlfcnilabDoor
namespace LPathSlow
open Go.ChangeShapes Go.WideShapes Go.ChangeAt Go.RowKit
open Go.ChangeMaps (open_string shut_string)
theorem slow (p q : List UInt8) (hp : can p = true) (hq : can (p ++ 47 :: q) = true) (h1 : p.length ≤ 100) (h2 : q.length ≤ 100) :
    joinT (cl p) (46 :: 47 :: q) = cl (p ++ 47 :: q) ∧ joinE (cl p) (46 :: 47 :: q) = 0 := by
  have hcan : can (cl p ++ 47 :: 46 :: 47 :: q) = true := by
    have h3 := cl_can hp
    have h4 := cl_le hp
    unfold can good at *
    simp only [Bool.and_eq_true, List.all_append, List.all_cons, decide_eq_true_eq, List.length_append, List.length_cons] at *
    refine ⟨⟨⟨h3.1.1, by decide, by decide, by decide, hq.1.1.2.2⟩, by omega⟩, ?_⟩
    have h5 := h3.2
    unfold Lib.hasPrefix at *
    rw [List.isPrefixOf_iff_prefix] at *
    exact h5.trans (List.prefix_append _ _)
  have hnp : Lib.hasPrefix (46 :: 47 :: q) [47] = false := by simp [Lib.hasPrefix, List.isPrefixOf]
  have hcl : cl (cl p ++ 47 :: 46 :: 47 :: q) = cl (p ++ 47 :: q) := by
    unfold cl
    rw [names_append, show (46 :: 47 :: q : List UInt8) = [46] ++ 47 :: q from rfl, names_append, names_stk, names_append, show names [46] = [] from rfl, List.nil_append, stk_append, stk_append, stk_stk]
  unfold joinT joinE
  rw [hnp]
  simp only [Bool.false_eq_true, if_false]
  unfold clT clE
  rw [hcan, if_pos rfl, if_pos rfl, hcl]
  exact ⟨rfl, rfl⟩
set_option maxHeartbeats 4000000 in
set_option maxRecDepth 20000 in
theorem core (p q : ByteArray) (w : World) (hm : Mx w) (hp : p.size ≤ 100) (hq : q.size ≤ 100) :
    Calls Tryd.prog 3 #[.string p, .string q] w fun e w' => e = .returned (.bool true) ∧ Below w.heap.size w w' := by
  have hA := path_Clean p w hm (by omega)
  have hB := fun w hm => path_Clean (p ++ ⟨#[47]⟩ ++ q) w hm (by simp [ByteArray.size_append]; show p.size + 1 + q.size ≤ _; omega)
  rw [add_slash] at hB
  have hpI : ¬ 100 < (p.size : Int) := by omega
  have hqI : ¬ 100 < (q.size : Int) := by omega
  have HM : Hid (Mx w) := hm
  cases h1 : can p.data.toList with
  | false =>
    have hE : clE p.data.toList = 40 := by unfold clE; rw [h1]; rfl
    rw [hE] at hA
    generalize tx (clT p.data.toList) = T at *
    generalize tx (clT (p.data.toList ++ 47 :: q.data.toList)) = T2 at *
    generalize clE (p.data.toList ++ 47 :: q.data.toList) = E2 at *
    clear hm hE h1
    go_enter Tryd.func3, Tryd.ntmps3
    go_wp2_with fail
    refine hA.mono ?_
    rintro e w1 ⟨rfl, b1⟩
    have HM1 : Hid (Mx w1) := HM.out.below b1
    clear hA
    go_wp2_with fail
    refine (hB _ HM1.out).mono ?_
    rintro e w2 ⟨rfl, b2⟩
    have HM2 : Hid (Mx w2) := HM1.out.below b2
    have bl2 := b1.trans (b2.mono b1.size)
    clear hB
    go_wp2_with fail
    refine (alive04 _ HM2.out).mono ?_
    rintro e w7 ⟨rfl, b7⟩
    have bl7 := bl2.trans (b7.mono bl2.size)
    go_wp2
    go_ret
    exact ⟨rfl, bl7⟩
  | true =>
    have hE : clE p.data.toList = 0 := by unfold clE; rw [h1]; rfl
    have hT : clT p.data.toList = cl p.data.toList := by unfold clT; rw [h1]; rfl
    rw [hE, hT] at hA
    cases h2 : can (p.data.toList ++ 47 :: q.data.toList) with
    | false =>
      have hE2 : clE (p.data.toList ++ 47 :: q.data.toList) = 40 := by unfold clE; rw [h2]; rfl
      rw [hE2] at hB
      generalize tx (cl p.data.toList) = T at *
      generalize tx (clT (p.data.toList ++ 47 :: q.data.toList)) = T2 at *
      clear hm hE h1 hT h2 hE2
      go_enter Tryd.func3, Tryd.ntmps3
      go_wp2_with fail
      refine hA.mono ?_
      rintro e w1 ⟨rfl, b1⟩
      have HM1 : Hid (Mx w1) := HM.out.below b1
      clear hA
      go_wp2_with fail
      refine (hB _ HM1.out).mono ?_
      rintro e w2 ⟨rfl, b2⟩
      have HM2 : Hid (Mx w2) := HM1.out.below b2
      have bl2 := b1.trans (b2.mono b1.size)
      clear hB
      go_wp2_with fail
      refine (alive04 _ HM2.out).mono ?_
      rintro e w7 ⟨rfl, b7⟩
      have bl7 := bl2.trans (b7.mono bl2.size)
      go_wp2
      go_ret
      exact ⟨rfl, bl7⟩
    | true =>
      have hE2 : clE (p.data.toList ++ 47 :: q.data.toList) = 0 := by unfold clE; rw [h2]; rfl
      have hT2 : clT (p.data.toList ++ 47 :: q.data.toList) = cl (p.data.toList ++ 47 :: q.data.toList) := by unfold clT; rw [h2]; rfl
      rw [hE2, hT2] at hB
      have hs := slow p.data.toList q.data.toList h1 h2 (by rw [← size_list]; exact hp) (by rw [← size_list]; exact hq)
      have hle := cl_le h1
      rw [← size_list] at hle
      have hJ := fun w hm => path_Join (tx (cl p.data.toList)) (⟨#[46, 47]⟩ ++ q) w hm (by rw [tx_size]; omega) (by simp [ByteArray.size_append]; show 2 + q.size ≤ _; omega)
      have hd : ((⟨#[46, 47]⟩ : ByteArray) ++ q).data.toList = 46 :: 47 :: q.data.toList := by
        rw [← tx_data q, show (⟨#[46, 47]⟩ : ByteArray) = tx [46, 47] from rfl, tx_append, data_tx, data_tx]; rfl
      rw [hd, data_tx, hs.1, hs.2] at hJ
      generalize tx (cl p.data.toList) = T at *
      generalize tx (cl (p.data.toList ++ 47 :: q.data.toList)) = T2 at *
      clear hm hE h1 hT h2 hE2 hT2 hs hle hd
      go_enter Tryd.func3, Tryd.ntmps3
      go_wp2_with fail
      refine hA.mono ?_
      rintro e w1 ⟨rfl, b1⟩
      have HM1 : Hid (Mx w1) := HM.out.below b1
      clear hA
      go_wp2_with fail
      refine (hB _ HM1.out).mono ?_
      rintro e w2 ⟨rfl, b2⟩
      have HM2 : Hid (Mx w2) := HM1.out.below b2
      have bl2 := b1.trans (b2.mono b1.size)
      clear hB
      go_wp2_with fail
      refine (hJ _ HM2.out).mono ?_
      rintro e w3 ⟨rfl, b3⟩
      have HM3 : Hid (Mx w3) := HM2.out.below b3
      have bl3 := bl2.trans (b3.mono bl2.size)
      clear hJ
      go_wp2_with fail
      refine (alive04 _ HM3.out).mono ?_
      rintro e w7 ⟨rfl, b7⟩
      have bl7 := bl3.trans (b7.mono bl3.size)
      go_wp2
      go_ret
      exact ⟨rfl, bl7⟩
theorem walk (d : ByteArray) (w0 : d.size ≤ maxLen) (n : ByteArray) (w1 : n.size ≤ maxLen) (w : World) (hsh : w.ShapedOpen Tryd.prog) (hL : laidMetH Tryd.prog Rows.pathSlowRow.laid w) :
    Calls Tryd.prog 3 #[.string d, .string n] w fun e w' => e = .returned (.bool true) ∧ Below w.heap.size w w' := by
  have hdm : d.size ≤ 9223372036854775807 := by unfold maxLen at w0; omega
  have hnm : n.size ≤ 9223372036854775807 := by unfold maxLen at w1; omega
  by_cases hd : d.size ≤ 100
  · by_cases hn : n.size ≤ 100
    · exact core d n w (mx_of_shape hsh) hd hn
    · have hdI : ¬ 100 < (d.size : Int) := by omega
      have hnI : 100 < (n.size : Int) := by omega
      clear hL hsh
      go_enter Tryd.func3, Tryd.ntmps3
      go_wp2
      go_ret
      exact ⟨rfl, Below.refl _ _⟩
  · have hdI : 100 < (d.size : Int) := by omega
    clear hL hsh
    go_enter Tryd.func3, Tryd.ntmps3
    go_wp2
    go_ret
    exact ⟨rfl, Below.refl _ _⟩
theorem own : ownKnob Tryd.prog.godebug = none := by kernel_rfl
theorem laidOut : laidOutB Tryd.prog = true := by kernel_rfl
set_option maxRecDepth 100000 in
theorem lifted (os : Os) (started : os.Started) (H : Type) (enc : TypeId × Value → H) :
    ReturnsInHanded {} Tryd.checked os 3 .any (fun w args => (Rows.pathSlowSpec.pre enc Tryd.prog Tryd.f3 Rows.pathSlowRow.domain false w args ∧ laidMetH Tryd.prog Rows.pathSlowRow.laid w) ∧ sizedMet enc Tryd.prog Tryd.f3 (OpenSpec.ofChange Rows.pathSlowSpec) false w args)
      (Rows.pathSlowSpec.post enc Tryd.prog Tryd.f3 false true false false) := by
  refine wrap_and_shaped (C := Tryd.checked) (X := fun w _ => laidMetH Tryd.prog Rows.pathSlowRow.laid w) (fun _ _ _ hh h => h.of_heap hh) own started (by kernel_rfl) Tryd.func3
    (ChangeSpec.witness_shaped (enc := enc) (C := Tryd.checked) (os := os) (X := fun w _ => laidMetH Tryd.prog Rows.pathSlowRow.laid w) false (World.laidAll Tryd.prog os Rows.pathSlowRow.laid) #[.string ByteArray.empty, .string ByteArray.empty] 8 (World.laidAll_os _ _ _)
      (World.shaped_of_ZipB (by kernel_rfl) (by kernel_rfl)) (by kernel_rfl) (by kernel_rfl) (by kernel_rfl)
      (by rw [MakeChecks.laidMetH_plain _ _ _ (by kernel_rfl)]; exact laidMet_laidAll _ (by kernel_rfl) (by kernel_rfl))) ?_
  intro W base args ds gs before hval0 hW hcnd _ hL hsh
  have hval : ∀ (j : Nat) t v, Tryd.f3.params[j]? = some t → args[j]? = some v → Value.okWide Tryd.prog W .any base t v := hval0
  have hW' := hW
  obtain ⟨p, q, hA0, hV, rfl, hfz, hnd⟩ := hW
  have hA : DataW.TrodAll enc Tryd.prog W 0 (fun _ => true) true Tryd.f3.params.toList args.toList ds p := hA0
  rw [Tryd.params3] at hA hval
  obtain ⟨v0, vs0, d0, ds0, p0, q0, hargs, rfl, rfl, h0, r0⟩ := trodAll_cons hA
  obtain ⟨v1, vs1, d1, ds1, p1, q1, rfl, rfl, rfl, h1, r1⟩ := trodAll_cons r0
  obtain ⟨rfl, rfl, rfl⟩ := trodAll_nil r1
  obtain rfl : args = #[v0, v1] := by cases args; simp_all
  obtain ⟨rfl, rfl⟩ := trodVars_none hV
  have k0 := h0
  have lt0 : ∀ x ∈ p0, x.block < W.heap.size := by obtain ⟨m, hm⟩ := k0; exact DataW.trod_lt m _ _ _ hm
  have k1 := h1
  have lt1 : ∀ x ∈ p1, x.block < W.heap.size := by obtain ⟨m, hm⟩ := k1; exact DataW.trod_lt m _ _ _ hm
  obtain ⟨a0, rfl, rfl, rfl, w0⟩ := open_string Tryd.underlying9 (hval 0 9 v0 rfl rfl) h0
  obtain ⟨a1, rfl, rfl, rfl, w1⟩ := open_string Tryd.underlying9 (hval 1 9 v1 rfl rfl) h1
  clear hA0 hval0
  refine (walk a0 w0 a1 w1 W hsh hL).mono fun e W' ⟨he, bel⟩ => ?_
  subst he
  exact ⟨_, rfl, _, _, _, [], _, [], hW', trodAll_mk1 (shut_bool Tryd.underlying4 _), (trodAll_cons_mk (Below.trod laidOut (by kernel_rfl) (of_decide_eq_true (by kernel_rfl)) k0 bel lt0) (trodAll_cons_mk (Below.trod laidOut (by kernel_rfl) (of_decide_eq_true (by kernel_rfl)) k1 bel lt1) trodAll_mk0)), rfl, bel.frame _, fun h => by cases h⟩

theorem over : Rows.pathSlowRow.holds Tryd.pinned (OpenSpec.ofChange Rows.pathSlowSpec) :=
  OpenClaim.holds_of_wide 3 Tryd.f3 rfl rfl rfl rfl rfl rfl rfl ⟨rfl, rfl, rfl, rfl, rfl⟩ rfl rfl rfl rfl rfl (by kernel_rfl) Tryd.func3 (by kernel_rfl)
    (of_decide_eq_true (by kernel_rfl)) (by unfold Func.isWrapper; first | (rw [if_pos (by decide +kernel)]; kernel_rfl) | (rw [if_neg (by decide +kernel)]; exact ⟨rfl, rfl⟩))
    (fun os started H enc _ => lifted os started H enc)

theorem card : Claim7.holds Tryd.pinned (.plain (OpenSpec.ofChange Rows.pathSlowSpec)) Rows.pathSlowCard :=
  Claim7.holds_tied_plain_at .later [] [.data, .pinned] true (true, "9c08c2cb9dbfde85c607266586be4322027c23229bb01b2653dc26eca1849a85") false over (fun _ h => by cases h) (by kernel_rfl) (fun _ h => by cases h) pathSlow_row_tie rfl ⟨rfl, rfl⟩ (by kernel_rfl) rfl
    (fun f fn hf hfn => by
      obtain rfl : f = 3 := Option.some.inj ((show Tryd.prog.funcNamed Rows.pathSlowRow.func = some 3 by kernel_rfl).symm.trans hf) |>.symm
      obtain rfl : fn = Tryd.f3 := (Option.some.inj (Tryd.func3.symm.trans hfn)).symm
      exact ⟨by kernel_rfl, fun j t ht => by
        rw [Tryd.params3] at ht
        have hm : t ∈ [9] := by simpa using Array.mem_of_getElem? ht
        have hall : ([9].all fun u => !Tryd.prog.wantsStandIn u) = true := by kernel_rfl
        exact (show Tryd.prog.wantsStandIn t = false by simpa using List.all_eq_true.1 hall t hm)⟩)
    (by kernel_rfl)
end LPathSlow
theorem PathSlow_proved : Rows.PathSlowCardSaid := LPathSlow.card
end Go.Proofs.YtobamanlfcnilabDoor
