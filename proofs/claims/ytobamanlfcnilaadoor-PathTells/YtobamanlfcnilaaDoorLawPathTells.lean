/-
  PathTells returns true for every two texts, and the texts read afterwards as they read before: no condition (the listed tables of unicode/utf8 are tied to the program's text, and never read; internal/bytealg.MaxLen is whatever it is).
-/
import Derived.Test.YtobamanlfcnilaaDoorRows
import Derived.Test.YtobamanlfcnilaaDoorCards
import Derived.Test.YtobamanlfcnilaaDoorTie
import Derived.Test.YtobamanlfcnilaaDoorDoorK
import Derived.WalkKit
import Derived.ProofKit
import Derived.OpenShut
import Derived.ShutString
import Derived.ChangeOld
import Derived.Below
import Derived.LaidMore
import Derived.Lay
import Derived.SevenTiedAt
import Derived.Stop.Joined
set_option linter.unusedVariables false
namespace Go.Proofs.YtobamanlfcnilaaDoor
namespace LPathTells
open Go.ChangeShapes Go.WideShapes Go.ChangeAt Go.RowKit
open Go.ChangeMaps (open_string shut_string)
theorem plist_len (l : List UInt8) : (plist l).length ≤ l.length + 1 := by
  have h1 := List.length_filter_le (· != []) (sp 58 l)
  have h2 := sp_len 58 l
  unfold plist; omega
set_option maxHeartbeats 4000000 in
set_option maxRecDepth 20000 in
theorem core (s d : ByteArray) (w : World) (hm : Mx w) (hs : s.size ≤ 4096) (hd : d.size ≤ 4096) :
    Calls Tryd.prog 5 #[.string s, .string d] w fun e w' => e = .returned (.bool true) ∧ Below w.heap.size w w' := by
  have hA := path_Archive s w hm (by omega)
  have hB := fun w => ref_Archive s w (by omega)
  have h1 := fun w => path_Base s w (by omega)
  have h2 := fun w => ref_Base s w (by omega)
  have h3 := fun w => path_Up s w (by omega)
  have h4 := fun w => ref_Up s w (by omega)
  have h5 := fun w => path_Under s d w
  have h6 := fun w => ref_Under s d w (by omega)
  have h7 := fun w => path_Child s d w (by omega)
  have h8 := fun w => ref_Child s d w (by omega)
  have hP := fun w hm => path_List s w hm (by omega)
  have hQ := fun w => ref_List s w (by omega)
  have hnl := plist_len s.data.toList
  rw [← size_list] at hnl
  generalize tx (arcA s.data.toList) = A1 at *
  generalize tx (arcB s.data.toList) = A2 at *
  generalize arcC s.data.toList = A3 at *
  generalize tx (baseOf s.data.toList) = Bs at *
  generalize tx (upOf s.data.toList) = Us at *
  generalize underOf s.data.toList d.data.toList = Un at *
  generalize childOf s.data.toList d.data.toList = Ch at *
  have HM : Hid (Mx w) := hm
  have hsI : ¬ 4096 < (s.size : Int) := by omega
  have hdI : ¬ 4096 < (d.size : Int) := by omega
  clear hm
  go_enter Tryd.func5, Tryd.ntmps5
  go_wp2_with fail
  refine hA.mono ?_
  rintro e w1 ⟨rfl, b1⟩
  have HM1 : Hid (Mx w1) := HM.out.below b1
  go_wp2_with fail
  refine (hB _).mono ?_
  rintro e w2 ⟨rfl, b2⟩
  have HM2 : Hid (Mx w2) := HM1.out.below b2
  have bl2 := b1.trans (b2.mono b1.size)
  clear hA hB
  go_wp2_with fail
  refine (h1 _).mono ?_
  rintro e w0 ⟨rfl, hw0⟩; rw [hw0]; clear hw0
  go_wp2_with fail
  refine (h2 _).mono ?_
  rintro e w0 ⟨rfl, hw0⟩; rw [hw0]; clear hw0
  go_wp2_with fail
  refine (h3 _).mono ?_
  rintro e w0 ⟨rfl, hw0⟩; rw [hw0]; clear hw0
  go_wp2_with fail
  refine (h4 _).mono ?_
  rintro e w0 ⟨rfl, hw0⟩; rw [hw0]; clear hw0
  go_wp2_with fail
  refine (h5 _).mono ?_
  rintro e w0 ⟨rfl, hw0⟩; rw [hw0]; clear hw0
  go_wp2_with fail
  refine (h6 _).mono ?_
  rintro e w0 ⟨rfl, hw0⟩; rw [hw0]; clear hw0
  go_wp2_with fail
  refine (h7 _).mono ?_
  rintro e w0 ⟨rfl, hw0⟩; rw [hw0]; clear hw0
  go_wp2_with fail
  refine (h8 _).mono ?_
  rintro e w0 ⟨rfl, hw0⟩; rw [hw0]; clear hw0
  clear h1 h2 h3 h4 h5 h6 h7 h8
  go_wp2_with fail
  refine (hP _ HM2.out).mono ?_
  rintro e w3 ⟨v3, rfl, o3, b3⟩
  have HM3 : Hid (Mx w3) := HM2.out.below b3
  have bl3 := bl2.trans (b3.mono bl2.size)
  go_wp2_with fail
  refine (hQ _).mono ?_
  rintro e w4 ⟨v4, rfl, o4, b4⟩
  have HM4 : Hid (Mx w4) := HM3.out.below b4
  have bl4 := bl3.trans (b4.mono bl3.size)
  have hS := ref_Same w4 _ _ v3 v4 _ (o3.stay b4) o4 (by simp; omega)
  clear o3 o4 hP hQ
  go_wp2_with fail
  refine hS.mono ?_
  rintro e w5 ⟨rfl, b5⟩
  have HM5 : Hid (Mx w5) := HM4.out.below b5
  have bl5 := bl4.trans (b5.mono bl4.size)
  clear hS
  go_wp2_with fail
  refine (alive04 _ HM5.out).mono ?_
  rintro e w7 ⟨rfl, b7⟩
  have bl7 := bl5.trans (b7.mono bl5.size)
  go_wp2
  go_ret
  exact ⟨rfl, bl7⟩
theorem walk (d : ByteArray) (w0 : d.size ≤ maxLen) (n : ByteArray) (w1 : n.size ≤ maxLen) (w : World) (hsh : w.ShapedOpen Tryd.prog) (hL : laidMetH Tryd.prog Rows.pathTellsRow.laid w) :
    Calls Tryd.prog 5 #[.string d, .string n] w fun e w' => e = .returned (.bool true) ∧ Below w.heap.size w w' := by
  have hdm : d.size ≤ 9223372036854775807 := by unfold maxLen at w0; omega
  have hnm : n.size ≤ 9223372036854775807 := by unfold maxLen at w1; omega
  by_cases hd : d.size ≤ 4096
  · by_cases hn : n.size ≤ 4096
    · exact core d n w (mx_of_shape hsh) hd hn
    · have hdI : ¬ 4096 < (d.size : Int) := by omega
      have hnI : 4096 < (n.size : Int) := by omega
      clear hL hsh
      go_enter Tryd.func5, Tryd.ntmps5
      go_wp2
      go_ret
      exact ⟨rfl, Below.refl _ _⟩
  · have hdI : 4096 < (d.size : Int) := by omega
    clear hL hsh
    go_enter Tryd.func5, Tryd.ntmps5
    go_wp2
    go_ret
    exact ⟨rfl, Below.refl _ _⟩
theorem own : ownKnob Tryd.prog.godebug = none := by kernel_rfl
theorem laidOut : laidOutB Tryd.prog = true := by kernel_rfl
set_option maxRecDepth 100000 in
theorem lifted (os : Os) (started : os.Started) (H : Type) (enc : TypeId × Value → H) :
    ReturnsInHanded {} Tryd.checked os 5 .any (fun w args => (Rows.pathTellsSpec.pre enc Tryd.prog Tryd.f5 Rows.pathTellsRow.domain false w args ∧ laidMetH Tryd.prog Rows.pathTellsRow.laid w) ∧ sizedMet enc Tryd.prog Tryd.f5 (OpenSpec.ofChange Rows.pathTellsSpec) false w args)
      (Rows.pathTellsSpec.post enc Tryd.prog Tryd.f5 false true false false) := by
  refine wrap_and_shaped (C := Tryd.checked) (X := fun w _ => laidMetH Tryd.prog Rows.pathTellsRow.laid w) (fun _ _ _ hh h => h.of_heap hh) own started (by kernel_rfl) Tryd.func5
    (ChangeSpec.witness_shaped (enc := enc) (C := Tryd.checked) (os := os) (X := fun w _ => laidMetH Tryd.prog Rows.pathTellsRow.laid w) false (World.laidAll Tryd.prog os Rows.pathTellsRow.laid) #[.string ByteArray.empty, .string ByteArray.empty] 8 (World.laidAll_os _ _ _)
      (World.shaped_of_ZipB (by kernel_rfl) (by kernel_rfl)) (by kernel_rfl) (by kernel_rfl) (by kernel_rfl)
      (by rw [MakeChecks.laidMetH_plain _ _ _ (by kernel_rfl)]; exact laidMet_laidAll _ (by kernel_rfl) (by kernel_rfl))) ?_
  intro W base args ds gs before hval0 hW hcnd _ hL hsh
  have hval : ∀ (j : Nat) t v, Tryd.f5.params[j]? = some t → args[j]? = some v → Value.okWide Tryd.prog W .any base t v := hval0
  have hW' := hW
  obtain ⟨p, q, hA0, hV, rfl, hfz, hnd⟩ := hW
  have hA : DataW.TrodAll enc Tryd.prog W 0 (fun _ => true) true Tryd.f5.params.toList args.toList ds p := hA0
  rw [Tryd.params5] at hA hval
  obtain ⟨v0, vs0, d0, ds0, p0, q0, hargs, rfl, rfl, h0, r0⟩ := trodAll_cons hA
  obtain ⟨v1, vs1, d1, ds1, p1, q1, rfl, rfl, rfl, h1, r1⟩ := trodAll_cons r0
  obtain ⟨rfl, rfl, rfl⟩ := trodAll_nil r1
  obtain rfl : args = #[v0, v1] := by cases args; simp_all
  obtain ⟨rfl, rfl⟩ := trodVars_none hV
  have k0 := h0
  have lt0 : ∀ x ∈ p0, x.block < W.heap.size := by obtain ⟨m, hm⟩ := k0; exact DataW.trod_lt m _ _ _ hm
  have k1 := h1
  have lt1 : ∀ x ∈ p1, x.block < W.heap.size := by obtain ⟨m, hm⟩ := k1; exact DataW.trod_lt m _ _ _ hm
  obtain ⟨a0, rfl, rfl, rfl, w0⟩ := open_string Tryd.underlying9 (hval 0 9 v0 rfl rfl) h0
  obtain ⟨a1, rfl, rfl, rfl, w1⟩ := open_string Tryd.underlying9 (hval 1 9 v1 rfl rfl) h1
  clear hA0 hval0
  refine (walk a0 w0 a1 w1 W hsh hL).mono fun e W' ⟨he, bel⟩ => ?_
  subst he
  exact ⟨_, rfl, _, _, _, [], _, [], hW', trodAll_mk1 (shut_bool Tryd.underlying4 _), (trodAll_cons_mk (Below.trod laidOut (by kernel_rfl) (of_decide_eq_true (by kernel_rfl)) k0 bel lt0) (trodAll_cons_mk (Below.trod laidOut (by kernel_rfl) (of_decide_eq_true (by kernel_rfl)) k1 bel lt1) trodAll_mk0)), rfl, bel.frame _, fun h => by cases h⟩

theorem over : Rows.pathTellsRow.holds Tryd.pinned (OpenSpec.ofChange Rows.pathTellsSpec) :=
  OpenClaim.holds_of_wide 5 Tryd.f5 rfl rfl rfl rfl rfl rfl rfl ⟨rfl, rfl, rfl, rfl, rfl⟩ rfl rfl rfl rfl rfl (by kernel_rfl) Tryd.func5 (by kernel_rfl)
    (of_decide_eq_true (by kernel_rfl)) (by unfold Func.isWrapper; first | (rw [if_pos (by decide +kernel)]; kernel_rfl) | (rw [if_neg (by decide +kernel)]; exact ⟨rfl, rfl⟩))
    (fun os started H enc _ => lifted os started H enc)

theorem card : Claim7.holds Tryd.pinned (.plain (OpenSpec.ofChange Rows.pathTellsSpec)) Rows.pathTellsCard :=
  Claim7.holds_tied_plain_at .later [] [.data, .pinned] true (true, "200ac75de95a2fecf6653ebc8d1a0a96a52566c0b7c8eb9b8675663d5053abed") false over (fun _ h => by cases h) (by kernel_rfl) (fun _ h => by cases h) pathTells_row_tie rfl ⟨rfl, rfl⟩ (by kernel_rfl) rfl
    (fun f fn hf hfn => by
      obtain rfl : f = 5 := Option.some.inj ((show Tryd.prog.funcNamed Rows.pathTellsRow.func = some 5 by kernel_rfl).symm.trans hf) |>.symm
      obtain rfl : fn = Tryd.f5 := (Option.some.inj (Tryd.func5.symm.trans hfn)).symm
      exact ⟨by kernel_rfl, fun j t ht => by
        rw [Tryd.params5] at ht
        have hm : t ∈ [9] := by simpa using Array.mem_of_getElem? ht
        have hall : ([9].all fun u => !Tryd.prog.wantsStandIn u) = true := by kernel_rfl
        exact (show Tryd.prog.wantsStandIn t = false by simpa using List.all_eq_true.1 hall t hm)⟩)
    (by kernel_rfl)
end LPathTells
theorem PathTells_proved : Rows.PathTellsCardSaid := LPathTells.card
end Go.Proofs.YtobamanlfcnilaaDoor
