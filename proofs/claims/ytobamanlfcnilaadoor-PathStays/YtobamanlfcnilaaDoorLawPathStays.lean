/-
  PathStays returns true for every text, and the text reads afterwards as it read before: no condition (the listed tables of unicode/utf8 are tied to the program's text, and never read; internal/bytealg.MaxLen is whatever it is).
-/
import Derived.Test.YtobamanlfcnilaaDoorRows
import Derived.Test.YtobamanlfcnilaaDoorCards
import Derived.Test.YtobamanlfcnilaaDoorTie
import Derived.Test.YtobamanlfcnilaaDoorDoorK
import Derived.Test.YtobamanlfcnilaaDoorPathK
import Derived.WalkKit
import Derived.ProofKit
import Derived.OpenShut
import Derived.ShutString
import Derived.ChangeOld
import Derived.Below
import Derived.LaidMore
import Derived.Lay
import Derived.SevenTiedAt
import Derived.Stop.Joined
set_option linter.unusedVariables false
namespace Go.Proofs.YtobamanlfcnilaaDoor
namespace LPathStays
open Go.ChangeShapes Go.WideShapes Go.ChangeAt Go.RowKit
open Go.ChangeMaps (open_string shut_string)
set_option maxHeartbeats 4000000 in
set_option maxRecDepth 20000 in
theorem no (s : ByteArray) (w : World) (hm : Mx w) (hs : s.size ≤ 4096) (hc : can s.data.toList = false) :
    Calls Tryd.prog 6 #[.string s] w fun e w' => e = .returned (.bool true) ∧ Below w.heap.size w w' := by
  have hA := path_Clean s w hm (by omega)
  have hT : tx (clT s.data.toList) = ⟨#[]⟩ := by unfold clT; rw [hc]; rfl
  have hE : clE s.data.toList = 40 := by unfold clE; rw [hc]; rfl
  rw [hT, hE] at hA
  have HM : Hid (Mx w) := hm
  have hsI : ¬ 4096 < (s.size : Int) := by omega
  clear hm hT hE hc
  go_enter Tryd.func6, Tryd.ntmps6
  go_wp2_with fail
  refine hA.mono ?_
  rintro e w1 ⟨rfl, b1⟩
  have HM1 : Hid (Mx w1) := HM.out.below b1
  go_wp2_with fail
  refine (alive04 _ HM1.out).mono ?_
  rintro e w7 ⟨rfl, b7⟩
  have bl7 := b1.trans (b7.mono b1.size)
  go_wp2
  go_ret
  exact ⟨rfl, bl7⟩
set_option maxHeartbeats 4000000 in
set_option maxRecDepth 20000 in
theorem root (s : ByteArray) (w : World) (hm : Mx w) (hs : s.size ≤ 4096) (hc : can s.data.toList = true) (hr : cl s.data.toList = [47]) :
    Calls Tryd.prog 6 #[.string s] w fun e w' => e = .returned (.bool true) ∧ Below w.heap.size w w' := by
  have hA := path_Clean s w hm (by omega)
  have hT : tx (clT s.data.toList) = ⟨#[47]⟩ := by unfold clT; rw [hc, if_pos rfl, hr]; rfl
  have hE : clE s.data.toList = 0 := by unfold clE; rw [hc]; rfl
  rw [hT, hE] at hA
  have h1 : 1 ≤ s.size := by have := cl_le hc; rw [hr, ← size_list] at this; simpa using this
  have h1I : ¬ (s.size : Int) < 1 := by omega
  have hB : ∀ w, Mx w → Calls Tryd.prog 7 #[.string ⟨#[47]⟩] w fun e w' => e = .returned (.tuple #[.string ⟨#[47]⟩, .int .i64 0]) ∧ Below w.heap.size w w' := by
    intro w hm
    have h := path_Clean ⟨#[47]⟩ w hm (by decide)
    have e1 : clT (⟨#[47]⟩ : ByteArray).data.toList = [47] := by decide +kernel
    have e2 : clE (⟨#[47]⟩ : ByteArray).data.toList = 0 := by decide +kernel
    rw [e1, e2] at h; exact h
  have hI : ∀ w, Mx w → Calls Tryd.prog 12 #[.string ⟨#[47]⟩] w fun e w' => e = .returned (.bool true) ∧ Below w.heap.size w w' := by
    intro w hm
    have h := path_IsClean ⟨#[47]⟩ w hm (by decide)
    have e1 : isCl (⟨#[47]⟩ : ByteArray).data.toList = true := by decide +kernel
    rw [e1] at h; exact h
  have hU : ∀ w, Calls Tryd.prog 22 #[.string ⟨#[47]⟩, .string ⟨#[47]⟩] w fun e w' => e = .returned (.bool true) ∧ w' = w := by
    intro w
    have h := path_Under ⟨#[47]⟩ ⟨#[47]⟩ w
    have e1 : underOf (⟨#[47]⟩ : ByteArray).data.toList (⟨#[47]⟩ : ByteArray).data.toList = true := by decide +kernel
    rw [e1] at h; exact h
  have hBa : ∀ w, Calls Tryd.prog 18 #[.string ⟨#[47]⟩] w fun e w' => e = .returned (.string ⟨#[]⟩) ∧ w' = w := by
    intro w
    have h := path_Base ⟨#[47]⟩ w (by decide)
    have e1 : baseOf (⟨#[47]⟩ : ByteArray).data.toList = [] := by decide +kernel
    rw [e1] at h; exact h
  have hUp : ∀ w, Calls Tryd.prog 20 #[.string ⟨#[47]⟩] w fun e w' => e = .returned (.string ⟨#[47]⟩) ∧ w' = w := by
    intro w
    have h := path_Up ⟨#[47]⟩ w (by decide)
    have e1 : upOf (⟨#[47]⟩ : ByteArray).data.toList = [47] := by decide +kernel
    rw [e1] at h; exact h
  have HM : Hid (Mx w) := hm
  have hsI : ¬ 4096 < (s.size : Int) := by omega
  clear hm hT hE hc hr
  go_enter Tryd.func6, Tryd.ntmps6
  go_wp2_with fail
  refine hA.mono ?_
  rintro e w1 ⟨rfl, b1⟩
  have HM1 : Hid (Mx w1) := HM.out.below b1
  clear hA
  go_wp2_with fail
  refine (hB _ HM1.out).mono ?_
  rintro e w2 ⟨rfl, b2⟩
  have HM2 : Hid (Mx w2) := HM1.out.below b2
  have bl2 := b1.trans (b2.mono b1.size)
  clear hB
  go_wp2_with fail
  refine (hI _ HM2.out).mono ?_
  rintro e w3 ⟨rfl, b3⟩
  have HM3 : Hid (Mx w3) := HM2.out.below b3
  have bl3 := bl2.trans (b3.mono bl2.size)
  clear hI
  go_wp2_with fail
  refine (hU _).mono ?_
  rintro e w0 ⟨rfl, hw0⟩; rw [hw0]; clear hw0
  clear hU
  go_wp2_with fail
  refine (hBa _).mono ?_
  rintro e w0 ⟨rfl, hw0⟩; rw [hw0]; clear hw0
  clear hBa
  go_wp2_with fail
  refine (hUp _).mono ?_
  rintro e w0 ⟨rfl, hw0⟩; rw [hw0]; clear hw0
  clear hUp
  go_wp2_with fail
  refine (alive04 _ HM3.out).mono ?_
  rintro e w7 ⟨rfl, b7⟩
  have bl7 := bl3.trans (b7.mono bl3.size)
  go_wp2
  go_ret
  exact ⟨rfl, bl7⟩
theorem glue (st : List (List UInt8)) (n : List UInt8) (h : Neat (st ++ [n])) (U B A : ByteArray) (hU : U = tx (whole st)) (hB : B = tx n) (hA : A = tx (whole (st ++ [n]))) :
    (U.toList == [47]) = true ∧ ((⟨#[47]⟩ ++ B).toList == A.toList) = true ∨ (U.toList == [47]) = false ∧ ((U ++ ⟨#[47]⟩ ++ B).toList == A.toList) = true := by
  have g := snoc_glue h
  subst hU hB hA
  rw [tx_list, tx_list, show (⟨#[47]⟩ : ByteArray) = tx [47] from rfl, tx_append, tx_append, tx_append, tx_list, tx_list]
  by_cases hr : whole st = [47]
  · rw [if_pos hr] at g
    exact .inl ⟨by simpa using hr, by rw [← g]; simp⟩
  · rw [if_neg hr] at g
    exact .inr ⟨by simpa using hr, by rw [← g]; simp⟩
set_option maxHeartbeats 8000000 in
set_option maxRecDepth 20000 in
theorem deep (s : ByteArray) (w : World) (hm : Mx w) (hs : s.size ≤ 4096) (hc : can s.data.toList = true) (st : List (List UInt8)) (n : List UInt8) (hst : stk (names s.data.toList) = st ++ [n]) :
    Calls Tryd.prog 6 #[.string s] w fun e w' => e = .returned (.bool true) ∧ Below w.heap.size w w' := by
  have hN := neat_of hc
  have hle := cl_le hc
  have hcl : cl s.data.toList = whole (st ++ [n]) := by unfold cl; rw [hst]
  rw [hst] at hN
  rw [hcl, ← size_list] at hle
  have hA := path_Clean s w hm (by omega)
  have hT : clT s.data.toList = whole (st ++ [n]) := by unfold clT; rw [hc, if_pos rfl, hcl]
  have hE : clE s.data.toList = 0 := by unfold clE; rw [hc]; rfl
  rw [hT, hE] at hA
  have hI0 := neat_init hN
  obtain ⟨A, hAe⟩ : ∃ A, A = tx (whole (st ++ [n])) := ⟨_, rfl⟩
  obtain ⟨U, hUe⟩ : ∃ U, U = tx (whole st) := ⟨_, rfl⟩
  obtain ⟨B, hBe⟩ : ∃ B, B = tx n := ⟨_, rfl⟩
  have dA : A.data.toList = whole (st ++ [n]) := by rw [hAe, data_tx]
  have dU : U.data.toList = whole st := by rw [hUe, data_tx]
  have dB : B.data.toList = n := by rw [hBe, data_tx]
  have sA : A.size ≤ s.size := by rw [size_list, dA]; exact hle
  have sU : U.size ≤ 256 := by rw [size_list, dU]; exact hI0.2
  have sB : B.size ≤ 256 := by
    have h1 := hN.2
    rw [whole_snoc] at h1
    rw [size_list, dB]
    simp at h1; omega
  have hB1 : ∀ w, Mx w → Calls Tryd.prog 7 #[.string A] w fun e w' => e = .returned (.tuple #[.string A, .int .i64 0]) ∧ Below w.heap.size w w' := by
    intro w hm
    have h := path_Clean A w hm (by omega)
    have e1 : clT A.data.toList = whole (st ++ [n]) := by rw [dA, clT, neat_can hN, if_pos rfl, neat_cl hN]
    have e2 : clE A.data.toList = 0 := by rw [dA, clE, neat_can hN]; rfl
    rw [e1, e2, ← hAe] at h; exact h
  have hI : ∀ w, Mx w → Calls Tryd.prog 12 #[.string A] w fun e w' => e = .returned (.bool true) ∧ Below w.heap.size w w' := by
    intro w hm
    have h := path_IsClean A w hm (by omega)
    rw [dA, neat_isCl hN] at h; exact h
  have hI2 : ∀ w, Mx w → Calls Tryd.prog 12 #[.string U] w fun e w' => e = .returned (.bool true) ∧ Below w.heap.size w w' := by
    intro w hm
    have h := path_IsClean U w hm (by omega)
    rw [dU, neat_isCl hI0] at h; exact h
  have hU0 : ∀ w, Calls Tryd.prog 22 #[.string A, .string ⟨#[47]⟩] w fun e w' => e = .returned (.bool true) ∧ w' = w := by
    intro w
    have h := path_Under A ⟨#[47]⟩ w
    have e1 : underOf A.data.toList (⟨#[47]⟩ : ByteArray).data.toList = true := by rw [dA, show (⟨#[47]⟩ : ByteArray).data.toList = [47] from rfl, underOf, if_pos rfl]; exact whole_head _
    rw [e1] at h; exact h
  have hU1 : ∀ w, Calls Tryd.prog 22 #[.string A, .string U] w fun e w' => e = .returned (.bool true) ∧ w' = w := by
    intro w
    have h := path_Under A U w
    rw [dA, dU, under_snoc hN] at h; exact h
  have hU2 : ∀ w, Calls Tryd.prog 22 #[.string U, .string A] w fun e w' => e = .returned (.bool false) ∧ w' = w := by
    intro w
    have h := path_Under U A w
    rw [dA, dU, not_under_snoc hN] at h; exact h
  have hCh : ∀ w, Calls Tryd.prog 24 #[.string A, .string U] w fun e w' => e = .returned (.bool true) ∧ w' = w := by
    intro w
    have h := path_Child A U w (by omega)
    rw [dA, dU, child_snoc hN] at h; exact h
  have hBa : ∀ w, Calls Tryd.prog 18 #[.string A] w fun e w' => e = .returned (.string B) ∧ w' = w := by
    intro w
    have h := path_Base A w (by omega)
    rw [dA, base_snoc hN, ← hBe] at h; exact h
  have hUp : ∀ w, Calls Tryd.prog 20 #[.string A] w fun e w' => e = .returned (.string U) ∧ w' = w := by
    intro w
    have h := path_Up A w (by omega)
    rw [dA, up_snoc hN, ← hUe] at h; exact h
  have hg := glue st n hN U B A hUe hBe hAe
  have hAr : (A.toList == [47]) = false := by
    rw [tl, dA, beq_eq_false_iff_ne, Ne, whole_root hN]; simp
  have hBn : B.toList.isEmpty = false := by
    rw [tl, dB]; have := (neat_last hN).2; cases n with | nil => exact absurd rfl this | cons _ _ => rfl
  rw [← hAe] at hA
  have HM : Hid (Mx w) := hm
  have hsI : ¬ 4096 < (s.size : Int) := by omega
  have sAI : ¬ (s.size : Int) < (A.size : Int) := by omega
  have sA2 : A.size ≤ 4096 := by omega
  clear hm hT hE hc hst hN hle hcl hI0 dA dU dB hAe hUe hBe sA
  go_enter Tryd.func6, Tryd.ntmps6
  go_wp2_with fail
  refine hA.mono ?_
  rintro e w1 ⟨rfl, b1⟩
  have HM1 : Hid (Mx w1) := HM.out.below b1
  clear hA
  go_wp2_with fail
  refine (hB1 _ HM1.out).mono ?_
  rintro e w2 ⟨rfl, b2⟩
  have HM2 : Hid (Mx w2) := HM1.out.below b2
  have bl2 := b1.trans (b2.mono b1.size)
  clear hB1
  go_wp2_with fail
  refine (hI _ HM2.out).mono ?_
  rintro e w3 ⟨rfl, b3⟩
  have HM3 : Hid (Mx w3) := HM2.out.below b3
  have bl3 := bl2.trans (b3.mono bl2.size)
  clear hI
  go_wp2_with fail
  refine (hU0 _).mono ?_
  rintro e w0 ⟨rfl, hw0⟩; rw [hw0]; clear hw0
  clear hU0
  go_wp2_with fail
  refine (hUp _).mono ?_
  rintro e w0 ⟨rfl, hw0⟩; rw [hw0]; clear hw0
  clear hUp
  go_wp2_with fail
  refine (hBa _).mono ?_
  rintro e w0 ⟨rfl, hw0⟩; rw [hw0]; clear hw0
  clear hBa
  rcases hg with ⟨g1, g2⟩ | ⟨g1, g2⟩
  all_goals
    go_wp2_with fail
    refine (hI2 _ HM3.out).mono ?_
    rintro e w4 ⟨rfl, b4⟩
    have HM4 : Hid (Mx w4) := HM3.out.below b4
    have bl4 := bl3.trans (b4.mono bl3.size)
    clear hI2
    go_wp2_with fail
    refine (hCh _).mono ?_
    rintro e w0 ⟨rfl, hw0⟩; rw [hw0]; clear hw0
    clear hCh
    go_wp2_with fail
    refine (hU1 _).mono ?_
    rintro e w0 ⟨rfl, hw0⟩; rw [hw0]; clear hw0
    clear hU1
    go_wp2_with fail
    refine (hU2 _).mono ?_
    rintro e w0 ⟨rfl, hw0⟩; rw [hw0]; clear hw0
    clear hU2
    go_wp2_with fail
    refine (alive04 _ HM4.out).mono ?_
    rintro e w7 ⟨rfl, b7⟩
    have bl7 := bl4.trans (b7.mono bl4.size)
    go_wp2
    go_ret
    exact ⟨rfl, bl7⟩
theorem walk (s : ByteArray) (w0 : s.size ≤ maxLen) (w : World) (hsh : w.ShapedOpen Tryd.prog) (hL : laidMetH Tryd.prog Rows.pathStaysRow.laid w) :
    Calls Tryd.prog 6 #[.string s] w fun e w' => e = .returned (.bool true) ∧ Below w.heap.size w w' := by
  by_cases hs : s.size ≤ 4096
  · cases hc : can s.data.toList with
    | false => exact no s w (mx_of_shape hsh) hs hc
    | true =>
      rcases List.eq_nil_or_concat (stk (names s.data.toList)) with h | ⟨st, n, h⟩
      · exact root s w (mx_of_shape hsh) hs hc (by unfold cl; rw [h]; rfl)
      · exact deep s w (mx_of_shape hsh) hs hc st n (by rw [h, List.concat_eq_append])
  · have hsI : 4096 < (s.size : Int) := by omega
    have hsm : s.size ≤ 9223372036854775807 := by unfold maxLen at w0; omega
    clear hL hsh
    go_enter Tryd.func6, Tryd.ntmps6
    go_wp2
    go_ret
    exact ⟨rfl, Below.refl _ _⟩
theorem own : ownKnob Tryd.prog.godebug = none := by kernel_rfl
theorem laidOut : laidOutB Tryd.prog = true := by kernel_rfl
set_option maxRecDepth 100000 in
theorem lifted (os : Os) (started : os.Started) (H : Type) (enc : TypeId × Value → H) :
    ReturnsInHanded {} Tryd.checked os 6 .any (fun w args => (Rows.pathStaysSpec.pre enc Tryd.prog Tryd.f6 Rows.pathStaysRow.domain false w args ∧ laidMetH Tryd.prog Rows.pathStaysRow.laid w) ∧ sizedMet enc Tryd.prog Tryd.f6 (OpenSpec.ofChange Rows.pathStaysSpec) false w args)
      (Rows.pathStaysSpec.post enc Tryd.prog Tryd.f6 false true false false) := by
  refine wrap_and_shaped (C := Tryd.checked) (X := fun w _ => laidMetH Tryd.prog Rows.pathStaysRow.laid w) (fun _ _ _ hh h => h.of_heap hh) own started (by kernel_rfl) Tryd.func6
    (ChangeSpec.witness_shaped (enc := enc) (C := Tryd.checked) (os := os) (X := fun w _ => laidMetH Tryd.prog Rows.pathStaysRow.laid w) false (World.laidAll Tryd.prog os Rows.pathStaysRow.laid) #[.string ByteArray.empty] 8 (World.laidAll_os _ _ _)
      (World.shaped_of_ZipB (by kernel_rfl) (by kernel_rfl)) (by kernel_rfl) (by kernel_rfl) (by kernel_rfl)
      (by rw [MakeChecks.laidMetH_plain _ _ _ (by kernel_rfl)]; exact laidMet_laidAll _ (by kernel_rfl) (by kernel_rfl))) ?_
  intro W base args ds gs before hval0 hW hcnd _ hL hsh
  have hval : ∀ (j : Nat) t v, Tryd.f6.params[j]? = some t → args[j]? = some v → Value.okWide Tryd.prog W .any base t v := hval0
  have hW' := hW
  obtain ⟨p, q, hA0, hV, rfl, hfz, hnd⟩ := hW
  have hA : DataW.TrodAll enc Tryd.prog W 0 (fun _ => true) true Tryd.f6.params.toList args.toList ds p := hA0
  rw [Tryd.params6] at hA hval
  obtain ⟨v0, vs0, d0, ds0, p0, q0, hargs, rfl, rfl, h0, r0⟩ := trodAll_cons hA
  obtain ⟨rfl, rfl, rfl⟩ := trodAll_nil r0
  obtain rfl : args = #[v0] := by cases args; simp_all
  obtain ⟨rfl, rfl⟩ := trodVars_none hV
  have k0 := h0
  have lt0 : ∀ x ∈ p0, x.block < W.heap.size := by obtain ⟨m, hm⟩ := k0; exact DataW.trod_lt m _ _ _ hm
  obtain ⟨a0, rfl, rfl, rfl, w0⟩ := open_string Tryd.underlying9 (hval 0 9 v0 rfl rfl) h0
  clear hA0 hval0
  refine (walk a0 w0 W hsh hL).mono fun e W' ⟨he, bel⟩ => ?_
  subst he
  exact ⟨_, rfl, _, _, _, [], _, [], hW', trodAll_mk1 (shut_bool Tryd.underlying4 _), (trodAll_cons_mk (Below.trod laidOut (by kernel_rfl) (of_decide_eq_true (by kernel_rfl)) k0 bel lt0) trodAll_mk0), rfl, bel.frame _, fun h => by cases h⟩

theorem over : Rows.pathStaysRow.holds Tryd.pinned (OpenSpec.ofChange Rows.pathStaysSpec) :=
  OpenClaim.holds_of_wide 6 Tryd.f6 rfl rfl rfl rfl rfl rfl rfl ⟨rfl, rfl, rfl, rfl, rfl⟩ rfl rfl rfl rfl rfl (by kernel_rfl) Tryd.func6 (by kernel_rfl)
    (of_decide_eq_true (by kernel_rfl)) (by unfold Func.isWrapper; first | (rw [if_pos (by decide +kernel)]; kernel_rfl) | (rw [if_neg (by decide +kernel)]; exact ⟨rfl, rfl⟩))
    (fun os started H enc _ => lifted os started H enc)

theorem card : Claim7.holds Tryd.pinned (.plain (OpenSpec.ofChange Rows.pathStaysSpec)) Rows.pathStaysCard :=
  Claim7.holds_tied_plain_at .later [] [.data, .pinned] true (true, "200ac75de95a2fecf6653ebc8d1a0a96a52566c0b7c8eb9b8675663d5053abed") false over (fun _ h => by cases h) (by kernel_rfl) (fun _ h => by cases h) pathStays_row_tie rfl ⟨rfl, rfl⟩ (by kernel_rfl) rfl
    (fun f fn hf hfn => by
      obtain rfl : f = 6 := Option.some.inj ((show Tryd.prog.funcNamed Rows.pathStaysRow.func = some 6 by kernel_rfl).symm.trans hf) |>.symm
      obtain rfl : fn = Tryd.f6 := (Option.some.inj (Tryd.func6.symm.trans hfn)).symm
      exact ⟨by kernel_rfl, fun j t ht => by
        rw [Tryd.params6] at ht
        have hm : t ∈ [9] := by simpa using Array.mem_of_getElem? ht
        have hall : ([9].all fun u => !Tryd.prog.wantsStandIn u) = true := by kernel_rfl
        exact (show Tryd.prog.wantsStandIn t = false by simpa using List.all_eq_true.1 hall t hm)⟩)
    (by kernel_rfl)
end LPathStays
theorem PathStays_proved : Rows.PathStaysCardSaid := LPathStays.card
end Go.Proofs.YtobamanlfcnilaaDoor
