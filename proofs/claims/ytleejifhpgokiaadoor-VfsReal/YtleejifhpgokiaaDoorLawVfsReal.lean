/-
  VfsReal returns true for every row of nodes and every path, and what came in reads afterwards as it read before: no condition (the listed tables of unicode/utf8 are tied to the program's text, and never read; internal/bytealg.MaxLen is whatever it is).
-/
import Derived.Test.YtleejifhpgokiaaDoorRows
import Derived.Test.YtleejifhpgokiaaDoorCards
import Derived.Test.YtleejifhpgokiaaDoorTie
import Derived.Test.YtleejifhpgokiaaDoorFsR
import Derived.Test.YtleejifhpgokiaaDoorFsS
import Derived.WalkKit
import Derived.ProofKit
import Derived.OpenShut
import Derived.ShutString
import Derived.ChangeOld
import Derived.Below
import Derived.LaidMore
import Derived.Lay
import Derived.SevenTiedAt
import Derived.Stop.Joined
set_option linter.unusedVariables false
namespace Go.Proofs.YtleejifhpgokiaaDoor
namespace LVfsReal
open Go.ChangeShapes Go.WideShapes Go.ChangeAt Go.RowKit
open Go.ChangeMaps (open_string shut_string)
theorem path_small {W : World} {B F M : Nat} {v : Value} {l : List Nd} (hf : FsAt W B F M v l) (k : Nat) : (tx (pathAt l k)).size ≤ 4096 := by
  rw [tx_size]
  unfold pathAt
  cases e : l[k]? with
  | none => simp
  | some n =>
    have := (hf.knd n (List.mem_of_getElem? e)).2.1
    simp only [Option.map_some, Option.getD_some]
    rw [← size_list]; exact this
set_option maxHeartbeats 4000000 in
set_option maxRecDepth 20000 in
theorem walk (w : World) (s0 : Option Addr) (len0 cap0 : Nat) (h0 : IsNds w s0 len0 cap0) (p : ByteArray) (hp0 : p.size ≤ maxLen) (hsh : w.ShapedOpen Tryd.prog) (hL : laidMetH Tryd.prog Rows.vfsRealRow.laid w) :
    Calls Tryd.prog 4 #[.slice s0 len0 cap0, .string p] w fun e w' => e = .returned (.bool true) ∧ Below w.heap.size w w' := by
  have hm := mx_of_shape hsh
  have hg : 0 < w.heap.size := by
    obtain ⟨m, h⟩ := hm
    exact World.block_lt_of_cell? _ _ h
  obtain ⟨L, hl, hn⟩ := h0.list
  obtain ⟨hlc, hcm, _⟩ := h0
  subst hl
  have hcap2 : cap0 ≤ 9223372036854775807 := by unfold maxLen at hcm; omega
  have hpm : p.size ≤ 9223372036854775807 := by unfold maxLen at hp0; omega
  have hGr := law_Great w s0 cap0 L hlc hcm hn
  have HN := hide hn
  have HM := hide hm
  have HG := hide hg
  have HC := hide hcm
  clear hsh hL hn hm hg hcm hp0
  go_enter Tryd.func4, Tryd.ntmps4
  go_wp2_with fail
  refine hGr.mono ?_
  rintro e w' ⟨⟨b, rfl, hB⟩, hw⟩
  rw [← hw]
  clear hw hGr
  rcases hB with rfl | ⟨rfl, h400, hsm⟩
  · go_wp2
    go_ret
    exact ⟨rfl, Below.refl _ _⟩
  by_cases hp : 4096 < p.size
  · have hpI : (4096 : Int) < (p.size : Int) := by omega
    clear hp
    go_wp2
    go_ret
    exact ⟨rfl, Below.refl _ _⟩
  have hpI : ¬ (4096 : Int) < (p.size : Int) := by omega
  have hNew := vfs_New w HM.out s0 cap0 L hlc HC.out HN.out hsm
  clear hsm
  go_wp2_with fail
  refine hNew.mono ?_
  rintro e w3 ⟨hE, hb3⟩
  have HB3 := hide hb3
  clear hNew hb3
  rcases hE with ⟨c, hc, _, rfl⟩ | ⟨F, rfl, M, v, l, hfs, hso⟩
  · go_wp2_with (go_at_call 10; refine (alive06 w3 (HM.out.below HB3.out) (Nat.lt_of_lt_of_le HG.out HB3.out.size)).mono ?_; rintro e w9 ⟨rfl, hb9⟩)
    go_ret
    exact ⟨rfl, HB3.out.trans (hb9.mono HB3.out.size)⟩
  have hR := vfs_Resolve w3 (HM.out.below HB3.out) (Nat.lt_of_lt_of_le HG.out HB3.out.size) w.heap.size F M v (rootN :: l) hfs p (by omega)
  have HF3 := hide hfs
  have HSO := hide hso
  have HLT := hide (findN_lt hfs p.data.toList)
  have HKD := hide (find_kind hso (fun n hn => (hfs.knd n hn).2.2) p.data.toList)
  clear hfs hso
  unfold resV at hR
  by_cases h0 : (findN (rootN :: l) p.data.toList).1 = 0
  · rw [if_pos h0] at hR
    have hlt := HLT.out h0
    have hkd := HKD.out h0
    have hback := real_back HSO.out hlt hkd
    generalize (findN (rootN :: l) p.data.toList).2 = n at *
    have hps := path_small HF3.out n
    have HBK : Hid (resV (rootN :: l) (tx (pathAt (rootN :: l) n)).data.toList = .tuple #[.int .i64 (n : Nat), .string (tx (pathAt (rootN :: l) n)), .int .i64 0]) := by
      unfold Hid resV
      rw [data_tx, hback, if_pos rfl]
    have hst : l.map strip = L.map strip := HSO.out.grow.same
    have hll : l.length = L.length := by have := congrArg List.length hst; rwa [List.length_map, List.length_map] at this
    have HPN : Hid (∀ k (hk : k < L.length), n = k + 1 → tx (pathAt (rootN :: l) n) = L[k].path ∧ L[k].kind ≠ 3) := fun k hk e => by
      subst e
      have hk1 : k + 1 < (rootN :: L).length := by simpa using hk
      rw [strip_path hst, pathAt_of hk1]
      rw [strip_kind hst, kindAt_of hk1] at hkd
      exact ⟨tx_data _, hkd⟩
    have HP0 : Hid (n = 0 → tx (pathAt (rootN :: l) n) = ⟨#[47]⟩) := fun e => by subst e; rfl
    have HLT2 : Hid (n < L.length + 1) := by unfold Hid; rw [← hll]; simpa using hlt
    clear h0 hback hkd hlt HKD HLT hst hll
    generalize tx (pathAt (rootN :: l) n) = rp at *
    go_wp2_with fail
    refine hR.mono ?_
    rintro e w4 ⟨rfl, hb4⟩
    have HB4 : Hid (Below w.heap.size w w4) := HB3.out.trans (hb4.mono HB3.out.size)
    have hR2 := vfs_Resolve w4 (HM.out.below HB4.out) (Nat.lt_of_lt_of_le HG.out HB4.out.size) w.heap.size F M v (rootN :: l) (HF3.out.stay hb4) rp hps
    rw [HBK.out] at hR2
    clear hR hb4
    go_wp2_with fail
    refine hR2.mono ?_
    rintro e w5 ⟨rfl, hb5⟩
    have HB5 : Hid (Below w.heap.size w w5) := HB4.out.trans (hb5.mono HB4.out.size)
    clear hR2 hb5
    have hAl := alive06 w5 (HM.out.below HB5.out) (Nat.lt_of_lt_of_le HG.out HB5.out.size)
    cases n with
    | zero =>
      have hrp := HP0.out rfl
      subst hrp
      go_wp2_with (go_at_call 10; refine hAl.mono ?_; rintro e w9 ⟨rfl, hb9⟩)
      go_ret
      exact ⟨rfl, HB5.out.trans (hb9.mono HB5.out.size)⟩
    | succ k =>
      have hk : k < L.length := by have := HLT2.out; omega
      obtain ⟨e1, e2⟩ := HPN.out k hk rfl
      obtain ⟨y, o, rfl, hI⟩ : ∃ y o, s0 = some ⟨y, o, none⟩ ∧ IsNd w y (o + k * 4) L[k] := by
        rcases HN.out.at_ with e | ⟨y, o, e, hx⟩
        · rw [e] at hk; simp at hk
        · exact ⟨y, o, e, hx k hk⟩
      obtain ⟨c0, c1, _, _, _, _, _⟩ := hI.stay HB5.out
      rw [← e1] at c0
      have kb : (L[k].kind != 3) = true := by simpa using e2
      have hkI : (k : Int) < (L.length : Int) := by omega
      have hk1 : (k : Int) + 1 ≤ (L.length : Int) := by omega
      have hnz : ((k : Int) + 1 == 0) = false := by rw [beq_eq_false_iff_ne]; omega
      have hpz : (0 : Int) < (k : Int) + 1 := by omega
      have esub : (k : Int) + 1 - 1 = (k : Int) := by omega
      clear e1 e2 hI
      generalize L[k].kind = kk at *
      go_wp2_with (go_at_call 10; refine hAl.mono ?_; rintro e w9 ⟨rfl, hb9⟩)
      go_ret
      exact ⟨rfl, HB5.out.trans (hb9.mono HB5.out.size)⟩
  · rw [if_neg h0] at hR
    have h0b : ((findN (rootN :: l) p.data.toList).1 != 0) = true := by simpa using h0
    clear h0 HLT HKD
    generalize (findN (rootN :: l) p.data.toList).1 = fe at *
    go_wp2_with fail
    refine hR.mono ?_
    rintro e w4 ⟨rfl, hb4⟩
    have HB4 : Hid (Below w.heap.size w w4) := HB3.out.trans (hb4.mono HB3.out.size)
    have hAl := alive06 w4 (HM.out.below HB4.out) (Nat.lt_of_lt_of_le HG.out HB4.out.size)
    clear hR hb4
    go_wp2_with (go_at_call 10; refine hAl.mono ?_; rintro e w9 ⟨rfl, hb9⟩)
    go_ret
    exact ⟨rfl, HB4.out.trans (hb9.mono HB4.out.size)⟩
theorem own : ownKnob Tryd.prog.godebug = none := by kernel_rfl
theorem laidOut : laidOutB Tryd.prog = true := by kernel_rfl
set_option maxRecDepth 100000 in
theorem lifted (os : Os) (started : os.Started) (H : Type) (enc : TypeId × Value → H) :
    ReturnsInHanded {} Tryd.checked os 4 .any (fun w args => (Rows.vfsRealSpec.pre enc Tryd.prog Tryd.f4 Rows.vfsRealRow.domain false w args ∧ laidMetH Tryd.prog Rows.vfsRealRow.laid w) ∧ sizedMet enc Tryd.prog Tryd.f4 (OpenSpec.ofChange Rows.vfsRealSpec) false w args)
      (Rows.vfsRealSpec.post enc Tryd.prog Tryd.f4 false true false false) := by
  refine wrap_and_shaped (C := Tryd.checked) (X := fun w _ => laidMetH Tryd.prog Rows.vfsRealRow.laid w) (fun _ _ _ hh h => h.of_heap hh) own started (by kernel_rfl) Tryd.func4
    (ChangeSpec.witness_shaped (enc := enc) (C := Tryd.checked) (os := os) (X := fun w _ => laidMetH Tryd.prog Rows.vfsRealRow.laid w) false (World.laidAll Tryd.prog os Rows.vfsRealRow.laid) #[.slice none 0 0, .string ByteArray.empty] 8 (World.laidAll_os _ _ _)
      (World.shaped_of_ZipB (by kernel_rfl) (by kernel_rfl)) (by kernel_rfl) (by kernel_rfl) (by kernel_rfl)
      (by rw [MakeChecks.laidMetH_plain _ _ _ (by kernel_rfl)]; exact laidMet_laidAll _ (by kernel_rfl) (by kernel_rfl))) ?_
  intro W base args ds gs before hval0 hW hcnd _ hL hsh
  have hval : ∀ (j : Nat) t v, Tryd.f4.params[j]? = some t → args[j]? = some v → Value.okWide Tryd.prog W .any base t v := hval0
  have hW' := hW
  obtain ⟨p, q, hA0, hV, rfl, hfz, hnd⟩ := hW
  have hA : DataW.TrodAll enc Tryd.prog W 0 (fun _ => true) true Tryd.f4.params.toList args.toList ds p := hA0
  rw [Tryd.params4] at hA hval
  obtain ⟨v0, vs0, d0, ds0, p0, q0, hargs, rfl, rfl, h0, r0⟩ := trodAll_cons hA
  obtain ⟨v1, vs1, d1, ds1, p1, q1, rfl, rfl, rfl, h1, r1⟩ := trodAll_cons r0
  obtain ⟨rfl, rfl, rfl⟩ := trodAll_nil r1
  obtain rfl : args = #[v0, v1] := by cases args; simp_all
  obtain ⟨rfl, rfl⟩ := trodVars_none hV
  have k0 := h0
  have lt0 : ∀ x ∈ p0, x.block < W.heap.size := by obtain ⟨m, hm⟩ := k0; exact DataW.trod_lt m _ _ _ hm
  have k1 := h1
  have lt1 : ∀ x ∈ p1, x.block < W.heap.size := by obtain ⟨m, hm⟩ := k1; exact DataW.trod_lt m _ _ _ hm
  obtain ⟨s0, len0, cap0, rfl⟩ := okWide_slice Tryd.underlying22 (hval 0 22 v0 rfl rfl)
  have w0 := isOps_of h0
  obtain ⟨a1, rfl, rfl, rfl, w1⟩ := open_string Tryd.underlying9 (hval 1 9 v1 rfl rfl) h1
  clear hA0 hval0
  refine (walk W s0 len0 cap0 w0 a1 w1 hsh hL).mono fun e W' ⟨he, bel⟩ => ?_
  subst he
  exact ⟨_, rfl, _, _, _, [], _, [], hW', trodAll_mk1 (shut_bool Tryd.underlying4 _), (trodAll_cons_mk (Below.trod laidOut (by kernel_rfl) (of_decide_eq_true (by kernel_rfl)) k0 bel lt0) (trodAll_cons_mk (Below.trod laidOut (by kernel_rfl) (of_decide_eq_true (by kernel_rfl)) k1 bel lt1) trodAll_mk0)), rfl, bel.frame _, fun h => by cases h⟩

theorem over : Rows.vfsRealRow.holds Tryd.pinned (OpenSpec.ofChange Rows.vfsRealSpec) :=
  OpenClaim.holds_of_wide 4 Tryd.f4 rfl rfl rfl rfl rfl rfl rfl ⟨rfl, rfl, rfl, rfl, rfl⟩ rfl rfl rfl rfl rfl (by kernel_rfl) Tryd.func4 (by kernel_rfl)
    (of_decide_eq_true (by kernel_rfl)) (by unfold Func.isWrapper; first | (rw [if_pos (by decide +kernel)]; kernel_rfl) | (rw [if_neg (by decide +kernel)]; exact ⟨rfl, rfl⟩))
    (fun os started H enc _ => lifted os started H enc)

theorem card : Claim7.holds Tryd.pinned (.plain (OpenSpec.ofChange Rows.vfsRealSpec)) Rows.vfsRealCard :=
  Claim7.holds_tied_plain_at .later [] [.data, .pinned] true (true, "a7eb2e7b05ced29e8ca615c7860188a0d6c16829fa131a224f90777978a0019e") false over (fun _ h => by cases h) (by kernel_rfl) (fun _ h => by cases h) vfsReal_row_tie rfl ⟨rfl, rfl⟩ (by kernel_rfl) rfl
    (fun f fn hf hfn => by
      obtain rfl : f = 4 := Option.some.inj ((show Tryd.prog.funcNamed Rows.vfsRealRow.func = some 4 by kernel_rfl).symm.trans hf) |>.symm
      obtain rfl : fn = Tryd.f4 := (Option.some.inj (Tryd.func4.symm.trans hfn)).symm
      exact ⟨by kernel_rfl, fun j t ht => by
        rw [Tryd.params4] at ht
        have hm : t ∈ [22, 9] := by simpa using Array.mem_of_getElem? ht
        have hall : ([22, 9].all fun u => !Tryd.prog.wantsStandIn u) = true := by kernel_rfl
        exact (show Tryd.prog.wantsStandIn t = false by simpa using List.all_eq_true.1 hall t hm)⟩)
    (by kernel_rfl)
end LVfsReal
theorem VfsReal_proved : Rows.VfsRealCardSaid := LVfsReal.card
end Go.Proofs.YtleejifhpgokiaaDoor
