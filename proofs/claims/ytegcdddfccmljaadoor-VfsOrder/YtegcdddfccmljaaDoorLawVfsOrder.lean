
/-
  VfsOrder returns true for every row of nodes, every path and every place, and what came in reads afterwards as it read before: no condition (the listed tables of unicode/utf8 are tied to the program's text, and never read; internal/bytealg.MaxLen is whatever it is).
-/
import Derived.Test.YtegcdddfccmljaaDoorRows
import Derived.Test.YtegcdddfccmljaaDoorCards
import Derived.Test.YtegcdddfccmljaaDoorTie
import Derived.Test.YtegcdddfccmljaaDoorFsY
import Derived.Test.YtegcdddfccmljaaDoorFsQe
import Derived.WalkKit
import Derived.ProofKit
import Derived.OpenShut
import Derived.ShutString
import Derived.ChangeOld
import Derived.Below
import Derived.LaidMore
import Derived.Lay
import Derived.SevenTiedAt
import Derived.Stop.Joined
set_option linter.unusedVariables false
namespace Go.Proofs.YtegcdddfccmljaaDoor
namespace LVfsOrder
open Go.ChangeShapes Go.WideShapes Go.ChangeAt Go.RowKit
open Go.ChangeMaps (open_string shut_string)
set_option maxHeartbeats 8000000 in
set_option maxRecDepth 20000 in
theorem core (w : World) (s0 : Option Addr) (len0 cap0 : Nat) (h0 : IsNds w s0 len0 cap0) (p : ByteArray) (hp0 : p.size ≤ maxLen) (x : Int) (hx0 : -9223372036854775808 ≤ x) (hx1 : x ≤ 9223372036854775807) (hsh : w.ShapedOpen Tryd.prog) (hL : laidMetH Tryd.prog Rows.vfsOrderRow.laid w) :
    Calls Tryd.prog 4 #[.slice s0 len0 cap0, .string p, .int .i64 x] w fun e w' => e = .returned (.bool true) ∧ Below w.heap.size w w' := by
  have hm := mx_of_shape hsh
  have hg : 0 < w.heap.size := by
    obtain ⟨m, h⟩ := hm
    exact World.block_lt_of_cell? _ _ h
  obtain ⟨L, hl, hn⟩ := h0.list
  obtain ⟨hlc, hcm, _⟩ := h0
  subst hl
  have hcap2 : cap0 ≤ 9223372036854775807 := by unfold maxLen at hcm; omega
  have hpm : p.size ≤ 9223372036854775807 := by unfold maxLen at hp0; omega
  have hGr := law_Great w s0 cap0 L hlc hcm hn
  have HN := hide hn
  have HM := hide hm
  have HG := hide hg
  have HC := hide hcm
  clear hsh hL hn hm hg hcm hp0
  go_enter Tryd.func4, Tryd.ntmps4
  go_wp2_with fail
  refine hGr.mono ?_
  rintro e w' ⟨⟨b, rfl, hB⟩, hw⟩
  rw [← hw]
  clear hw hGr
  rcases hB with rfl | ⟨rfl, h400, hsm⟩
  · go_wp2
    go_ret
    exact ⟨rfl, Below.refl _ _⟩
  by_cases hp : 4096 < p.size
  · have hpI : (4096 : Int) < (p.size : Int) := by omega
    clear hp
    go_wp2
    go_ret
    exact ⟨rfl, Below.refl _ _⟩
  have hpI : ¬ (4096 : Int) < (p.size : Int) := by omega
  by_cases hz : L.length = 0
  · have hzb : ((L.length : Int) == 0) = true := by rw [hz]; rfl
    go_wp2
    go_ret
    exact ⟨rfl, Below.refl _ _⟩
  have hzb : ((L.length : Int) == 0) = false := by rw [beq_eq_false_iff_ne]; omega
  have hzn : (L.length : Int) ≠ 0 := by omega
  have HSM := hide hsm
  clear hsm
  obtain ⟨k, hk, hat⟩ := turned x L.length (by omega) h400
  obtain ⟨y, o, rfl, hI⟩ : ∃ y o, s0 = some ⟨y, o, none⟩ ∧ ∀ i (h : i < L.length), IsNd w y (o + i * 4) L[i] := by
    rcases HN.out.at_ with e | e
    · rw [e] at hz; simp at hz
    · exact e
  have HD : Hid (∀ i (h : i < (L.drop k).length), IsNd w y (o + k * 4 + i * 4) (L.drop k)[i]) := fun i h => by
    have h' : k + i < L.length := by rw [List.length_drop] at h; omega
    rw [List.getElem_drop, show o + k * 4 + i * 4 = o + (k + i) * 4 by omega]
    exact hI (k + i) h'
  have HT : Hid (∀ i (h : i < (L.take k).length), IsNd w y (o + i * 4) (L.take k)[i]) := fun i h => by
    have h' : i < L.length := by rw [List.length_take] at h; omega
    rw [List.getElem_take]
    exact hI i h'
  have HI := hide hI
  have HNS : Hid (∀ n ∈ L.drop k ++ L.take k, (-9223372036854775808 ≤ n.kind ∧ n.kind ≤ 9223372036854775807) ∧ Src w (fun _ => False) n.vd n.data) := fun n hm => by
    obtain ⟨j, hj, e⟩ := List.getElem_of_mem ((rot_perm L k).mem_iff.1 hm)
    have := hI j hj
    rw [e] at this
    exact ⟨⟨this.k0, this.k1⟩, this.src⟩
  have HSO : Hid (∀ n ∈ L.drop k ++ L.take k, SmallN n) := fun n hm => HSM.out n ((rot_perm L k).mem_iff.1 hm)
  have HPE := hide (rot_perm L k)
  have HLO : Hid ((L.drop k ++ L.take k).length = L.length) := HPE.out.length_eq
  have hkI : (k : Int) ≤ (L.length : Int) := by omega
  have hkc : (k : Int) ≤ (cap0 : Int) := by omega
  have HLD : Hid ((L.drop k).length = L.length - k) := List.length_drop
  have HLK : Hid ((L.take k).length = k) := by unfold Hid; rw [List.length_take]; omega
  clear hI
  go_upto_region 5 with fail
  go_wp2_with (at_builtin; refine append_nds rfl _ _ rfl w.heap.size w _ [] (World.ownsRow_nil _ _ _ _) (L.drop k) y (o + k * 4) _ HD.out rfl (by rw [HLD.out]; rfl) (by rw [HLD.out, List.length_nil]; omega) (Nat.le_refl _) ?_)
  intro v1 w1 r1 g1
  have HB1 : Hid (Below w.heap.size w w1) := (Turn.of_grown g1 (F := fun _ => False) (fun k e => by cases e)).below (Nat.le_refl _) (fun _ e => e.elim)
  have HR1 : Hid (w1.ownsRow w.heap.size 40 4 v1 (L.drop k).length (flatN (L.drop k))) := by unfold Hid; simpa using r1
  have HT1 : Hid (∀ i (h : i < (L.take k).length), IsNd w1 y (o + i * 4) (L.take k)[i]) := fun i h => (HT.out i h).stay HB1.out
  clear r1 g1
  go_wp2_with (at_builtin; refine append_nds rfl _ _ rfl w.heap.size w1 _ _ HR1.out (L.take k) y o cap0 HT1.out rfl (by rw [HLK.out]; rfl) (by rw [HLK.out, HLD.out]; omega) HB1.out.size ?_)
  intro v2 w2 r2 g2
  have HR2 : Hid (w2.ownsRow w.heap.size 40 4 v2 (L.drop k ++ L.take k).length (flatN (L.drop k ++ L.take k))) := by unfold Hid; simpa using r2
  have HB2 : Hid (Below w.heap.size w w2) := HB1.out.grown g2 HB1.out.size (fun k hk => (World.ownsRow.lt HR1.out k hk).1)
  obtain ⟨a2, c2, hv2, hlc2, hcm2, _⟩ := row_nds HR2.out (fun n hn => ⟨(HNS.out n hn).1, (HNS.out n hn).2.turn (Turn.of_below HB2.out)⟩)
  subst hv2
  clear r2 g2 HR1 HT1 HT HD HLD HLK
  have HLC := hide hlc2
  have HCM := hide hcm2
  generalize L.drop k ++ L.take k = O at *
  by_cases hbig : 256 < L.length
  · have hbI : (256 : Int) < (L.length : Int) := by omega
    have hN1 := vfs_New_big w2 (some ⟨y, o, none⟩) L.length cap0 hbig
    have hN2 := vfs_New_big w2 a2 O.length c2 (by have := HLO.out; omega)
    clear hbig HI HNS HSO HPE HLO HR2 HLC HCM HSM hat hx0 hx1 HN hkI hkc hk
    go_wp2_with fail
    refine hN1.mono ?_
    rintro e w3 ⟨c, hc, rfl, hw⟩
    rw [← hw]
    clear hN1 hw
    go_wp2_with fail
    refine hN2.mono ?_
    rintro e w3 ⟨c', hc', rfl, hw⟩
    rw [← hw]
    clear hN2 hw
    go_wp2_with (go_at_call 8; refine (alive06 w2 (HM.out.below HB2.out) (Nat.lt_of_lt_of_le HG.out HB2.out.size)).mono ?_; rintro e w9 ⟨rfl, hb9⟩)
    go_ret
    exact ⟨rfl, HB2.out.trans (hb9.mono HB2.out.size)⟩
  have HSMALL : Hid (L.length ≤ 256) := by unfold Hid; omega
  have hbI : ¬ (256 : Int) < (L.length : Int) := by omega
  have hN1 := vfs_New w2 (HM.out.below HB2.out) (some ⟨y, o, none⟩) cap0 L hlc HC.out ⟨.inr ⟨y, o, rfl, fun i h => (HI.out i h).stay HB2.out⟩⟩ HSM.out
  clear hbig hat hx0 hx1 hkI hkc hk
  go_wp2_with fail
  refine hN1.mono ?_
  rintro e w3 ⟨hE, hb3⟩
  have HB3 : Hid (Below w.heap.size w w3) := HB2.out.trans (hb3.mono HB2.out.size)
  have HR3 : Hid (w3.ownsRow w.heap.size 40 4 (.slice a2 O.length c2) O.length (flatN O)) := own_turn HR2.out (Turn.of_below (F := fun _ => False) hb3) (fun _ _ => id)
  have HND : Hid (NdsAt w3 a2 O) := by
    obtain ⟨a', c', e, _, _, h⟩ := row_nds HR3.out (fun n hn => ⟨(HNS.out n hn).1, (HNS.out n hn).2.turn (Turn.of_below HB3.out)⟩)
    injection e with e1 e2 e3
    rw [e1]; exact h
  have hN2 := vfs_New w3 (HM.out.below HB3.out) a2 c2 O HLC.out HCM.out HND.out HSO.out
  clear hN1 hb3
  rcases hE with ⟨c, hc, hce, rfl⟩ | ⟨F, rfl, M, v, l, hfs, hso⟩
  · have HCE := hide hce
    have HCC := hide hc
    go_wp2_with fail
    refine hN2.mono ?_
    rintro e w4 ⟨hE, hb4⟩
    have HB4 : Hid (Below w.heap.size w w4) := HB3.out.trans (hb4.mono HB3.out.size)
    clear hN2 hb4
    rcases hE with ⟨c', hc', _, rfl⟩ | ⟨F, rfl, M, v, l, hfs, hso⟩
    · go_wp2_with (go_at_call 8; refine (alive06 w4 (HM.out.below HB4.out) (Nat.lt_of_lt_of_le HG.out HB4.out.size)).mono ?_; rintro e w9 ⟨rfl, hb9⟩)
      go_ret
      exact ⟨rfl, HB4.out.trans (hb9.mono HB4.out.size)⟩
    · exfalso
      have h1 := newErr_perm HPE.out (sound_zero hso (by rw [HLO.out]; exact HSMALL.out))
      rw [HCE.out] at h1
      have h2 := HCC.out
      rw [h1] at h2
      exact absurd h2 (by decide)
  have HF3 := hide hfs
  have HSD := hide hso
  have HZ : Hid (newErr O = 0) := newErr_perm HPE.out.symm (sound_zero hso HSMALL.out)
  clear hfs hso
  go_wp2_with fail
  refine hN2.mono ?_
  rintro e w4 ⟨hE, hb4⟩
  have HB4 : Hid (Below w.heap.size w w4) := HB3.out.trans (hb4.mono HB3.out.size)
  have HF4 := hide (HF3.out.stay hb4)
  clear hN2 hb4
  rcases hE with ⟨c', hc', hce', rfl⟩ | ⟨F', rfl, M', v', l', hfs, hso⟩
  · exfalso
    rw [HZ.out] at hce'
    rw [← hce'] at hc'
    exact absurd hc' (by decide)
  have HG4 := hide hfs
  have hps : (l.map strip).Perm (l'.map strip) := by
    rw [HSD.out.grow.same, hso.grow.same]
    exact (HPE.out.map strip).symm
  have HA := hide (all_same hps hso.grow.nod p.data.toList)
  have HD1 := hide (chk_datas HSD.out.grow)
  have HD2 := hide (chk_datas hso.grow)
  have HNL := hide (names_len (rootN :: l) p.data.toList)
  clear hps hso hfs HSD HZ HF3
  generalize rootN :: l = f at *
  generalize rootN :: l' = g at *
  have hp4 : p.size ≤ 4096 := by omega
  have hG : ∀ W, Below w.heap.size w W → 0 < W.heap.size := fun W h => Nat.lt_of_lt_of_le HG.out h.size
  have HGG := hide hG
  clear hG
  obtain ⟨n1, hr1⟩ := res_any f p.data.toList
  obtain ⟨n2, hr2⟩ := res_any g p.data.toList
  have hR1 := vfs_Resolve w4 (HM.out.below HB4.out) (HGG.out _ HB4.out) _ F M v f HF4.out p hp4
  rw [hr1] at hR1
  rw [← HA.out.1.1, ← HA.out.1.2] at hr2
  have HR2V := hide hr2
  generalize hfe : (findN f p.data.toList).1 = fe at *
  generalize hfp : resP f p.data.toList = fp at *
  clear hr1 hr2
  go_wp2_with fail
  refine hR1.mono ?_
  rintro e w5 ⟨rfl, hb5⟩
  have HB5 : Hid (Below w.heap.size w w5) := HB4.out.trans (hb5.mono HB4.out.size)
  have HF5 := hide (HF4.out.stay hb5)
  have HG5 := hide (HG4.out.stay hb5)
  have hR2 := vfs_Resolve w5 (HM.out.below HB5.out) (HGG.out _ HB5.out) _ F' M' v' g HG5.out p hp4
  rw [HR2V.out] at hR2
  clear hR1 hb5
  go_wp2_with fail
  refine hR2.mono ?_
  rintro e w6 ⟨rfl, hb6⟩
  have HB6 : Hid (Below w.heap.size w w6) := HB5.out.trans (hb6.mono HB5.out.size)
  have HF6 := hide (HF5.out.stay hb6)
  have HG6 := hide (HG5.out.stay hb6)
  have hO1 := vfs_Open w6 (HM.out.below HB6.out) (HGG.out _ HB6.out) _ F M v f HF6.out p hp4 HD1.out
  clear hR2 hb6
  go_wp2_with fail
  refine hO1.mono ?_
  rintro e w7 ⟨hE, hb7⟩
  obtain ⟨m1, va, rfl, hva⟩ := open_any hE
  have HB7 : Hid (Below w.heap.size w w7) := HB6.out.trans (hb7.mono HB6.out.size)
  have HF7 := hide (HF6.out.stay hb7)
  have HG7 := hide (HG6.out.stay hb7)
  have HVA := hide hva
  have hO2 := vfs_Open w7 (HM.out.below HB7.out) (HGG.out _ HB7.out) _ F' M' v' g HG7.out p hp4 HD2.out
  clear hO1 hb7 hE hva
  generalize hoe : (openN f p.data.toList).1 = oe at *
  generalize hop : openP f p.data.toList = op at *
  generalize hod : openD f p.data.toList = od at *
  go_wp2_with fail
  refine hO2.mono ?_
  rintro e w8 ⟨hE, hb8⟩
  obtain ⟨m2, vb, rfl, hvb⟩ := open_any hE
  rw [← HA.out.2.1.2.2] at hvb
  rw [← HA.out.2.1.1, ← HA.out.2.1.2.1]
  have HB8 : Hid (Below w.heap.size w w8) := HB7.out.trans (hb8.mono HB7.out.size)
  have HF8 := hide (HF7.out.stay hb8)
  have HG8 := hide (HG7.out.stay hb8)
  have HVA8 := hide (HVA.out.turn (Turn.of_below hb8))
  have HVB := hide hvb
  have hM1 := vfs_Names w8 (HM.out.below HB8.out) (HGG.out _ HB8.out) _ F M v f HF8.out p hp4
  clear hO2 hb8 hE hvb
  go_wp2_with fail
  refine hM1.mono ?_
  rintro e w9 ⟨hE, hb9⟩
  obtain ⟨vu, rfl, hvu⟩ := names_any hE
  have HB9 : Hid (Below w.heap.size w w9) := HB8.out.trans (hb9.mono HB8.out.size)
  have HG9 := hide (HG8.out.stay hb9)
  have HVA9 := hide (HVA8.out.turn (Turn.of_below hb9))
  have HVB9 := hide (HVB.out.turn (Turn.of_below hb9))
  have HVU := hide hvu
  have hfl : f.length ≤ 1000 := HF8.out.small
  have hM2 := vfs_Names w9 (HM.out.below HB9.out) (HGG.out _ HB9.out) _ F' M' v' g HG9.out p hp4
  clear hM1 hb9 hE hvu
  generalize hne : namesE f p.data.toList = ne at *
  generalize hnl : namesL f p.data.toList = nl at *
  go_wp2_with fail
  refine hM2.mono ?_
  rintro e wt ⟨hE, hbt⟩
  obtain ⟨vv, rfl, hvv⟩ := names_any hE
  rw [← HA.out.2.2.2] at hvv
  rw [← HA.out.2.2.1]
  have HBT : Hid (Below w.heap.size w wt) := HB9.out.trans (hbt.mono HB9.out.size)
  have tx1 := (HVA9.out.turn (Turn.of_below hbt)).text
  have tx2 := (HVB9.out.turn (Turn.of_below hbt)).text
  have hS := ref_Same wt _ _ vu vv _ (HVU.out.stay hbt) hvv (by rw [List.length_map]; have := HNL.out; omega)
  clear hM2 hbt hE hvv
  go_wp2_with (go_at_call 16; refine hS.mono ?_; rintro e wu ⟨rfl, hbu⟩)
  have HBU : Hid (Below w.heap.size w wu) := HBT.out.trans (hbu.mono HBT.out.size)
  clear hbu
  go_wp2_with (go_at_call 8; refine (alive06 wu (HM.out.below HBU.out) (HGG.out _ HBU.out)).mono ?_; rintro e wz ⟨rfl, hbz⟩)
  go_ret
  exact ⟨rfl, HBU.out.trans (hbz.mono HBU.out.size)⟩
theorem walk (w : World) (s0 : Option Addr) (len0 cap0 : Nat) (h0 : IsNds w s0 len0 cap0) (p : ByteArray) (hp0 : p.size ≤ maxLen) (x : Int) (hx : (Lit.int .i64 x).wf = true) (hsh : w.ShapedOpen Tryd.prog) (hL : laidMetH Tryd.prog Rows.vfsOrderRow.laid w) :
    Calls Tryd.prog 4 #[.slice s0 len0 cap0, .string p, .int .i64 x] w fun e w' => e = .returned (.bool true) ∧ Below w.heap.size w w' :=
  core w s0 len0 cap0 h0 p hp0 x (bounds_i64 hx).1 (bounds_i64 hx).2 hsh hL
theorem own : ownKnob Tryd.prog.godebug = none := by kernel_rfl
theorem laidOut : laidOutB Tryd.prog = true := by kernel_rfl
set_option maxRecDepth 100000 in
theorem lifted (os : Os) (started : os.Started) (H : Type) (enc : TypeId × Value → H) :
    ReturnsInHanded {} Tryd.checked os 4 .any (fun w args => (Rows.vfsOrderSpec.pre enc Tryd.prog Tryd.f4 Rows.vfsOrderRow.domain false w args ∧ laidMetH Tryd.prog Rows.vfsOrderRow.laid w) ∧ sizedMet enc Tryd.prog Tryd.f4 (OpenSpec.ofChange Rows.vfsOrderSpec) false w args)
      (Rows.vfsOrderSpec.post enc Tryd.prog Tryd.f4 false true false false) := by
  refine wrap_and_shaped (C := Tryd.checked) (X := fun w _ => laidMetH Tryd.prog Rows.vfsOrderRow.laid w) (fun _ _ _ hh h => h.of_heap hh) own started (by kernel_rfl) Tryd.func4
    (ChangeSpec.witness_shaped (enc := enc) (C := Tryd.checked) (os := os) (X := fun w _ => laidMetH Tryd.prog Rows.vfsOrderRow.laid w) false (World.laidAll Tryd.prog os Rows.vfsOrderRow.laid) #[.slice none 0 0, .string ByteArray.empty, .int .i64 0] 8 (World.laidAll_os _ _ _)
      (World.shaped_of_ZipB (by kernel_rfl) (by kernel_rfl)) (by kernel_rfl) (by kernel_rfl) (by kernel_rfl)
      (by rw [MakeChecks.laidMetH_plain _ _ _ (by kernel_rfl)]; exact laidMet_laidAll _ (by kernel_rfl) (by kernel_rfl))) ?_
  intro W base args ds gs before hval0 hW hcnd hz hL hsh
  have hval : ∀ (j : Nat) t v, Tryd.f4.params[j]? = some t → args[j]? = some v → Value.okWide Tryd.prog W .any base t v := hval0
  have hW' := hW
  obtain ⟨p, q, hA0, hV, rfl, hfz, hnd⟩ := hW
  have hA : DataW.TrodAll enc Tryd.prog W 0 (fun _ => true) true Tryd.f4.params.toList args.toList ds p := hA0
  rw [Tryd.params4] at hA hval
  obtain ⟨v0, vs0, d0, ds0, p0, q0, hargs, rfl, rfl, h0, r0⟩ := trodAll_cons hA
  obtain ⟨v1, vs1, d1, ds1, p1, q1, rfl, rfl, rfl, h1, r1⟩ := trodAll_cons r0
  obtain ⟨v2, vs2, d2, ds2, p2, q2, rfl, rfl, rfl, h2, r2⟩ := trodAll_cons r1
  obtain ⟨rfl, rfl, rfl⟩ := trodAll_nil r2
  obtain rfl : args = #[v0, v1, v2] := by cases args; simp_all
  obtain ⟨rfl, rfl⟩ := trodVars_none hV
  have k0 := h0
  have lt0 : ∀ x ∈ p0, x.block < W.heap.size := by obtain ⟨m, hm⟩ := k0; exact DataW.trod_lt m _ _ _ hm
  have k1 := h1
  have lt1 : ∀ x ∈ p1, x.block < W.heap.size := by obtain ⟨m, hm⟩ := k1; exact DataW.trod_lt m _ _ _ hm
  have k2 := h2
  have lt2 : ∀ x ∈ p2, x.block < W.heap.size := by obtain ⟨m, hm⟩ := k2; exact DataW.trod_lt m _ _ _ hm
  obtain ⟨s0, len0, cap0, rfl⟩ := okWide_slice Tryd.underlying22 (hval 0 22 v0 rfl rfl)
  have w0 := isOps_of h0
  obtain ⟨a1, rfl, rfl, rfl, w1⟩ := open_string Tryd.underlying9 (hval 1 9 v1 rfl rfl) h1
  obtain ⟨a2, rfl, rfl, rfl, w2⟩ := open_int Tryd.underlying3 (hval 2 3 v2 rfl rfl) h2
  clear hA0 hval0
  refine (walk W s0 len0 cap0 w0 a1 w1 a2 w2 hsh hL).mono fun e W' ⟨he, bel⟩ => ?_
  subst he
  exact ⟨_, rfl, _, _, _, [], _, [], hW', trodAll_mk1 (shut_bool Tryd.underlying4 _), (trodAll_cons_mk (Below.trod laidOut (by kernel_rfl) (of_decide_eq_true (by kernel_rfl)) k0 bel lt0) (trodAll_cons_mk (Below.trod laidOut (by kernel_rfl) (of_decide_eq_true (by kernel_rfl)) k1 bel lt1) (trodAll_cons_mk (Below.trod laidOut (by kernel_rfl) (of_decide_eq_true (by kernel_rfl)) k2 bel lt2) trodAll_mk0))), rfl, bel.frame _, fun h => by cases h⟩

theorem over : Rows.vfsOrderRow.holds Tryd.pinned (OpenSpec.ofChange Rows.vfsOrderSpec) :=
  OpenClaim.holds_of_wide 4 Tryd.f4 rfl rfl rfl rfl rfl rfl rfl ⟨rfl, rfl, rfl, rfl, rfl⟩ rfl rfl rfl rfl rfl (by kernel_rfl) Tryd.func4 (by kernel_rfl)
    (of_decide_eq_true (by kernel_rfl)) (by unfold Func.isWrapper; first | (rw [if_pos (by decide +kernel)]; kernel_rfl) | (rw [if_neg (by decide +kernel)]; exact ⟨rfl, rfl⟩))
    (fun os started H enc _ => lifted os started H enc)

theorem card : Claim7.holds Tryd.pinned (.plain (OpenSpec.ofChange Rows.vfsOrderSpec)) Rows.vfsOrderCard :=
  Claim7.holds_tied_plain_at .later [] [.data, .pinned] true (true, "4f8cec40a5908f0e40ea2449bcd30019af461e3cfae6838e5b3e4f0c7437fe10") false over (fun _ h => by cases h) (by kernel_rfl) (fun _ h => by cases h) vfsOrder_row_tie rfl ⟨rfl, rfl⟩ (by kernel_rfl) rfl
    (fun f fn hf hfn => by
      obtain rfl : f = 4 := Option.some.inj ((show Tryd.prog.funcNamed Rows.vfsOrderRow.func = some 4 by kernel_rfl).symm.trans hf) |>.symm
      obtain rfl : fn = Tryd.f4 := (Option.some.inj (Tryd.func4.symm.trans hfn)).symm
      exact ⟨by kernel_rfl, fun j t ht => by
        rw [Tryd.params4] at ht
        have hm : t ∈ [22, 9, 3] := by simpa using Array.mem_of_getElem? ht
        have hall : ([22, 9, 3].all fun u => !Tryd.prog.wantsStandIn u) = true := by kernel_rfl
        exact (show Tryd.prog.wantsStandIn t = false by simpa using List.all_eq_true.1 hall t hm)⟩)
    (by kernel_rfl)
end LVfsOrder
theorem VfsOrder_proved : Rows.VfsOrderCardSaid := LVfsOrder.card
end Go.Proofs.YtegcdddfccmljaaDoor
