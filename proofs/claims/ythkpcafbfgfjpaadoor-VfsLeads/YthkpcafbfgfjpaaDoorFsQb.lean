
/-
  Names keeps its contract.
-/
import Derived.Test.YthkpcafbfgfjpaaDoorFsQ
set_option linter.unusedVariables false
namespace Go.Proofs.YthkpcafbfgfjpaaDoor
open Go.RowKit Go.PlainAid
def kidsOf (l : List Nd) (d : List UInt8) : List (List UInt8) := (l.filter fun n => childOf n.path.data.toList d).map fun n => baseOf n.path.data.toList
theorem kids_snoc {l : List Nd} {i : Nat} (h : i < l.length) (d : List UInt8) : kidsOf (l.take (i + 1)) d = kidsOf (l.take i) d ++ (if childOf l[i].path.data.toList d = true then [baseOf l[i].path.data.toList] else []) := by
  unfold kidsOf
  rw [List.take_add_one, List.getElem?_eq_getElem h, List.filter_append, List.map_append]
  congr 1
  simp only [Option.toList_some, List.filter_cons, List.filter_nil]
  split <;> rfl
theorem kids_len (l : List Nd) (i : Nat) (d : List UInt8) : (kidsOf (l.take i) d).length ≤ l.length := by
  unfold kidsOf
  rw [List.length_map]
  refine Nat.le_trans (List.length_filter_le _ _) ?_
  rw [List.length_take]; omega
def namesE (l : List Nd) (p : List UInt8) : Int := if (findN l p).1 ≠ 0 then (findN l p).1 else if kindAt l (findN l p).2 = 1 then 0 else 65
def NamesE (w w' : World) (l : List Nd) (p : List UInt8) (e : Ending) : Prop :=
  (namesE l p ≠ 0 ∧ e = .returned (.tuple #[.slice none 0 0, .int .i64 (namesE l p)])) ∨
  (namesE l p = 0 ∧ (findN l p).2 < l.length ∧ ∃ vb, e = .returned (.tuple #[vb, .int .i64 0]) ∧ OwnS w' w.heap.size vb ((sorted (kidsOf l (pathAt l (findN l p).2))).map tx))
set_option maxHeartbeats 4000000 in
set_option maxRecDepth 20000 in
theorem vfs_Names (w : World) (hm : Mx w) (hg : 0 < w.heap.size) (B F M : Nat) (v : Value) (l : List Nd) (hf : FsAt w B F M v l) (p : ByteArray) (hp : p.size ≤ 4096) :
    Calls Tryd.prog 13 #[.pointer (some ⟨F, 0, none⟩), .string p] w fun e w' => NamesE w w' l p.data.toList e ∧ Below w.heap.size w w' := by
  have hFi := vfs_find w hm hg B F M v l hf p hp
  have HLT := hide (findN_lt hf p.data.toList)
  have HF := hide hf
  unfold findV at hFi
  have HO : Hid (namesE l p.data.toList = if (findN l p.data.toList).1 ≠ 0 then (findN l p.data.toList).1 else if kindAt l (findN l p.data.toList).2 = 1 then 0 else 65) := rfl
  have HE : Hid (∀ w' e, (namesE l p.data.toList ≠ 0 ∧ e = .returned (.tuple #[.slice none 0 0, .int .i64 (namesE l p.data.toList)])) ∨ (namesE l p.data.toList = 0 ∧ (findN l p.data.toList).2 < l.length ∧ ∃ vb, e = .returned (.tuple #[vb, .int .i64 0]) ∧ OwnS w' w.heap.size vb ((sorted (kidsOf l (pathAt l (findN l p.data.toList).2))).map tx)) → NamesE w w' l p.data.toList e) := fun _ _ h => h
  generalize hNE : NamesE w = NE at *
  clear hNE
  generalize namesE l p.data.toList = ON at *
  generalize findN l p.data.toList = R at *
  obtain ⟨re, rn⟩ := R
  dsimp only at hFi HLT HO HE
  clear hm hf
  go_enter Tryd.func13, Tryd.ntmps13
  go_wp2_with fail
  refine hFi.mono ?_
  rintro e w1 ⟨rfl, hb1⟩
  have HB1 := hide hb1
  have HF1 := hide (HF.out.stay hb1)
  clear hFi hb1
  by_cases he : re = 0
  · rw [if_neg (by simpa using he)] at HO
    have hlt := HLT.out he
    obtain ⟨g, cap, rfl, C⟩ := HF1.out.cells
    have a0 := C.a0
    have q0 := C.c0 rn hlt
    have q1 := C.c1 rn hlt
    have q2 := C.c2 rn hlt
    have q3 := C.c3 rn hlt
    have hkd := kindAt_of hlt
    have hdt := HF1.out.dat _ (List.getElem_mem hlt)
    have hpa : Hid (tx (pathAt l rn) = (l[rn]'hlt).path) := by unfold Hid; rw [pathAt_of hlt, tx_data]
    obtain ⟨me, hme⟩ : ∃ me, l[rn]'hlt = me := ⟨_, rfl⟩
    rw [hme] at hkd hdt q0 q1 q2 q3
    have HPA : Hid (pathAt l rn = me.path.data.toList) := by have := hpa.out; rw [hme] at this; rw [← this, data_tx]; rfl
    rw [hkd] at HO
    rw [HPA.out] at HE
    obtain ⟨ea, ec, hve, _, _, _⟩ := hdt
    rw [hve] at q2
    have hlI : (rn : Int) < (l.length : Int) := by omega
    have hcap2 : cap ≤ 9223372036854775807 := by have := C.cap2; unfold maxLen at this; omega
    have hsm := HF1.out.small
    have hbz := below_box w1 (.cells #[.string me.path, .int .i64 me.kind, .slice ea me.data.length ec, .string me.to] 40)
    have HBZ : Hid (Below w.heap.size w (w1.alloc (.cells #[.string me.path, .int .i64 me.kind, .slice ea me.data.length ec, .string me.to] 40))) := HB1.out.trans (hbz.mono HB1.out.size)
    have HXZ := hide (NdH (w := w1) hve)
    have HFZ := hide (HF1.out.stay hbz)
    have HLN := hide hlt
    subst he
    clear C HLT hme hkd hbz hpa HF1
    by_cases hk2 : me.kind = 1
    · rw [if_pos hk2] at HO
      have hkb : (me.kind != 1) = false := by rw [hk2]; rfl
      clear hk2
      have hz0 : (w1.alloc (.cells #[.string me.path, .int .i64 me.kind, .slice ea me.data.length ec, .string me.to] 40)).cell? ⟨F, 0, none⟩ = some (.slice (some ⟨g, 0, none⟩) l.length cap) := by
        obtain ⟨g', cap', e, C'⟩ := HFZ.out.cells
        cases e
        exact C'.a0
      go_wp2
      clear q0 q1 q2 q3 a0 hz0
      have hZ : Hid (w1.heap.size < (w1.alloc (.cells #[.string me.path, .int .i64 me.kind, .slice ea me.data.length ec, .string me.to] 40)).heap.size) := HXZ.out.lt
      generalize w1.alloc (.cells #[.string me.path, .int .i64 me.kind, .slice ea me.data.length ec, .string me.to] 40) = w2 at *
      generalize w1.heap.size = Z at *
      go_loopw [9, 36] (fun vo vi wr => ∃ i : Nat, i ≤ l.length ∧ vi = .int .i64 i ∧ OwnS wr w2.heap.size vo ((kidsOf (l.take i) me.path.data.toList).map tx) ∧ Hid (Below w2.heap.size w2 wr)) (fun _ vi _ => l.length - (intOf vi).toNat)
      case atStart => exact ⟨0, by omega, rfl, OwnS.nil _ _, Below.refl _ _⟩
      case round =>
        obtain ⟨i, hi, rfl, hown, HB⟩ := hrel
        have HFR := hide (HFZ.out.stay HB.out)
        have HXR := hide (HXZ.out.heap (HB.out.block _ hZ.out))
        have hkl := kids_len l i me.path.data.toList
        by_cases hlt : i < l.length
        · have hltI : (i : Int) < (l.length : Int) := by omega
          obtain ⟨g', cap', e, C'⟩ := HFR.out.cells
          cases e
          have c0 := C'.c0 i hlt
          have c1 := C'.c1 i hlt
          have c2 := C'.c2 i hlt
          have c3 := C'.c3 i hlt
          have hdt := HFR.out.dat _ (List.getElem_mem hlt)
          have hps := (HFR.out.knd _ (List.getElem_mem hlt)).2.1
          have HK := hide (kids_snoc hlt me.path.data.toList)
          obtain ⟨n, hn⟩ : ∃ n, l[i] = n := ⟨_, rfl⟩
          rw [hn] at c0 c1 c2 c3 hdt hps HK
          obtain ⟨na, nc, hnv, _, _, _⟩ := hdt
          rw [hnv] at c2
          have hbx := below_box wr (.cells #[.string n.path, .int .i64 n.kind, .slice na n.data.length nc, .string n.to] 40)
          have HOX := hide (hown.stay hbx)
          have HBX := hide (HB.out.trans (hbx.mono HB.out.size))
          have HXN := hide (NdH (w := wr) hnv)
          have HXM := hide (HXR.out.heap (hbx.block _ HXR.out.lt))
          clear C' hbx hn HFR HXR
          go_upto_region 11 with fail
          clear c0 c1 c2 c3
          generalize wr.alloc (.cells #[.string n.path, .int .i64 n.kind, .slice na n.data.length nc, .string n.to] 40) = w3 at *
          generalize wr.heap.size = X at *
          have hCh := path_Child n.path me.path w3 (by omega)
          have hBa := path_Base n.path w3 (by omega)
          have x0 := HXN.out.cells.c0
          have z0 := HXM.out.cells.c0
          go_wp2_with fail
          refine hCh.mono ?_
          rintro e W4 ⟨rfl, hw⟩
          rw [hw]
          clear hCh hw
          cases hc : childOf n.path.data.toList me.path.data.toList with
          | true =>
            rw [hc, if_pos rfl] at HK
            have hown3 := HOX.out
            go_wp2_with fail
            refine hBa.mono ?_
            rintro e W4 ⟨rfl, hw⟩
            rw [hw]
            clear hw hBa
            go_wp2_with (at_builtin; refine append_text rfl _ _ rfl w2.heap.size w3 _ _ hown3 (tx (baseOf n.path.data.toList)) rfl rfl (by rw [List.length_map]; omega) HBX.out.size ?_)
            intro v' w4 k1 k2
            have HN : Hid (OwnS w4 w2.heap.size v' ((kidsOf (l.take (i + 1)) me.path.data.toList).map tx)) := by rw [HK.out, List.map_append]; exact k1
            have HB4 := hide (HBX.out.trans k2)
            clear k1 k2
            go_wp2
            go_roundw
            case rel => exact ⟨i + 1, by omega, by go_num, HN.out, HB4⟩
            case measure => simp [intOf]; omega
          | false =>
            rw [hc, if_neg (by decide), List.append_nil] at HK
            clear hBa
            go_wp2
            go_roundw
            case rel => exact ⟨i + 1, by omega, by go_num, by rw [HK.out]; exact HOX.out, HBX⟩
            case measure => simp [intOf]; omega
        · have hltI : ¬ (i : Int) < (l.length : Int) := by omega
          have HI : Hid (l.take i = l) := List.take_of_length_le (by omega)
          have hSo := sort_own wr w2.heap.size _ _ hown (by omega)
          go_wp2_with fail
          refine hSo.mono ?_
          rintro e w5 ⟨rfl, ho5, g5⟩
          have HB5 : Hid (Below w.heap.size w w5) := HBZ.out.trans ((HB.out.grown g5 HB.out.size (fun k hk => (World.ownsRow.lt hown k hk).1)).mono HBZ.out.size)
          have HO5 := hide ho5
          clear hSo ho5 g5
          go_wp2
          go_ret2
          exact ⟨HE.out _ _ (.inr ⟨HO.out, HLN.out, _, rfl, by have := HO5.out.low HBZ.out.size; rw [HI.out] at this; exact this⟩), HB5.out⟩
    · rw [if_neg hk2] at HO
      have hkb : (me.kind != 1) = true := by simpa using hk2
      clear hk2
      go_wp2
      go_ret2
      exact ⟨HE.out _ _ (.inl (by rw [HO.out]; exact ⟨by decide, rfl⟩)), HBZ.out⟩
  · rw [if_pos he] at HO
    have heb : (re != 0) = true := by simpa using he
    go_wp2
    go_ret2
    exact ⟨HE.out _ _ (.inl (by rw [HO.out]; exact ⟨he, rfl⟩)), HB1.out⟩
end Go.Proofs.YthkpcafbfgfjpaaDoor
