
/-
  Layer 18 (conf): where the first property, the first part of a name stands; Get.
-/
import Derived.Test.YtmcefflgbliehaaDoorCfA
import Derived.Shelf.Abstract
set_option linter.unusedVariables false
namespace Go.Proofs.YtmcefflgbliehaaDoor
open Go.RowKit Go.PlainAid Go.Sort
theorem tx_eqC (l m : List UInt8) : ((tx l).toList == (tx m).toList) = (l == m) := by
  rw [Lib.toList_data, Lib.toList_data, data_tx, data_tx]
def isSx (n : List UInt8) (s : Sx) : Bool := s.name == n
set_option maxHeartbeats 1000000 in
theorem conf_property1 (w : World) (e : Pr) (R : Nat) (nm : List UInt8) (hR : w.cell? ⟨R, 0, none⟩ = some (.string (tx nm))) :
    Calls Tryd.prog 58 #[.agg e.cells.toArray, .pointer (some ⟨R, 0, none⟩)] w fun x w' => x = .returned (.bool (isP nm e)) ∧ Below w.heap.size w w' := by
  have hlt : R < w.heap.size := World.block_lt_of_cell? _ _ hR
  obtain ⟨nn, va, li⟩ := e
  have HB : Hid (Below w.heap.size w (w.alloc (.cells (Pr.cells ⟨nn, va, li⟩).toArray 60))) := (Below.refl _ w).alloc (Nat.le_refl _) _
  unfold isP
  rw [← tx_eqC]
  simp only [Pr.cells] at HB ⊢
  go_enter Tryd.func58, Tryd.ntmps58
  go_wp2
  go_ret
  exact ⟨rfl, HB.out⟩
set_option maxHeartbeats 1000000 in
theorem conf_section1 (w : World) (e : Sx) (R : Nat) (nm : List UInt8) (hR : w.cell? ⟨R, 0, none⟩ = some (.string (tx nm))) :
    Calls Tryd.prog 82 #[.agg e.cells.toArray, .pointer (some ⟨R, 0, none⟩)] w fun x w' => x = .returned (.bool (isSx nm e)) ∧ Below w.heap.size w w' := by
  have hlt : R < w.heap.size := World.block_lt_of_cell? _ _ hR
  obtain ⟨nn, pv, ps⟩ := e
  have HB : Hid (Below w.heap.size w (w.alloc (.cells (Sx.cells ⟨nn, pv, ps⟩).toArray 38))) := (Below.refl _ w).alloc (Nat.le_refl _) _
  unfold isSx
  rw [← tx_eqC]
  simp only [Sx.cells] at HB ⊢
  go_enter Tryd.func82, Tryd.ntmps82
  go_wp2
  go_ret
  exact ⟨rfl, HB.out⟩
set_option maxHeartbeats 2000000 in
theorem lib_IndexP (w : World) (v : Value) (es : List Pr) (h : ArgP w v es) (R : Nat) (nm : List UInt8) (hR : w.cell? ⟨R, 0, none⟩ = some (.string (tx nm))) :
    Calls Tryd.prog 57 #[v, .func (.func 58) #[] #[.pointer (some ⟨R, 0, none⟩)]] w fun x w' => x = .returned (.int .i64 (fstI (isP nm) es 0)) ∧ Below w.heap.size w w' := by
  have eg : ∀ args w, (callFunc 58 args).run Tryd.prog w = .ok (.enter 58 args) w := enters_of Tryd.func58 (by kernel_rfl) rfl
  have HR := hide hR
  have HO := hide h
  have hlen := h.1
  obtain ⟨a, cap, rfl⟩ := h.form
  clear h hR
  go_enter Tryd.func57, Tryd.ntmps57
  go_wp2
  go_loopw [5, 8] (fun _ vi wr => ∃ i : Nat, i ≤ es.length ∧ vi = .int .i64 i ∧ Hid (Below w.heap.size w wr) ∧ Hid (fstI (isP nm) es 0 = fstI (isP nm) (es.drop i) i)) (fun _ vi _ => es.length - (intOf vi).toNat)
  case atStart => exact ⟨0, by omega, rfl, Below.refl _ _, rfl⟩
  case round =>
    obtain ⟨i, hi, rfl, HB, HF⟩ := hrel
    by_cases hlt : i < es.length
    · have hltI : (i : Int) < (es.length : Int) := by omega
      obtain ⟨g, o, rfl, hc1, hc2, hg, d0, d1, d2⟩ := (HO.out.below HB.out).at i hlt
      have hRr : wr.cell? ⟨R, 0, none⟩ = some (.string (tx nm)) := by rw [HB.out.cell (p := ⟨R, 0, none⟩) (World.block_lt_of_cell? _ _ HR.out)]; exact HR.out
      have hcall := conf_property1 wr es[i] R nm hRr
      have hF := HF.out
      rw [List.drop_eq_getElem_cons hlt, fstI] at hF
      simp only [Pr.cells] at hcall
      clear HF hRr
      cases hp : isP nm es[i] with
      | true =>
        rw [hp] at hcall
        rw [if_pos hp] at hF
        have HV := hide hF
        clear hF hp
        generalize es[i] = e at *
        go_wp2_with (go_at_fn 58; refine hcall.mono ?_; rintro e w1 ⟨rfl, hb⟩)
        go_ret
        exact ⟨by rw [HV.out]; rfl, HB.out.trans (hb.mono HB.out.size)⟩
      | false =>
        rw [hp] at hcall
        rw [if_neg (by rw [hp]; simp)] at hF
        have HV := hide hF
        clear hF hp
        generalize es[i] = e at *
        go_wp2_with (go_at_fn 58; refine hcall.mono ?_; rintro e w1 ⟨rfl, hb⟩)
        go_roundw
        case rel => exact ⟨i + 1, by omega, by go_num, HB.out.trans (hb.mono HB.out.size), HV⟩
        case measure => simp [intOf]; omega
    · have hltI : ¬ (i : Int) < (es.length : Int) := by omega
      have he : i = es.length := by omega
      subst he
      have hF := HF.out
      rw [List.drop_length, fstI] at hF
      have HV := hide hF
      clear hF HF
      go_wp2
      go_ret
      exact ⟨by rw [HV.out]; rfl, HB.out⟩
set_option maxHeartbeats 2000000 in
theorem lib_IndexX (w : World) (v : Value) (es : List Sx) (h : ArgX w v es) (R : Nat) (nm : List UInt8) (hR : w.cell? ⟨R, 0, none⟩ = some (.string (tx nm))) :
    Calls Tryd.prog 81 #[v, .func (.func 82) #[] #[.pointer (some ⟨R, 0, none⟩)]] w fun x w' => x = .returned (.int .i64 (fstI (isSx nm) es 0)) ∧ Below w.heap.size w w' := by
  have eg : ∀ args w, (callFunc 82 args).run Tryd.prog w = .ok (.enter 82 args) w := enters_of Tryd.func82 (by kernel_rfl) rfl
  have HR := hide hR
  have HO := hide h
  have hlen := h.1
  obtain ⟨a, cap, rfl⟩ := h.form
  clear h hR
  go_enter Tryd.func81, Tryd.ntmps81
  go_wp2
  go_loopw [5, 8] (fun _ vi wr => ∃ i : Nat, i ≤ es.length ∧ vi = .int .i64 i ∧ Hid (Below w.heap.size w wr) ∧ Hid (fstI (isSx nm) es 0 = fstI (isSx nm) (es.drop i) i)) (fun _ vi _ => es.length - (intOf vi).toNat)
  case atStart => exact ⟨0, by omega, rfl, Below.refl _ _, rfl⟩
  case round =>
    obtain ⟨i, hi, rfl, HB, HF⟩ := hrel
    by_cases hlt : i < es.length
    · have hltI : (i : Int) < (es.length : Int) := by omega
      obtain ⟨g, o, rfl, hc1, hc2, hg, d0, d1⟩ := (HO.out.below HB.out).at i hlt
      have hRr : wr.cell? ⟨R, 0, none⟩ = some (.string (tx nm)) := by rw [HB.out.cell (p := ⟨R, 0, none⟩) (World.block_lt_of_cell? _ _ HR.out)]; exact HR.out
      have hcall := conf_section1 wr es[i] R nm hRr
      have hF := HF.out
      rw [List.drop_eq_getElem_cons hlt, fstI] at hF
      simp only [Sx.cells] at hcall
      clear HF hRr
      cases hp : isSx nm es[i] with
      | true =>
        rw [hp] at hcall
        rw [if_pos hp] at hF
        have HV := hide hF
        clear hF hp
        generalize es[i] = e at *
        go_wp2_with (go_at_fn 82; refine hcall.mono ?_; rintro e w1 ⟨rfl, hb⟩)
        go_ret
        exact ⟨by rw [HV.out]; rfl, HB.out.trans (hb.mono HB.out.size)⟩
      | false =>
        rw [hp] at hcall
        rw [if_neg (by rw [hp]; simp)] at hF
        have HV := hide hF
        clear hF hp
        generalize es[i] = e at *
        go_wp2_with (go_at_fn 82; refine hcall.mono ?_; rintro e w1 ⟨rfl, hb⟩)
        go_roundw
        case rel => exact ⟨i + 1, by omega, by go_num, HB.out.trans (hb.mono HB.out.size), HV⟩
        case measure => simp [intOf]; omega
    · have hltI : ¬ (i : Int) < (es.length : Int) := by omega
      have he : i = es.length := by omega
      subst he
      have hF := HF.out
      rw [List.drop_length, fstI] at hF
      have HV := hide hF
      clear hF HF
      go_wp2
      go_ret
      exact ⟨by rw [HV.out]; rfl, HB.out⟩
set_option maxHeartbeats 1000000 in
theorem conf_property (w : World) (v : Value) (es : List Pr) (h : ArgP w v es) (nm : List UInt8) :
    Calls Tryd.prog 33 #[v, .string (tx nm)] w fun x w' => x = .returned (.int .i64 (fstI (isP nm) es 0)) ∧ Below w.heap.size w w' := by
  have hb0 : Below w.heap.size w (w.alloc (.cells #[.string (tx nm)] 9)) := below_box _ _
  have hI := lib_IndexP _ v es (h.below hb0) w.heap.size nm (by rw [World.cell?_alloc_at _ _ _ _ (by simp)]; rfl)
  have HB := hide hb0
  generalize fstI (isP nm) es 0 = z at *
  obtain ⟨a, cap, rfl⟩ := h.form
  clear hb0 h
  go_enter Tryd.func33, Tryd.ntmps33
  go_wp2_with (go_at_call 57; refine hI.mono ?_; rintro e w1 ⟨rfl, hb⟩)
  go_ret
  exact ⟨rfl, HB.out.trans (hb.mono HB.out.size)⟩
set_option maxHeartbeats 1000000 in
theorem conf_section (w : World) (v : Value) (es : List Sx) (h : ArgX w v es) (nm : List UInt8) :
    Calls Tryd.prog 52 #[v, .string (tx nm)] w fun x w' => x = .returned (.int .i64 (fstI (isSx nm) es 0)) ∧ Below w.heap.size w w' := by
  have hb0 : Below w.heap.size w (w.alloc (.cells #[.string (tx nm)] 9)) := below_box _ _
  have hI := lib_IndexX _ v es (h.below hb0) w.heap.size nm (by rw [World.cell?_alloc_at _ _ _ _ (by simp)]; rfl)
  have HB := hide hb0
  generalize fstI (isSx nm) es 0 = z at *
  obtain ⟨a, cap, rfl⟩ := h.form
  clear hb0 h
  go_enter Tryd.func52, Tryd.ntmps52
  go_wp2_with (go_at_call 81; refine hI.mono ?_; rintro e w1 ⟨rfl, hb⟩)
  go_ret
  exact ⟨rfl, HB.out.trans (hb.mono HB.out.size)⟩
/-- What Get answers. -/
def getV (l : List Pr) (nm : List UInt8) : List UInt8 := ((l.find? (isP nm)).map Pr.value).getD []
def getB (l : List Pr) (nm : List UInt8) : Bool := (l.find? (isP nm)).isSome
set_option maxHeartbeats 1000000 in
theorem conf_Get (w : World) (n0 : ByteArray) (v : Value) (es : List Pr) (h : ArgP w v es) (nm : List UInt8) :
    Calls Tryd.prog 15 #[.agg #[.string n0, v], .string (tx nm)] w fun x w' => x = .returned (.tuple #[.string (tx (getV es nm)), .bool (getB es nm)]) ∧ Below w.heap.size w w' := by
  have hb0 : Below w.heap.size w (w.alloc (.cells #[.string n0, v] 38)) := below_box _ _
  have hI := conf_property _ v es (h.below hb0) nm
  have HB := hide hb0
  have HO := hide h
  have hlen := h.1
  obtain ⟨a, cap, rfl⟩ := h.form
  clear hb0 h
  rcases fstI_is (isP nm) es 0 with ⟨h1, h2, _⟩ | ⟨k, hk, h1, h2, _⟩
  · rw [h1] at hI
    have e1 : getV es nm = [] := by unfold getV; rw [h2]; rfl
    have e2 : getB es nm = false := by unfold getB; rw [h2]; rfl
    rw [e1, e2]
    clear e1 e2 h1 h2
    go_enter Tryd.func15, Tryd.ntmps15
    go_wp2_with (go_at_call 33; refine hI.mono ?_; rintro e w1 ⟨rfl, hb⟩)
    go_ret2
    exact ⟨rfl, HB.out.trans (hb.mono HB.out.size)⟩
  · rw [h1, Nat.zero_add] at hI
    have e1 : getV es nm = es[k].value := by unfold getV; rw [h2]; rfl
    have e2 : getB es nm = true := by unfold getB; rw [h2]; rfl
    obtain ⟨z, hz⟩ : ∃ z, es[k].value = z := ⟨_, rfl⟩
    rw [e1, hz, e2]
    have HZ := hide hz
    have hkI : (k : Int) < (es.length : Int) := by omega
    clear e1 e2 h1 h2 hz
    go_enter Tryd.func15, Tryd.ntmps15
    go_wp2_with fail
    refine hI.mono ?_
    rintro e w1 ⟨rfl, hb⟩
    have HB1 := hide (HB.out.trans (hb.mono HB.out.size))
    obtain ⟨g, o, rfl, hc1, hc2, hg, d0, d1, d2⟩ := (HO.out.below HB1.out).at k hk
    have s1 : w1.cell? ⟨w.heap.size, 1, none⟩ = some (.slice (some ⟨g, o, none⟩) es.length cap) := by
      rw [hb.cell (p := ⟨w.heap.size, 1, none⟩) (by simp), World.cell?_alloc_at _ _ _ _ (by simp)]; rfl
    rw [HZ.out] at d1
    clear hb hI HZ
    go_wp2
    go_ret2
    exact ⟨rfl, HB1.out⟩
end Go.Proofs.YtmcefflgbliehaaDoor
