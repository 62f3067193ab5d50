/-
  Layer 4: the chapter's examples hold ('alive' of messuagelaw04).
-/
import Derived.Test.YtobamanlfcnilabDoorPathI
set_option linter.unusedVariables false
namespace Go.Proofs.YtobamanlfcnilabDoor
open Go.RowKit Go.PlainAid
theorem alive_Clean1 (w : World) (hm : Mx w) : Calls Tryd.prog 5 #[.string ⟨#[47, 97, 47, 46, 47, 98, 47, 47, 46, 46, 47, 99]⟩] w fun e w' => e = .returned (.tuple #[.string ⟨#[47, 97, 47, 99]⟩, .int .i64 0]) ∧ Below w.heap.size w w' := by
  have h := path_Clean ⟨#[47, 97, 47, 46, 47, 98, 47, 47, 46, 46, 47, 99]⟩ w hm (by decide)
  have e1 : clT (⟨#[47, 97, 47, 46, 47, 98, 47, 47, 46, 46, 47, 99]⟩ : ByteArray).data.toList = [47, 97, 47, 99] := by decide +kernel
  have e2 : clE (⟨#[47, 97, 47, 46, 47, 98, 47, 47, 46, 46, 47, 99]⟩ : ByteArray).data.toList = 0 := by decide +kernel
  rw [e1, e2] at h
  exact h
theorem alive_Clean2 (w : World) (hm : Mx w) : Calls Tryd.prog 5 #[.string ⟨#[97]⟩] w fun e w' => e = .returned (.tuple #[.string ⟨#[]⟩, .int .i64 40]) ∧ Below w.heap.size w w' := by
  have h := path_Clean ⟨#[97]⟩ w hm (by decide)
  have e1 : clT (⟨#[97]⟩ : ByteArray).data.toList = [] := by decide +kernel
  have e2 : clE (⟨#[97]⟩ : ByteArray).data.toList = 40 := by decide +kernel
  rw [e1, e2] at h
  exact h
theorem alive_Archive (w : World) (hm : Mx w) : Calls Tryd.prog 15 #[.string ⟨#[47, 120, 46, 97, 112, 107, 33, 47, 108, 105, 98, 47, 97, 46, 115, 111]⟩] w fun e w' => e = .returned (.tuple #[.string ⟨#[47, 120, 46, 97, 112, 107]⟩, .string ⟨#[108, 105, 98, 47, 97, 46, 115, 111]⟩, .bool true]) ∧ Below w.heap.size w w' := by
  have h := path_Archive ⟨#[47, 120, 46, 97, 112, 107, 33, 47, 108, 105, 98, 47, 97, 46, 115, 111]⟩ w hm (by decide)
  have e1 : arcA (⟨#[47, 120, 46, 97, 112, 107, 33, 47, 108, 105, 98, 47, 97, 46, 115, 111]⟩ : ByteArray).data.toList = [47, 120, 46, 97, 112, 107] := by decide +kernel
  have e2 : arcB (⟨#[47, 120, 46, 97, 112, 107, 33, 47, 108, 105, 98, 47, 97, 46, 115, 111]⟩ : ByteArray).data.toList = [108, 105, 98, 47, 97, 46, 115, 111] := by decide +kernel
  have e3 : arcC (⟨#[47, 120, 46, 97, 112, 107, 33, 47, 108, 105, 98, 47, 97, 46, 115, 111]⟩ : ByteArray).data.toList = true := by decide +kernel
  rw [e1, e2, e3] at h
  exact h
theorem alive_Base (w : World) : Calls Tryd.prog 16 #[.string ⟨#[47, 97, 47, 98]⟩] w fun e w' => e = .returned (.string ⟨#[98]⟩) ∧ w' = w := by
  have h := path_Base ⟨#[47, 97, 47, 98]⟩ w (by decide)
  have e1 : baseOf (⟨#[47, 97, 47, 98]⟩ : ByteArray).data.toList = [98] := by decide +kernel
  rw [e1] at h
  exact h
theorem alive_Up (w : World) : Calls Tryd.prog 17 #[.string ⟨#[47, 97]⟩] w fun e w' => e = .returned (.string ⟨#[47]⟩) ∧ w' = w := by
  have h := path_Up ⟨#[47, 97]⟩ w (by decide)
  have e1 : upOf (⟨#[47, 97]⟩ : ByteArray).data.toList = [47] := by decide +kernel
  rw [e1] at h
  exact h
theorem alive_Under (w : World) : Calls Tryd.prog 9 #[.string ⟨#[47, 97, 98]⟩, .string ⟨#[47, 97]⟩] w fun e w' => e = .returned (.bool false) ∧ w' = w := by
  have h := path_Under ⟨#[47, 97, 98]⟩ ⟨#[47, 97]⟩ w
  have e1 : underOf (⟨#[47, 97, 98]⟩ : ByteArray).data.toList (⟨#[47, 97]⟩ : ByteArray).data.toList = false := by decide +kernel
  rw [e1] at h
  exact h
set_option maxHeartbeats 1000000 in
set_option maxRecDepth 20000 in
theorem alive04 (w : World) (hm : Mx w) : Calls Tryd.prog 6 #[] w fun e w' => e = .returned (.bool true) ∧ Below w.heap.size w w' := by
  have hC1 := alive_Clean1 w hm
  have HM : Hid (Mx w) := hm
  clear hm
  go_enter Tryd.func6, Tryd.ntmps6
  go_wp2_with fail
  refine hC1.mono ?_
  rintro e w1 ⟨rfl, b1⟩
  have HM1 : Hid (Mx w1) := HM.out.below b1
  have hC2 := alive_Clean2 w1 HM1.out
  go_wp2_with fail
  refine hC2.mono ?_
  rintro e w2 ⟨rfl, b2⟩
  have HM2 : Hid (Mx w2) := HM1.out.below b2
  have hA := alive_Archive w2 HM2.out
  go_wp2_with fail
  refine hA.mono ?_
  rintro e w3 ⟨rfl, b3⟩
  have hb := alive_Base w3
  go_wp2_with fail
  refine hb.mono ?_
  rintro e w4 ⟨rfl, hw4⟩; rw [hw4]; clear hw4
  have hu := alive_Up w3
  go_wp2_with fail
  refine hu.mono ?_
  rintro e w4 ⟨rfl, hw4⟩; rw [hw4]; clear hw4
  have hn := alive_Under w3
  go_wp2_with fail
  refine hn.mono ?_
  rintro e w4 ⟨rfl, hw4⟩; rw [hw4]; clear hw4
  go_wp2
  go_ret
  exact ⟨rfl, (b1.trans (b2.mono b1.size)).trans (b3.mono (b1.trans (b2.mono b1.size)).size)⟩
end Go.Proofs.YtobamanlfcnilabDoor
