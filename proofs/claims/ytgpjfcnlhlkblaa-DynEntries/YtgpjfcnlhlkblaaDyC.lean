
/-
  Layer 9 (dyn): a section of one entry is read, as the statements ask.
-/
import Derived.Test.YtgpjfcnlhlkblaaDyB
set_option linter.unusedVariables false
namespace Go.Proofs.Ytgpjfcnlhlkblaa
open Go.RowKit Go.PlainAid Go.Sort
def oneEnt : List UInt8 := leN 8 1 ++ leN 8 77 ++ List.replicate 16 0
theorem ents_one : entsZ oneEnt = some [⟨1, 77⟩] := by kernel_rfl
theorem ents_none : entsZ [] = none := by kernel_rfl
theorem one_len : oneEnt.length = 32 := by kernel_rfl
theorem nil_arg (w : World) : Arg w (.slice none 0 0) [] := ⟨none, 0, rfl, by simp, by simp, by simp, .inl ⟨rfl, rfl, rfl⟩⟩
set_option maxHeartbeats 2000000 in
theorem alive09 (w : World) : Calls Try.prog 28 #[] w fun e w' => e = .returned (.bool true) ∧ Below w.heap.size w w' := by
  have S0 : Hid (Sm w w (.slice none 0 0) []) := ⟨Own.nil _ _, Below.refl _ _⟩
  have hP := sm_Put S0 (by simp [Hid]) 1 8 (by omega) (by omega)
  clear S0
  go_enter Try.func28, Try.ntmps28
  go_wp2_with fail
  refine hP.mono ?_
  rintro e w1 ⟨v1, rfl, S1⟩
  have hP1 := sm_Put S1 (by simp [Hid, leN_length]) 77 8 (by omega) (by omega)
  clear hP S1
  go_wp2_with fail
  refine hP1.mono ?_
  rintro e w2 ⟨v2, rfl, S2⟩
  have hZ := sm_Zeros S2 (by simp [Hid, leN_length]) 16 (by omega)
  clear hP1 S2
  go_wp2_with fail
  refine hZ.mono ?_
  rintro e w3 ⟨v3, rfl, S3⟩
  have hE := dyn_Entries w3 v3 oneEnt (by have := S3.out.own; rw [List.nil_append] at this; exact this.arg (show oneEnt.length ≤ _ by rw [one_len]; omega)) (by rw [one_len]; omega)
  rw [ents_one] at hE
  clear hZ
  go_wp2_with fail
  refine hE.mono ?_
  rintro e w4 ⟨⟨v4, rfl, own4⟩, hb4⟩
  have HB4 : Hid (Below w.heap.size w w4) := S3.out.bel.trans (hb4.mono S3.out.bel.size)
  have HA4 := hide (own4.arg (by simp))
  obtain ⟨a4, c4, rfl⟩ := HA4.out.form
  clear hE hb4 own4 S3
  have hN := dyn_Entries w4 (.slice none 0 0) [] (nil_arg w4) (by simp)
  rw [ents_none] at hN
  have hN2 : Calls Try.prog 26 #[.slice none 0 0] w4 fun e w' => e = .returned (.tuple #[.slice none 0 0, .int .i64 90]) ∧ Below w4.heap.size w4 w' := hN
  clear hN
  simp only [List.length_cons, List.length_nil, Nat.zero_add] at *
  go_wp2_with fail
  refine hN2.mono ?_
  rintro e w5 ⟨rfl, hb5⟩
  have HB5 : Hid (Below w.heap.size w w5) := HB4.out.trans (hb5.mono HB4.out.size)
  obtain ⟨g, rfl, p1, p2, _, y0, y1⟩ := (HA4.out.below hb5).at 0 (by simp)
  simp only [List.getElem_cons_zero, Nat.zero_mul, Nat.zero_add] at y0 y1
  clear hN2 hb5
  go_wp2
  go_ret
  exact ⟨rfl, HB5.out⟩
end Go.Proofs.Ytgpjfcnlhlkblaa
