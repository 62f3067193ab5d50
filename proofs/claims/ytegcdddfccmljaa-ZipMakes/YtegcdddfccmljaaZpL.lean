
/-
  Layer 7 (zip): the chapter's examples, as the statements ask for them.
-/
import Derived.Test.YtegcdddfccmljaaZpK
import Derived.Lib.SlBytesConst
set_option linter.unusedVariables false
namespace Go.Proofs.Ytegcdddfccmljaa
open Go.RowKit Go.PlainAid
/-- The archive of one file, a, with the bytes xy. -/
def oneB : List UInt8 := ownB 0 [97] [120, 121] ++ listB 0 [97] [120, 121] ++ lastB 1 47 258
def oneF (g : Nat) : List Fl := [⟨[97], [120, 121], .slice (some ⟨g, 0, none⟩) 2 2⟩]
theorem one_make (g : Nat) : makeN (oneF g) = .ok oneB := by kernel_rfl
theorem one_a : findZ oneB [97] = (256, 2, 0) := by kernel_rfl
theorem one_b : findZ oneB [98] = (0, 0, 71) := by kernel_rfl
theorem one_none : readZ [] = none := by kernel_rfl
theorem one_len : oneB.length = 327 := by kernel_rfl
theorem one_at (w : World) : FilesAt ((w.alloc (.cells #[.int .u8 120, .int .u8 121] 5 (2, 3))).alloc (.cells #[.string ⟨#[97]⟩, .slice (some ⟨w.heap.size, 0, none⟩) 2 2] 50)) (some ⟨w.heap.size + 1, 0, none⟩) (oneF w.heap.size) := by
  have e1 : (w.alloc (.cells #[.int .u8 120, .int .u8 121] 5 (2, 3))).heap.size = w.heap.size + 1 := by simp
  have hc : ∀ j, ((w.alloc (.cells #[.int .u8 120, .int .u8 121] 5 (2, 3))).alloc (.cells #[.string ⟨#[97]⟩, .slice (some ⟨w.heap.size, 0, none⟩) 2 2] 50)).cell? ⟨w.heap.size + 1, j, none⟩ = (#[.string ⟨#[97]⟩, .slice (some ⟨w.heap.size, 0, none⟩) 2 2] : Array Value)[j]? := fun j => by
    unfold World.cell?
    rw [← e1, heap_alloc_new]
    rfl
  have hd : ∀ j, ((w.alloc (.cells #[.int .u8 120, .int .u8 121] 5 (2, 3))).alloc (.cells #[.string ⟨#[97]⟩, .slice (some ⟨w.heap.size, 0, none⟩) 2 2] 50)).cell? ⟨w.heap.size, j, none⟩ = (#[.int .u8 120, .int .u8 121] : Array Value)[j]? := fun j => by
    unfold World.cell?
    rw [heap_alloc_old _ _ (by simp), heap_alloc_new]
    rfl
  refine .inr ⟨w.heap.size + 1, 0, rfl, fun i hi => ?_⟩
  match i, hi with
  | 0, _ =>
    refine ⟨by rw [hc]; rfl, by rw [hc]; rfl, ⟨_, 2, rfl, by show (2 : Nat) ≤ 2; decide, by decide, by show (2 : Nat) ≤ 1000000000000; decide, .inr ⟨⟨w.heap.size, 0, none⟩, rfl, fun j hj => ?_⟩⟩, by show (1 : Nat) ≤ 9223372036854775807; decide⟩
    rw [add_at, Nat.zero_add, hd]
    match j, hj with
    | 0, _ => rfl
    | 1, _ => rfl
set_option maxHeartbeats 4000000 in
set_option maxRecDepth 20000 in
theorem alive07 (w : World) : Calls Try.prog 9 #[] w fun e w' => e = .returned (.bool true) ∧ Below w.heap.size w w' := by
  have b2 : Below w.heap.size w ((w.alloc (.cells #[.int .u8 120, .int .u8 121] 5 (2, 3))).alloc (.cells #[.string ⟨#[97]⟩, .slice (some ⟨w.heap.size, 0, none⟩) 2 2] 50)) := ((Below.refl _ w).alloc (Nat.le_refl _) _).alloc (by simp) _
  have hM := zip_Make _ _ 1 (oneF w.heap.size) (Nat.le_refl 1) (by decide) (one_at w)
  have kc := fun (w : World) (C : Array Value) (n c : Nat) => Lib.run_convert_bytes_const (P := Try.prog) w 22 5 C n c Try.underlying22 Try.underlying5
  have HB2 := hide b2
  rw [show (oneF w.heap.size).length = 1 from rfl, one_make] at hM
  clear b2
  go_enter Try.func9, Try.ntmps9
  go_wp2_with fail
  generalize (w.alloc (.cells #[.int .u8 120, .int .u8 121] 5 (2, 3))).alloc _ = w2 at *
  refine hM.mono ?_
  rintro e w3 ⟨⟨v3, rfl, own3⟩, hb3⟩
  have HB3 : Hid (Below w.heap.size w w3) := HB2.out.trans (hb3.mono HB2.out.size)
  have HO3 := hide own3
  have hF := zip_Find w3 v3 oneB [97] (own3.arg (by rw [one_len]; decide))
  rw [one_a] at hF
  simp only [findV] at hF
  clear hM hb3 kc own3
  go_wp2_with fail
  refine hF.mono ?_
  rintro e w4 ⟨rfl, hb4⟩
  have HB4 : Hid (Below w.heap.size w w4) := HB3.out.trans (hb4.mono HB3.out.size)
  have hG := zip_Find w4 v3 oneB [98] ((HO3.out.stay hb4).arg (by rw [one_len]; decide))
  rw [one_b] at hG
  simp only [findV] at hG
  clear hF hb4
  go_wp2_with fail
  refine hG.mono ?_
  rintro e w5 ⟨rfl, hb5⟩
  have HB5 : Hid (Below w.heap.size w w5) := HB4.out.trans (hb5.mono HB4.out.size)
  have hL := zip_List w5 (.slice none 0 0) [] ⟨none, 0, rfl, by simp, by simp, by simp, .inl ⟨rfl, rfl, rfl⟩⟩
  rw [one_none] at hL
  clear hG hb5
  go_wp2_with fail
  refine hL.mono ?_
  rintro e w6 ⟨hE, hb6⟩
  have hE' : e = _ := hE
  subst hE'
  have HB6 : Hid (Below w.heap.size w w6) := HB5.out.trans (hb6.mono HB5.out.size)
  clear hL hb6 hE
  go_wp2
  go_ret
  exact ⟨rfl, HB6.out⟩
end Go.Proofs.Ytegcdddfccmljaa
