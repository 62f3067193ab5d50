
/-
  Layer 8 (head): the small library is read, as the statements ask.
-/
import Derived.Test.YtgpjfcnlhlkblaaHdK
import Derived.KernelRfl
set_option linter.unusedVariables false
namespace Go.Proofs.Ytgpjfcnlhlkblaa
open Go.RowKit Go.PlainAid Go.Sort
def smP : Ph := ⟨1, 4, 0, 0, 256, 256, 8⟩
def smD : Ph := ⟨2, 4, 192, 192, 16, 16, 8⟩
theorem sm_parse : parseZ smallB = .ok ⟨62, [smP], smD, noPh⟩ := by kernel_rfl
theorem sm_none : parseZ [] = .error 80 := by kernel_rfl
theorem sm_off : offN [smP] 192 16 = (192, true) := by kernel_rfl
theorem sm_span : spanN [smP] = 1 := by kernel_rfl
theorem sm_ok : ∀ p ∈ [smP], p.ok := fun p hp => by
  rw [List.mem_singleton.1 hp]
  exact ⟨by decide, by decide, by decide, by decide, by decide, by decide, by decide⟩
theorem sm_len : smallB.length = 256 := by kernel_rfl
set_option maxHeartbeats 4000000 in
set_option maxRecDepth 20000 in
theorem alive08 (w : World) : Calls Try.prog 11 #[] w fun e w' => e = .returned (.bool true) ∧ Below w.heap.size w w' := by
  have hS := law_small w
  go_enter Try.func11, Try.ntmps11
  go_wp2_with fail
  refine hS.mono ?_
  rintro e w1 ⟨v1, rfl, own1, hb1⟩
  have hP := head_Parse w1 v1 smallB (own1.arg (by rw [sm_len]; omega)) (by rw [sm_len]; omega)
  rw [sm_parse] at hP
  have HB1 := hide hb1
  clear hS own1 hb1
  go_wp2_with fail
  refine hP.mono ?_
  rintro e w2 ⟨⟨v2, rfl, own2⟩, hb2⟩
  have HB2 : Hid (Below w.heap.size w w2) := HB1.out.trans (hb2.mono HB1.out.size)
  have hA2 := own2.arg (by decide)
  obtain ⟨a2, c2, rfl⟩ := hA2.form
  have HA2 := hide hA2
  clear hP hb2 own2 hA2 HB1
  simp only [hdCells, smD, noPh, List.length_cons, List.length_nil, Nat.zero_add] at *
  go_wp2_with fail
  have HB3 : Hid (Below w.heap.size w (w2.alloc (.cells (hdCells 62 (.slice a2 1 c2) smD noPh).toArray 37))) := HB2.out.alloc HB2.out.size _
  have HA3 : Hid (ArgH (w2.alloc (.cells (hdCells 62 (.slice a2 1 c2) smD noPh).toArray 37)) (.slice a2 1 c2) [smP]) := HA2.out.below ((Below.refl _ _).alloc (Nat.le_refl _) _)
  have HG3 : Hid ((w2.alloc (.cells (hdCells 62 (.slice a2 1 c2) smD noPh).toArray 37)).heap[w2.heap.size]? = some (.cells (hdCells 62 (.slice a2 1 c2) smD noPh).toArray 37 (0, 0))) := heap_alloc_new _ _
  have hN := head_Parse (w2.alloc (.cells (hdCells 62 (.slice a2 1 c2) smD noPh).toArray 37)) (.slice none 0 0) [] ⟨none, 0, rfl, by simp, by simp, by simp, .inl ⟨rfl, rfl, rfl⟩⟩ (by simp)
  rw [sm_none] at hN
  have hN2 : Calls Try.prog 12 #[.slice none 0 0] (w2.alloc (.cells (hdCells 62 (.slice a2 1 c2) smD noPh).toArray 37)) fun e w' => e = .returned (.tuple #[.agg zeroHd.toArray, .int .i64 80]) ∧ Below (w2.alloc (.cells (hdCells 62 (.slice a2 1 c2) smD noPh).toArray 37)).heap.size (w2.alloc (.cells (hdCells 62 (.slice a2 1 c2) smD noPh).toArray 37)) w' := hN
  clear hN
  refine hN2.mono ?_
  rintro e w4 ⟨rfl, hb4⟩
  have HB4 : Hid (Below w.heap.size w w4) := HB3.out.trans (hb4.mono HB3.out.size)
  have HA4 := hide (HA3.out.below hb4)
  have HG4 := hide (block_stay HG3.out hb4)
  clear hN2 hb4 HB3 HA3 HG3
  have HZ : Hid (Below w4.heap.size w4 (w4.alloc (.cells zeroHd.toArray 37))) := (Below.refl _ _).alloc (Nat.le_refl _) _
  have HB5 : Hid (Below w.heap.size w (w4.alloc (.cells zeroHd.toArray 37))) := HB4.out.alloc HB4.out.size _
  have HA5 := hide (HA4.out.below HZ.out)
  have HG5 := hide (block_stay HG4.out HZ.out)
  simp only [zeroHd, hdCells, noPh] at HZ HB5 HA5 HG5 ⊢
  go_wp2_with (refine load_row rfl _ _ rfl w2.heap.size _ (load_hd HG5.out rfl) rfl ?_)
  generalize w4.alloc _ = w5 at *
  have hO := head_Off w5 62 _ smD noPh [smP] HA5.out sm_ok 192 16 (by omega) (by omega)
  rw [sm_off] at hO
  refine hO.mono ?_
  rintro e w6 ⟨rfl, hb6⟩
  have HB6 : Hid (Below w.heap.size w w6) := HB5.out.trans (hb6.mono HB5.out.size)
  have hA6 := HA5.out.below hb6
  have HG6 := hide (block_stay HG5.out hb6)
  have hSp := head_Span w6 62 _ smD noPh [smP] hA6 sm_ok
  rw [sm_span] at hSp
  have z0 := cells_of_block HG6.out 0 _ rfl
  have z1 := cells_of_block HG6.out 1 _ rfl
  have z2 := cells_of_block HG6.out 2 _ rfl
  have z3 := cells_of_block HG6.out 3 _ rfl
  have z4 := cells_of_block HG6.out 4 _ rfl
  have z5 := cells_of_block HG6.out 5 _ rfl
  have z6 := cells_of_block HG6.out 6 _ rfl
  have z7 := cells_of_block HG6.out 7 _ rfl
  have z8 := cells_of_block HG6.out 8 _ rfl
  have z9 := cells_of_block HG6.out 9 _ rfl
  have z10 := cells_of_block HG6.out 10 _ rfl
  have z11 := cells_of_block HG6.out 11 _ rfl
  have z12 := cells_of_block HG6.out 12 _ rfl
  have z13 := cells_of_block HG6.out 13 _ rfl
  have z14 := cells_of_block HG6.out 14 _ rfl
  have z15 := cells_of_block HG6.out 15 _ rfl
  clear hO hb6 HB5 HA5 HG5 HB4 HA4 HG4 HZ hA6
  simp only [offV]
  go_wp2_with fail
  refine hSp.mono ?_
  rintro e w7 ⟨rfl, hb7⟩
  have HB7 : Hid (Below w.heap.size w w7) := HB6.out.trans (hb7.mono HB6.out.size)
  clear hSp hb7 z0 z1 z2 z3 z4 z5 z6 z7 z8 z9 z10 z11 z12 z13 z14 z15
  go_wp2
  go_ret
  exact ⟨rfl, HB7.out⟩
end Go.Proofs.Ytgpjfcnlhlkblaa
