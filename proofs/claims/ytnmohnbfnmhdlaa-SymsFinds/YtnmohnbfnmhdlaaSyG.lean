
/-
  Layer 10 (syms): the statements' own 'alive'.
-/
import Derived.Test.YtnmohnbfnmhdlaaSyB
import Derived.Test.YtnmohnbfnmhdlaaSyF
set_option linter.unusedVariables false
namespace Go.Proofs.Ytnmohnbfnmhdlaa
open Go.RowKit Go.PlainAid Go.Sort
def sa : Sy := ⟨[97], [86], true, 1, true, 0, 0⟩
def sb : Sy := ⟨[97], [], false, 2, true, 8, 4⟩
theorem near_ab : IsNear [sa, sb] 9 0 2 1 := by
  refine .inr ⟨1, by decide, rfl, by decide, by decide, by decide, ?_, ?_⟩
  · intro j hj _ h2 hb
    match j, hj, hb with
    | 0, _, hb => exact absurd (show hasS 9 sa = true from hb) (by decide)
    | 1, _, _ => exact Nat.le_refl _
  · intro j hj _ h2 hb
    match j, hj, hb with
    | 0, _, hb => exact absurd (show hasS 9 sa = true from hb) (by decide)
    | 1, _, _ => omega
theorem ok_ab : ∀ s ∈ [sa, sb], OkSy s := by
  intro s hs
  simp at hs
  rcases hs with rfl | rfl
  · exact ⟨by decide, by decide, by decide, by decide, by decide, by decide⟩
  · exact ⟨by decide, by decide, by decide, by decide, by decide, by decide⟩
theorem ab_at (w : World) : SymsAt (w.alloc (.cells (sa.cells ++ sb.cells).toArray 60)) (some ⟨w.heap.size, 0, none⟩) [sa, sb] := by
  refine ⟨ok_ab, .inr ⟨w.heap.size, 0, rfl, fun i hi => ?_⟩⟩
  have k := (MapKept.heap_alloc w (.cells (sa.cells ++ sb.cells).toArray 60)).1
  match i, hi with
  | 0, _ => constructor <;> (unfold World.cell?; rw [k]; rfl)
  | 1, _ => constructor <;> (unfold World.cell?; rw [k]; rfl)
set_option maxHeartbeats 4000000 in
set_option maxRecDepth 20000 in
theorem alive10 (w : World) : Calls Try.prog 13 #[] w fun e w' => e = .returned (.bool true) ∧ Below w.heap.size w w' := by
  go_enter Try.func13, Try.ntmps13
  go_wp2_with fail
  have HS : Hid (SymsAt (w.alloc (.cells #[.string ⟨#[97]⟩, .string ⟨#[86]⟩, .bool true, .int .i64 1, .bool true, .int .u64 0, .int .u64 0, .string ⟨#[97]⟩, .string ⟨#[]⟩, .bool false, .int .i64 2, .bool true, .int .u64 8, .int .u64 4] 60)) (some ⟨w.heap.size, 0, none⟩) [sa, sb]) := ab_at w
  have HB : Hid (Below w.heap.size w (w.alloc (.cells #[.string ⟨#[97]⟩, .string ⟨#[86]⟩, .bool true, .int .i64 1, .bool true, .int .u64 0, .int .u64 0, .string ⟨#[97]⟩, .string ⟨#[]⟩, .bool false, .int .i64 2, .bool true, .int .u64 8, .int .u64 4] 60))) := bel1 _ _
  generalize w.alloc _ = w1 at *
  have k1 := syms_Sysv [97, 98, 99] w1 (by decide)
  have k2 := gnu_u32 [97] w1 (by decide)
  have v1 : sysv [97, 98, 99] = 26499 := by kernel_rfl
  have v2 : gnu [97] = 177670 := by kernel_rfl
  rw [v1] at k1
  rw [v2] at k2
  clear v1 v2
  refine k1.mono ?_
  rintro e w' ⟨rfl, rfl⟩
  clear k1
  go_wp2_with fail
  refine k2.mono ?_
  rintro e w' ⟨rfl, rfl⟩
  clear k2
  have k3 := syms_Find w1 (some ⟨w.heap.size, 0, none⟩) 2 [sa, sb] HS.out (by decide) (by decide) true [97] [] (by decide) (by decide)
  have v3 : findS true [97] [] [sa, sb] = 1 := by kernel_rfl
  rw [v3] at k3
  clear v3
  go_wp2_with fail
  refine k3.mono ?_
  rintro e w2 ⟨rfl, hb2⟩
  have HB2 : Hid (Below w.heap.size w w2) := HB.out.trans (hb2.mono HB.out.size)
  have HS2 := hide (HS.out.below hb2)
  clear k3 hb2 HB HS
  have k4 := syms_Find w2 (some ⟨w.heap.size, 0, none⟩) 2 [sa, sb] HS2.out (by decide) (by decide) true [97] [86] (by decide) (by decide)
  have v4 : findS true [97] [86] [sa, sb] = 0 := by kernel_rfl
  rw [v4] at k4
  clear v4
  go_wp2_with fail
  refine k4.mono ?_
  rintro e w3 ⟨rfl, hb3⟩
  have HB3 : Hid (Below w.heap.size w w3) := HB2.out.trans (hb3.mono HB2.out.size)
  have HS3 := hide (HS2.out.below hb3)
  clear k4 hb3 HB2 HS2
  have k5 := syms_Near w3 (some ⟨w.heap.size, 0, none⟩) 2 [sa, sb] HS3.out (by decide) (by decide) 9 (by decide)
  go_wp2_with fail
  refine k5.mono ?_
  rintro e w4 ⟨n, rfl, HN, hb4⟩
  have hn : n = 1 := HN.out.one near_ab
  subst hn
  have HB4 : Hid (Below w.heap.size w w4) := HB3.out.trans (hb4.mono HB3.out.size)
  have HS4 := HS3.out.below hb4
  clear k5 hb4 HB3 HS3 HN
  obtain ⟨y, o, e, hs, _⟩ := HS4.at 0 (by decide)
  have e' : (⟨w.heap.size, 0, none⟩ : Addr) = ⟨y, o, none⟩ := Option.some.inj e
  cases e'
  obtain ⟨c0, c1, c2, c3, c4, c5, c6⟩ := hs.zero
  have k6 := syms_Exported sa w4
  have v6 : had sa = true := by decide
  rw [v6] at k6
  simp only [sa, List.getElem_cons_zero] at c0 c1 c2 c3 c4 c5 c6 k6
  clear v6 HS4 hs e
  go_wp2_with fail
  refine k6.mono ?_
  rintro e w5 ⟨rfl, hb5⟩
  have HB5 : Hid (Below w.heap.size w w5) := HB4.out.trans (hb5.mono HB4.out.size)
  go_wp2
  go_ret
  exact ⟨rfl, HB5.out⟩
end Go.Proofs.Ytnmohnbfnmhdlaa
