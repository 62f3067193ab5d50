
/-
  Layer 9: Strings, and the reference's.
-/
import Derived.Test.YtibfiikjelmhmaaDoorDyH
set_option linter.unusedVariables false
namespace Go.Proofs.YtibfiikjelmhmaaDoor
open Go.RowKit Go.PlainAid Go.Sort
set_option maxHeartbeats 2000000 in
set_option maxRecDepth 20000 in
theorem ref9_Strings (w : World) (b : Value) (l : List UInt8) (hb : Arg w b l) (m : Nat) (v : Value) (d r : Ph) (ps : List Ph) (h : ArgH w v ps) (ok : ∀ p ∈ ps, p.ok) (sm : ∀ p ∈ ps, p.off + p.filesz ≤ 1000000)
    (cs : Array Value) (hz : cs.size = 40) (x s : Nat) (h7 : cs[7]? = some (.int .u64 x)) (h8 : cs[8]? = some (.int .u64 s)) (hx : x < 18446744073709551616) (hs : s < 18446744073709551616) :
    Calls Tryd.prog 11 #[b, .agg (hdCells m v d r).toArray, .agg cs] w fun e w' => (∃ v', e = .returned (.tuple #[v', .bool (partZ l ps x s).2]) ∧ Own w' w.heap.size v' (partZ l ps x s).1) ∧ Below w.heap.size w w' := by
  have HB : Hid (Below w.heap.size w ((w.alloc (.cells (hdCells m v d r).toArray 30)).alloc (.cells cs 38))) := ((Below.refl _ w).alloc (Nat.le_refl _) _).alloc (by simp) _
  have HG : Hid (((w.alloc (.cells (hdCells m v d r).toArray 30)).alloc (.cells cs 38)).heap[w.heap.size]? = some (.cells (hdCells m v d r).toArray 30 (0, 0))) := by
    rw [Hid, heap_alloc_old _ _ (by simp)]; exact heap_alloc_new _ _
  have hs1 : (w.alloc (.cells (hdCells m v d r).toArray 30)).heap.size = w.heap.size + 1 := by simp
  have HD : Hid (((w.alloc (.cells (hdCells m v d r).toArray 30)).alloc (.cells cs 38)).heap[w.heap.size + 1]? = some (.cells cs 38 (0, 0))) := by
    rw [Hid, ← hs1]; exact heap_alloc_new _ _
  have z7 := cells_of_block HD.out 7 _ h7
  have z8 := cells_of_block HD.out 8 _ h8
  have HP := hide (fun W (hB : Below w.heap.size w W) => ref8_Part W b l (hb.below' hB) m v d r ps (h.below hB) ok sm x s hx hs)
  have hP := HP.out _ HB.out
  have HOW := hide (fun (W W' : World) (v' : Value) (hB : Below w.heap.size w W) (ho : Own W' W.heap.size v' (partZ l ps x s).1) => ho.low hB.size)
  generalize partZ l ps x s = P at *
  obtain ⟨a, cap, rfl, _⟩ := hb.isSlice
  clear hb h ok sm HP h7 h8 hs1
  simp only [hdCells] at *
  go_enter Tryd.func11, Tryd.ntmps11
  go_wp2_with ((with_reducible refine at_load ?_); refine load_row rfl _ _ rfl w.heap.size _ (load_hd HG.out rfl) rfl ?_)
  refine hP.mono ?_
  rintro e w1 ⟨⟨v1, rfl, own1⟩, hb1⟩
  have HB1 : Hid (Below w.heap.size w w1) := HB.out.trans (hb1.mono HB.out.size)
  have HO1 := hide (HOW.out _ _ _ HB.out own1)
  clear hP hb1 own1 z7 z8
  go_wp2
  go_ret2
  exact ⟨⟨_, rfl, HO1.out⟩, HB1.out⟩
set_option maxHeartbeats 2000000 in
set_option maxRecDepth 20000 in
theorem dyn_Strings (w : World) (b : Value) (l : List UInt8) (hb : Arg w b l) (m : Nat) (v : Value) (d r : Ph) (ps : List Ph) (h : ArgH w v ps) (ok : ∀ p ∈ ps, p.ok) (sm : ∀ p ∈ ps, p.off + p.filesz ≤ 1000000)
    (cs : Array Value) (hz : cs.size = 40) (x s : Nat) (h7 : cs[7]? = some (.int .u64 x)) (h8 : cs[8]? = some (.int .u64 s)) (hx : x < 18446744073709551616) (hs : s < 18446744073709551616) :
    Calls Tryd.prog 10 #[b, .agg (hdCells m v d r).toArray, .agg cs] w fun e w' => (∃ v', e = .returned (.tuple #[v', .bool (partZ l ps x s).2]) ∧ Own w' w.heap.size v' (partZ l ps x s).1) ∧ Below w.heap.size w w' := by
  have HB : Hid (Below w.heap.size w ((w.alloc (.cells (hdCells m v d r).toArray 30)).alloc (.cells cs 38))) := ((Below.refl _ w).alloc (Nat.le_refl _) _).alloc (by simp) _
  have HG : Hid (((w.alloc (.cells (hdCells m v d r).toArray 30)).alloc (.cells cs 38)).heap[w.heap.size]? = some (.cells (hdCells m v d r).toArray 30 (0, 0))) := by
    rw [Hid, heap_alloc_old _ _ (by simp)]; exact heap_alloc_new _ _
  have hs1 : (w.alloc (.cells (hdCells m v d r).toArray 30)).heap.size = w.heap.size + 1 := by simp
  have HD : Hid (((w.alloc (.cells (hdCells m v d r).toArray 30)).alloc (.cells cs 38)).heap[w.heap.size + 1]? = some (.cells cs 38 (0, 0))) := by
    rw [Hid, ← hs1]; exact heap_alloc_new _ _
  have z7 := cells_of_block HD.out 7 _ h7
  have z8 := cells_of_block HD.out 8 _ h8
  have HP := hide (fun W (hB : Below w.heap.size w W) => head_Part W b l (hb.below' hB) m v d r ps (h.below hB) ok  x s hx hs)
  have hP := HP.out _ HB.out
  have HOW := hide (fun (W W' : World) (v' : Value) (hB : Below w.heap.size w W) (ho : Own W' W.heap.size v' (partZ l ps x s).1) => ho.low hB.size)
  generalize partZ l ps x s = P at *
  obtain ⟨a, cap, rfl, _⟩ := hb.isSlice
  clear hb h ok sm HP h7 h8 hs1
  simp only [hdCells] at *
  go_enter Tryd.func10, Tryd.ntmps10
  go_wp2_with ((with_reducible refine at_load ?_); refine load_row rfl _ _ rfl w.heap.size _ (load_hd HG.out rfl) rfl ?_)
  refine hP.mono ?_
  rintro e w1 ⟨⟨v1, rfl, own1⟩, hb1⟩
  have HB1 : Hid (Below w.heap.size w w1) := HB.out.trans (hb1.mono HB.out.size)
  have HO1 := hide (HOW.out _ _ _ HB.out own1)
  clear hP hb1 own1 z7 z8
  go_wp2
  go_ret2
  exact ⟨⟨_, rfl, HO1.out⟩, HB1.out⟩
end Go.Proofs.YtibfiikjelmhmaaDoor
