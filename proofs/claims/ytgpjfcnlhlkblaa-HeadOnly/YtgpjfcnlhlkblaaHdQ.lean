
/-
  Layer 8's reference: numbers at places, and two headers that are the same.
-/
import Derived.Test.YtgpjfcnlhlkblaaHdP
set_option linter.unusedVariables false
namespace Go.Proofs.Ytgpjfcnlhlkblaa
open Go.RowKit Go.PlainAid Go.Sort
theorem ref8_N (w : World) (v : Value) (l : List UInt8) (h : Arg w v l) (p s : Nat) (hp : (p : Int) ≤ 18446744073709551615) (hs : s ≤ 8) (hs0 : 0 < s) :
    Calls Try.prog 25 #[v, .int .u64 p, .int .i64 s] w fun e w' => e = .returned (.int .u64 (rd l p s)) ∧ w = w' := by
  by_cases hi : p + s ≤ l.length
  · have hU := ref_Get_yes w v l h p s hs hs0 hi
    rw [rd_in hi]
    obtain ⟨a, cap, rfl, _⟩ := h.isSlice
    clear h hi
    go_enter Try.func25, Try.ntmps25
    go_wp2_with fail
    refine hU.mono ?_
    rintro e w1 ⟨rfl, rfl⟩
    go_wp2
    go_ret
    exact ⟨rfl, rfl⟩
  · have hU := ref_Get_no w v l h p s hp hs hi
    have e0 : rd l p s = 0 := if_neg hi
    rw [e0]
    obtain ⟨a, cap, rfl, _⟩ := h.isSlice
    clear h hi
    go_enter Try.func25, Try.ntmps25
    go_wp2_with fail
    refine hU.mono ?_
    rintro e w1 ⟨rfl, rfl⟩
    go_wp2
    go_ret
    exact ⟨rfl, rfl⟩
set_option maxHeartbeats 4000000 in
set_option maxRecDepth 20000 in
theorem ref8_Same (w : World) (m : Nat) (v1 v2 : Value) (d r : Ph) (ls : List Ph) (h1 : ArgH w v1 ls) (h2 : ArgH w v2 ls) :
    Calls Try.prog 14 #[.agg (hdCells m v1 d r).toArray, .agg (hdCells m v2 d r).toArray] w fun e w' => e = .returned (.bool true) ∧ Below w.heap.size w w' := by
  have HB : Hid (Below w.heap.size w ((w.alloc (.cells (hdCells m v1 d r).toArray 37)).alloc (.cells (hdCells m v2 d r).toArray 37))) := ((Below.refl _ w).alloc (Nat.le_refl _) _).alloc (by simp) _
  have HA1 := hide (h1.below HB.out)
  have HA2 := hide (h2.below HB.out)
  have hl := h1.1
  obtain ⟨a1, c1, rfl⟩ := h1.form
  obtain ⟨a2, c2, rfl⟩ := h2.form
  have HG1 : Hid (((w.alloc (.cells (hdCells m (.slice a1 ls.length c1) d r).toArray 37)).alloc (.cells (hdCells m (.slice a2 ls.length c2) d r).toArray 37)).heap[w.heap.size]? = some (.cells (hdCells m (.slice a1 ls.length c1) d r).toArray 37 (0, 0))) := by
    rw [Hid, heap_alloc_old _ _ (by simp), heap_alloc_new]
  have HG2 : Hid (((w.alloc (.cells (hdCells m (.slice a1 ls.length c1) d r).toArray 37)).alloc (.cells (hdCells m (.slice a2 ls.length c2) d r).toArray 37)).heap[w.heap.size + 1]? = some (.cells (hdCells m (.slice a2 ls.length c2) d r).toArray 37 (0, 0))) := by
    rw [Hid, show w.heap.size + 1 = (w.alloc (.cells (hdCells m (.slice a1 ls.length c1) d r).toArray 37)).heap.size by simp, heap_alloc_new]
  clear h1 h2
  have b0 : ((m : Int) != (m : Int)) = false := by simp
  have b1 : ((ls.length : Int) != (ls.length : Int)) = false := by simp
  unfold hdCells at *
  go_enter Try.func14, Try.ntmps14
  go_wp2
  generalize (w.alloc _).alloc _ = w0 at *
  go_loopw [5] (fun vi wr => (∃ k : Nat, wr = w0.drewN k) ∧ ∃ i : Nat, i ≤ ls.length ∧ vi = .int .i64 i) (fun vi _ => ls.length - (intOf vi).toNat)
  case atStart => exact ⟨⟨0, rfl⟩, 0, by omega, rfl⟩
  case round =>
    obtain ⟨⟨k, rfl⟩, i, hi, rfl⟩ := hrel
    have x1 := cells_of_block HG1.out 1 _ rfl
    have x2 := cells_of_block HG2.out 1 _ rfl
    by_cases hlt : i < ls.length
    · have hltI : (i : Int) < (ls.length : Int) := by omega
      obtain ⟨g1, rfl, p1, p2, _, y0, y1, y2, y3, y4, y5, y6⟩ := HA1.out.at i hlt
      obtain ⟨g2, rfl, p3, p4, _, z0, z1, z2, z3, z4, z5, z6⟩ := HA2.out.at i hlt
      generalize ls[i] = p at *
      obtain ⟨ty, fl, off, va, fs, ms, al⟩ := p
      simp only at y0 y1 y2 y3 y4 y5 y6 z0 z1 z2 z3 z4 z5 z6
      go_wp2_with fail
      go_quiet (fail)
      go_wp2
      go_roundw
      case rel => exact ⟨⟨_, rfl⟩, i + 1, by omega, by go_num⟩
      case measure => simp [intOf]; omega
    · have hltI : ¬ (i : Int) < (ls.length : Int) := by omega
      go_wp2
      go_ret
      exact ⟨rfl, ⟨HB.out.os, HB.out.tape, HB.out.output, HB.out.size, HB.out.block⟩⟩
end Go.Proofs.Ytgpjfcnlhlkblaa
