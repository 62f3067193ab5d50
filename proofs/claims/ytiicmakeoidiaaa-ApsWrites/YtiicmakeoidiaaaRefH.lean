
/-
  The reference of layer 3: U, S and Left keep their contracts.
-/
import Derived.Test.YtiicmakeoidiaaaRefG
import Derived.Deep.RegionHeldLaw
set_option linter.unusedVariables false
namespace Go.Proofs.Ytiicmakeoidiaaa
open Go.RowKit Go.PlainAid
/-- The two blocks that U and S make: the reader's copy, the answer's place. -/
structure Bx (w wr : World) (x0 x1 : Value) : Prop where
  c0 : wr.cell? ⟨w.heap.size, 0, none⟩ = some x0
  c1 : wr.cell? ⟨w.heap.size, 1, none⟩ = some x1
  d0 : wr.cell? ⟨w.heap.size + 1, 0, none⟩ = some (.slice none 0 0)
  d1 : wr.cell? ⟨w.heap.size + 1, 1, none⟩ = some (.int .i64 0)
  e0 : wr.frozen? ⟨w.heap.size, 0, none⟩ = false
  e1 : wr.frozen? ⟨w.heap.size, 1, none⟩ = false
  f0 : wr.frozen? ⟨w.heap.size + 1, 0, none⟩ = false
  f1 : wr.frozen? ⟨w.heap.size + 1, 1, none⟩ = false
  b : Below w.heap.size w wr
  s : w.heap.size + 2 ≤ wr.heap.size
theorem Bx.stay {w w1 w2 : World} {x0 x1 : Value} (h : Bx w w1 x0 x1) (hb : Below w1.heap.size w1 w2) : Bx w w2 x0 x1 := by
  obtain ⟨c0, c1, d0, d1, e0, e1, f0, f1, b, s⟩ := h
  have hc : ∀ i j, i < 2 → w2.cell? ⟨w.heap.size + i, j, none⟩ = w1.cell? ⟨w.heap.size + i, j, none⟩ := fun i j hi => hb.cell (p := ⟨w.heap.size + i, j, none⟩) (by show w.heap.size + i < _; omega)
  have hf : ∀ i j, i < 2 → w2.frozen? ⟨w.heap.size + i, j, none⟩ = w1.frozen? ⟨w.heap.size + i, j, none⟩ := fun i j hi => hb.frozen (p := ⟨w.heap.size + i, j, none⟩) (by show w.heap.size + i < _; omega)
  exact ⟨(hc 0 0 (by omega)).trans c0, (hc 0 1 (by omega)).trans c1, (hc 1 0 (by omega)).trans d0, (hc 1 1 (by omega)).trans d1, (hf 0 0 (by omega)).trans e0, (hf 0 1 (by omega)).trans e1, (hf 1 0 (by omega)).trans f0, (hf 1 1 (by omega)).trans f1, b.trans (hb.mono b.size), Nat.le_trans s hb.size⟩
theorem Bx.put {w w1 : World} {x0 x1 : Value} (h : Bx w w1 x0 x1) (y0 y1 : Value) : Bx w ((w1.setCell ⟨w.heap.size, 0, none⟩ y0).setCell ⟨w.heap.size, 1, none⟩ y1) y0 y1 := by
  obtain ⟨c0, c1, d0, d1, e0, e1, f0, f1, b, s⟩ := h
  have k1 : (w1.setCell ⟨w.heap.size, 0, none⟩ y0).cell? ⟨w.heap.size, 1, none⟩ = some x1 := by rw [World.cell?_setCell_other _ _ _ _ (by simp)]; exact c1
  refine ⟨?_, World.cell?_setCell_same _ _ _ k1, ?_, ?_, ?_, ?_, ?_, ?_, (b.setCell (Nat.le_refl _) _).setCell (Nat.le_refl _) _, by simp; exact s⟩
  · rw [World.cell?_setCell_other _ _ _ _ (by simp)]; exact World.cell?_setCell_same _ _ _ c0
  · rw [World.cell?_setCell_other _ _ _ _ (by simp), World.cell?_setCell_other _ _ _ _ (by simp)]; exact d0
  · rw [World.cell?_setCell_other _ _ _ _ (by simp), World.cell?_setCell_other _ _ _ _ (by simp)]; exact d1
  · rw [World.frozen?_setCell, World.frozen?_setCell]; exact e0
  · rw [World.frozen?_setCell, World.frozen?_setCell]; exact e1
  · rw [World.frozen?_setCell, World.frozen?_setCell]; exact f0
  · rw [World.frozen?_setCell, World.frozen?_setCell]; exact f1
theorem Bx.err {w w1 : World} {x0 x1 : Value} (h : Bx w w1 x0 x1) (y1 : Value) : Bx w (w1.setCell ⟨w.heap.size, 1, none⟩ y1) x0 y1 := by
  obtain ⟨c0, c1, d0, d1, e0, e1, f0, f1, b, s⟩ := h
  refine ⟨?_, World.cell?_setCell_same _ _ _ c1, ?_, ?_, ?_, ?_, ?_, ?_, b.setCell (Nat.le_refl _) _, by simp; exact s⟩
  · rw [World.cell?_setCell_other _ _ _ _ (by simp)]; exact c0
  · rw [World.cell?_setCell_other _ _ _ _ (by simp)]; exact d0
  · rw [World.cell?_setCell_other _ _ _ _ (by simp)]; exact d1
  · rw [World.frozen?_setCell]; exact e0
  · rw [World.frozen?_setCell]; exact e1
  · rw [World.frozen?_setCell]; exact f0
  · rw [World.frozen?_setCell]; exact f1
end Go.Proofs.Ytiicmakeoidiaaa
