
/-
  The reference of layer 3: U keeps its contract.
-/
import Derived.Test.YtiicmakeoidiaaaRefH
set_option linter.unusedVariables false
namespace Go.Proofs.Ytiicmakeoidiaaa
open Go.RowKit Go.PlainAid
/-- The groups of the next number. -/
def grp (l : List UInt8) : List UInt8 := (l.take (hiN 10 l + 1)).map low7
theorem grp_len {l : List UInt8} (h : whole l) : (grp l).length = hiN 10 l + 1 := by
  unfold grp; rw [List.length_map, List.length_take]; have := h.2; omega
theorem grp_nine {l : List UInt8} (h : whole l) (h9 : hiN 10 l = 9) : (((grp l).getD 9 0).toNat : Int) = gl l 10 := by
  unfold grp
  have h2 := h.2
  rw [h9] at h2 ⊢
  have : ((l.take 10).map low7).getD 9 0 = low7 (l.getD 9 0) := by
    simp [List.getD, List.getElem?_eq_getElem (show 9 < l.length by omega)]
  rw [this, low7_nat]
  rfl
theorem Own.getD {w : World} {B : Nat} {v : Value} {l : List UInt8} (h : Own w B v l) (hne : l ≠ []) :
    ∃ g cap, v = .slice (some ⟨g, 0, none⟩) l.length cap ∧ B ≤ g ∧ g < w.heap.size ∧ l.length ≤ cap ∧ cap ≤ maxLen ∧ (∀ j, j < l.length → w.cell? ⟨g, j, none⟩ = some (.int .u8 ((l.getD j 0).toNat : Int))) := by
  obtain ⟨g, cap, h1, h2, h3, h4, h5, h6, _⟩ := h.form hne
  refine ⟨g, cap, h1, h2, h3, h4, h5, fun j hj => ?_⟩
  rw [h6 j hj, List.getD, List.getElem?_eq_getElem hj]; rfl
def UA (sl0 : Value) (l : List UInt8) (v : Value) : Prop :=
  (¬ whole l ∧ ∃ sl, v = .tuple #[.agg #[sl, .int .i64 (noErr l)], .int .u64 0] ∧ IsSl sl) ∨
  (whole l ∧ (hiN 10 l = 9 ∧ 1 < gl l 10) ∧ ∃ sl, v = .tuple #[.agg #[sl, .int .i64 30], .int .u64 0] ∧ IsSl sl) ∨
  (whole l ∧ ¬ (hiN 10 l = 9 ∧ 1 < gl l 10) ∧ ∃ sl, v = .tuple #[.agg #[sl, .int .i64 0], .int .u64 (nb (rbits (grp l) (hiN 10 l + 1) false))] ∧ Cut sl0 sl l (hiN 10 l + 1))
theorem noErr_ne (l : List UInt8) : (noErr l == 0) = false := by unfold noErr; split <;> rfl
theorem rbits_len (g : List UInt8) (n : Nat) (sign : Bool) (h : g.length = n) : (rbits g n sign).length = 64 := by
  unfold rbits
  rw [List.length_take, List.length_append, bitsOf_len, List.length_replicate, h]; omega
end Go.Proofs.Ytiicmakeoidiaaa
