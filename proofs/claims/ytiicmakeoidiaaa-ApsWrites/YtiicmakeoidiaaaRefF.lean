
/-
  The reference of layer 3: groups keeps its contract (the next number's groups).
-/
import Derived.Test.YtiicmakeoidiaaaRefE
set_option linter.unusedVariables false
namespace Go.Proofs.Ytiicmakeoidiaaa
open Go.RowKit Go.PlainAid
/-- v is a slice of bytes that reads as l. -/
def Rs (w : World) (v : Value) (l : List UInt8) : Prop :=
  ∃ a cap, v = .slice a l.length cap ∧ l.length ≤ cap ∧ cap ≤ maxLen ∧
    (l = [] ∨ ∃ g o, a = some ⟨g, o, none⟩ ∧ g < w.heap.size ∧ ∀ j, j < l.length → w.cell? ⟨g, o + j, none⟩ = some (.int .u8 ((l.getD j 0).toNat : Int)))
theorem Rs.stay {w w' : World} {v : Value} {l : List UInt8} (h : Rs w v l) (hb : Below w.heap.size w w') : Rs w' v l := by
  obtain ⟨a, cap, h1, h2, h3, h4⟩ := h
  refine ⟨a, cap, h1, h2, h3, ?_⟩
  rcases h4 with h4 | ⟨g, o, h4, h5, h6⟩
  · exact .inl h4
  · refine .inr ⟨g, o, h4, Nat.lt_of_lt_of_le h5 hb.size, fun j hj => ?_⟩
    rw [hb.cell (p := ⟨g, o + j, none⟩) h5]; exact h6 j hj
def IsSl (v : Value) : Prop := ∃ a n cap, v = .slice a n cap
def low7 (c : UInt8) : UInt8 := b8 (c.toNat % 128)
theorem low7_nat (c : UInt8) : ((low7 c).toNat : Int) = (c.toNat : Int) % 128 := by
  unfold low7; rw [ofNat_toNat (by omega)]; omega
structure GS (w wr : World) (g o cap : Nat) (l : List UInt8) (k : Nat) : Prop where
  c0 : ∃ a, wr.cell? ⟨w.heap.size, 0, none⟩ = some (.slice a (l.length - k) (cap - k)) ∧ (k < l.length → a = some ⟨g, o + k, none⟩)
  c1 : wr.cell? ⟨w.heap.size, 1, none⟩ = some (.int .i64 0)
  d0 : wr.cell? ⟨w.heap.size + 1, 0, none⟩ = some (.slice none 0 0)
  d1 : wr.cell? ⟨w.heap.size + 1, 1, none⟩ = some (.int .i64 0)
  e0 : wr.frozen? ⟨w.heap.size, 0, none⟩ = false
  e1 : wr.frozen? ⟨w.heap.size, 1, none⟩ = false
  f0 : wr.frozen? ⟨w.heap.size + 1, 0, none⟩ = false
  f1 : wr.frozen? ⟨w.heap.size + 1, 1, none⟩ = false
  b : Below w.heap.size w wr
  s : w.heap.size + 2 ≤ wr.heap.size
/-- Behind the step: the slice is cut, a byte is laid behind the groups. -/
theorem GS.step {w wr w' : World} {g o cap : Nat} {l : List UInt8} {k : Nat} (h : GS w wr g o cap l k) (a : Option Addr) (ha : k + 1 < l.length → a = some ⟨g, o + (k + 1), none⟩)
    (hb : Below (w.heap.size + 2) (wr.setCell ⟨w.heap.size, 0, none⟩ (.slice a (l.length - (k + 1)) (cap - (k + 1)))) w') : GS w w' g o cap l (k + 1) := by
  obtain ⟨⟨a0, c0, _⟩, c1, d0, d1, e0, e1, f0, f1, b, s⟩ := h
  have hc : ∀ i j, i < 2 → w'.cell? ⟨w.heap.size + i, j, none⟩ = (wr.setCell ⟨w.heap.size, 0, none⟩ (.slice a (l.length - (k + 1)) (cap - (k + 1)))).cell? ⟨w.heap.size + i, j, none⟩ := fun i j hi => hb.cell (p := ⟨w.heap.size + i, j, none⟩) (by show w.heap.size + i < _; omega)
  have hf : ∀ i j, i < 2 → w'.frozen? ⟨w.heap.size + i, j, none⟩ = (wr.setCell ⟨w.heap.size, 0, none⟩ (.slice a (l.length - (k + 1)) (cap - (k + 1)))).frozen? ⟨w.heap.size + i, j, none⟩ := fun i j hi => hb.frozen (p := ⟨w.heap.size + i, j, none⟩) (by show w.heap.size + i < _; omega)
  refine ⟨⟨a, ?_, ha⟩, ?_, ?_, ?_, ?_, ?_, ?_, ?_, ?_, ?_⟩
  · have := hc 0 0 (by omega); rw [Nat.add_zero] at this; rw [this, World.cell?_setCell_same _ _ _ c0]
  · have := hc 0 1 (by omega); rw [Nat.add_zero] at this; rw [this, World.cell?_setCell_other _ _ _ _ (by simp)]; exact c1
  · rw [hc 1 0 (by omega), World.cell?_setCell_other _ _ _ _ (by simp)]; exact d0
  · rw [hc 1 1 (by omega), World.cell?_setCell_other _ _ _ _ (by simp)]; exact d1
  · have := hf 0 0 (by omega); rw [Nat.add_zero] at this; rw [this, World.frozen?_setCell]; exact e0
  · have := hf 0 1 (by omega); rw [Nat.add_zero] at this; rw [this, World.frozen?_setCell]; exact e1
  · rw [hf 1 0 (by omega), World.frozen?_setCell]; exact f0
  · rw [hf 1 1 (by omega), World.frozen?_setCell]; exact f1
  · exact (b.setCell (Nat.le_refl _) _).trans (hb.mono (by omega))
  · have := hb.size; simp at this; omega
theorem Own.off {w : World} {B : Nat} {v : Value} {l : List UInt8} (h : Own w B v l) (R o : Nat) (u : Value) (hR : R < B) : Own (w.setCell ⟨R, o, none⟩ u) B v l := by
  unfold Own at h ⊢
  refine World.ownsRow.kept h (gb_setCell (gb_refl w (some R)) o u) ?_
  cases hv : v.ownBlock with
  | none => exact .inl rfl
  | some k => right; intro e; injection e with e; have := (World.ownsRow.lt h k hv).1; omega
theorem map_low_snoc (l : List UInt8) (k : Nat) (c : UInt8) (h : k < l.length) (hc : l.getD k 0 = c) : (l.take (k + 1)).map low7 = (l.take k).map low7 ++ [low7 c] := by
  rw [List.take_add_one, List.map_append]
  congr 1
  rw [← hc]
  simp [List.getD, List.getElem?_eq_getElem h]
theorem hiN_step (l : List UInt8) (k : Nat) (h : k ≤ hiN 10 l) (hk : k < 10) (hl : k < l.length) (hc : 128 ≤ (l.getD k 0).toNat) : k + 1 ≤ hiN 10 l := by
  rcases Nat.lt_or_ge k (hiN 10 l) with h1 | h1
  · exact h1
  · have e : hiN 10 l = k := by omega
    have := hiN_low 10 l (by omega) (by omega)
    rw [e] at this; omega
theorem hiN_stop (l : List UInt8) (k : Nat) (h : k ≤ hiN 10 l) (hc : (l.getD k 0).toNat < 128) : hiN 10 l = k := by
  rcases Nat.lt_or_ge k (hiN 10 l) with h1 | h1
  · have := hiN_high 10 l k h1; omega
  · omega
/-- Wherever v reads as l, u reads as l without so many bytes. -/
def Cut (v u : Value) (l : List UInt8) (n : Nat) : Prop := IsSl u ∧ ∀ wx, Rs wx v l → Rs wx u (l.drop n)
theorem cut_mk (a a2 : Option Addr) (g o cap : Nat) (l : List UInt8) (n : Nat) (h1 : 0 < l.length → a = some ⟨g, o, none⟩) (h2 : n < l.length → a2 = some ⟨g, o + n, none⟩) (hl : l.length ≤ cap) (hc : cap ≤ maxLen) :
    Cut (.slice a l.length cap) (.slice a2 (l.length - n) (cap - n)) l n := by
  refine ⟨⟨_, _, _, rfl⟩, ?_⟩
  rintro wx ⟨a', cap', e, k1, k2, k3⟩
  injection e with e1 e2 e3
  subst e1 e3
  refine ⟨a2, cap - n, by rw [List.length_drop], by rw [List.length_drop]; omega, by omega, ?_⟩
  by_cases hx : n < l.length
  · rcases k3 with rfl | ⟨g', o', e', k4, k5⟩
    · simp at hx
    · rw [h1 (by omega)] at e'
      injection e' with e'
      injection e' with e1 e2
      subst e1 e2
      refine .inr ⟨g, o + n, h2 hx, k4, fun j hj => ?_⟩
      rw [List.length_drop] at hj
      rw [show o + n + j = o + (n + j) by omega, k5 (n + j) (by omega)]
      simp [List.getD]
  · exact .inl (List.drop_of_length_le (by omega))
/-- What the reference's groups answers. -/
def Grp (w w' : World) (sl0 : Value) (l : List UInt8) (v : Value) : Prop :=
  (whole l ∧ ∃ sl gv, v = .tuple #[.agg #[sl, .int .i64 0], gv] ∧ Cut sl0 sl l (hiN 10 l + 1) ∧ Own w' w.heap.size gv ((l.take (hiN 10 l + 1)).map low7)) ∨
  (¬ whole l ∧ ∃ sl, v = .tuple #[.agg #[sl, .int .i64 (noErr l)], .slice none 0 0] ∧ IsSl sl)
end Go.Proofs.Ytiicmakeoidiaaa
