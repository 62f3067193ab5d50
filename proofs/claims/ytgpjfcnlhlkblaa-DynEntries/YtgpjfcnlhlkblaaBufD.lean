
/-
  The buffer with its own row left unsaid, and a byte of an owned row that is set.
-/
import Derived.Test.YtgpjfcnlhlkblaaRowB
set_option linter.unusedVariables false
namespace Go.Proofs.Ytgpjfcnlhlkblaa
open Go.RowKit Go.PlainAid
/-- A buffer that holds these bytes. -/
def Bg (w : World) (B R : Nat) (l : List UInt8) : Prop := ∃ o, Bf w B R o l
theorem Bg.below {w w' : World} {B R : Nat} {l : List UInt8} (h : Bg w B R l) (hb : Below w.heap.size w w') : Bg w' B R l := by
  obtain ⟨o, h⟩ := h; exact ⟨o, h.below hb⟩
theorem Bf.step {w w' : World} {B R : Nat} {o o' : Option Nat} {l l' : List UInt8} (h : Bf w B R o l) (hB : B ≤ w.heap.size) (h' : Bf w' B R o' l') (hg : Gr w w' R o) : Bg w' B R l' ∧ Below B w w' :=
  ⟨⟨o', h'⟩, hg.below h.base (fun k hk => (h.own_ge k hk).1) hB⟩
/-- How many bytes 0 To lays down. -/
def ToIs (n : Nat) (u : Int) (z : Nat) : Prop := (isPow u ∧ u ≤ 262144 ∧ z = toN n u.toNat ∧ (z : Int) < u) ∨ (¬ (isPow u ∧ u ≤ 262144) ∧ z = 0)
theorem toIs (n : Nat) (u : Int) : ∃ z, ToIs n u z := by
  by_cases h : isPow u ∧ u ≤ 262144
  · have hp := isPow_pos h.1
    have := toN_lt n u.toNat (by omega)
    exact ⟨_, .inl ⟨h.1, h.2, rfl, by unfold toN; omega⟩⟩
  · exact ⟨0, .inr ⟨h, rfl⟩⟩
theorem Own.set {w : World} {B g cap : Nat} {l : List UInt8} {n : Nat} (h : Own w B (.slice (some ⟨g, 0, none⟩) n cap) l) (j : Nat) (c : UInt8) (z : Int) (hz : z = (c.toNat : Int)) :
    Own (w.setCell ⟨g, j, none⟩ (.int .u8 z)) B (.slice (some ⟨g, 0, none⟩) n cap) (l.set j c) := by
  subst hz
  unfold Own at h ⊢
  rw [List.length_set]
  refine ⟨by have := h.1; simp [bv] at this ⊢, ?_⟩
  rcases h.2 with ⟨hn, _⟩ | ⟨g', cap', cur, hv, hb, hg, hn, hm, hc, ht⟩
  · cases hn
  · simp only [Value.slice.injEq, Option.some.injEq, Addr.mk.injEq] at hv
    obtain ⟨⟨rfl, _⟩, rfl, rfl⟩ := hv
    refine .inr ⟨g, cap, cur.setIfInBounds j (.int .u8 (c.toNat : Int)), rfl, hb, ?_, hn, hm, by simpa using hc, ?_⟩
    · simp [World.setCell, Array.getElem?_modify, hg]
    · rw [Array.toList_setIfInBounds, List.take_set, ht]
      unfold bv
      rw [List.map_set]
end Go.Proofs.Ytgpjfcnlhlkblaa
