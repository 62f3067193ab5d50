
/-
  The reference of layer 3: bits keeps its contract (groups as 64 bits).
-/
import Derived.Test.YtiicmakeoidiaaaRefC
import Derived.Maps.AppendAt
set_option linter.unusedVariables false
namespace Go.Proofs.Ytiicmakeoidiaaa
open Go.RowKit Go.PlainAid
def OwnB (w : World) (B : Nat) (v : Value) (l : List Bool) : Prop := w.ownsRow B 4 1 v l.length (l.map Value.bool)
theorem Try.infoBool : (Try.prog.info? 4).map (fun i => (i.zero, i.size, i.bytes)) = some (some (.bool false), 1, 1) := by kernel_rfl
theorem OwnB.nil (w : World) (B : Nat) : OwnB w B (.slice none 0 0) [] := World.ownsRow_nil _ _ _ _
theorem OwnB.slice {w : World} {B : Nat} {v : Value} {l : List Bool} (h : OwnB w B v l) : ∃ a cap, v = .slice a l.length cap := by
  unfold OwnB at h
  rcases h.2 with ⟨rfl, hn⟩ | ⟨g, cap, cur, rfl, _⟩
  · exact ⟨none, 0, by rw [hn]⟩
  · exact ⟨_, cap, rfl⟩
theorem OwnB.len {w : World} {B : Nat} {v : Value} {l : List Bool} (h : OwnB w B v l) (n : Nat) (hn : l.length = n) : ∃ a cap, v = .slice a n cap := by
  obtain ⟨a, cap, e⟩ := h.slice
  exact ⟨a, cap, by rw [e, hn]⟩
theorem OwnB.cells {w : World} {B n cap : Nat} {a : Option Addr} {l : List Bool} (h : OwnB w B (.slice a n cap) l) (hne : 0 < l.length) :
    ∃ g, a = some ⟨g, 0, none⟩ ∧ B ≤ g ∧ g < w.heap.size ∧ l.length ≤ cap ∧ cap ≤ maxLen ∧ (∀ j, j < l.length → w.cell? ⟨g, j, none⟩ = some (.bool (l.getD j false))) := by
  have h0 := h
  unfold OwnB at h
  rcases h.2 with ⟨e, hn⟩ | ⟨g, cap', cur, e, hb, hg, hn, hm, hc, ht⟩
  · omega
  · injection e with e1 e2 e3
    subst e1 e3
    refine ⟨g, rfl, hb, (Array.getElem?_eq_some_iff.1 hg).1, hn, hm, ?_⟩
    intro j hj
    have := World.ownsRow.cells h (g := g) rfl j (.bool (l.getD j false)) (by rw [List.getElem?_map, List.getD, List.getElem?_eq_getElem hj]; rfl)
    have hadd : (⟨g, 0, none⟩ : Addr).add j = ⟨g, j, none⟩ := by unfold Addr.add; split <;> simp_all
    rwa [hadd] at this
end Go.Proofs.Ytiicmakeoidiaaa
