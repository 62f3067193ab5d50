
/-
  step keeps its contract.
-/
import Derived.Test.YthkpcafbfgfjpaaDoorFsI
import Derived.Deep.QuietTactic
set_option linter.unusedVariables false
namespace Go.Proofs.YthkpcafbfgfjpaaDoor
open Go.RowKit Go.PlainAid
/-- The first name goes. -/
theorem SrcS.tail {w : World} {F : Nat → Prop} {v : Value} {n : List UInt8} {r : List (List UInt8)} (h : SrcS w F v (n :: r)) : ∃ g o cap, v = .slice (some ⟨g, o, none⟩) (r.length + 1) cap ∧ r.length + 1 ≤ cap ∧ cap ≤ maxLen ∧ w.cell? ⟨g, o, none⟩ = some (.string (tx n)) ∧
    ∃ A : Addr, (if cap = 1 then some (⟨g, o, none⟩ : Addr) else some ⟨g, o + 1, none⟩) = some A ∧ SrcS w F (.slice (some A) r.length (cap - 1)) r := by
  obtain ⟨a, cap, rfl, h1, h2, h3⟩ := h
  rcases h3 with h3 | ⟨g, o, rfl, hg, hc⟩
  · cases h3
  · refine ⟨g, o, cap, rfl, h1, h2, hc 0 (by simp), ?_⟩
    rw [List.length_cons] at h1
    by_cases e : cap = 1
    · have hr : r = [] := List.eq_nil_of_length_eq_zero (by omega)
      subst hr
      exact ⟨⟨g, o, none⟩, by rw [if_pos e], some ⟨g, o, none⟩, cap - 1, rfl, by simp, by omega, .inl rfl⟩
    · refine ⟨⟨g, o + 1, none⟩, by rw [if_neg e], some ⟨g, o + 1, none⟩, cap - 1, rfl, by omega, by omega, .inr ⟨g, o + 1, rfl, hg, fun j hj => ?_⟩⟩
      have := hc (j + 1) (by simp; omega)
      rw [show o + 1 + j = o + (j + 1) by omega]
      exact this
theorem pathAt_of {l : List Nd} {k : Nat} (h : k < l.length) : pathAt l k = l[k].path.data.toList := by unfold pathAt; rw [List.getElem?_eq_getElem h]; rfl
theorem toAt_of {l : List Nd} {k : Nat} (h : k < l.length) : toAt l k = l[k].to.data.toList := by unfold toAt; rw [List.getElem?_eq_getElem h]; rfl
theorem FsAt.turn {w w' : World} {B F M : Nat} {v : Value} {l : List Nd} {X : Nat} (h : FsAt w B F M v l) (ht : Turn (· = X) w w') (hX : X ≠ F ∧ X ≠ M ∧ v.ownBlock ≠ some X) (hd : ∀ n ∈ l, Src w (fun k => (k < B ∨ k = F ∨ k = M ∨ v.ownBlock = some k) ∨ k = X) n.vd n.data) : FsAt w' B F M v l :=
  ⟨by rw [ht.block F (Array.getElem?_eq_some_iff.1 h.head).1 (fun e => hX.1 e.symm)]; exact h.head, own_turn h.row ht (fun g hg e => hX.2.2 (by rw [hg, e])), h.map.turn ht (fun e => hX.2.1 e.symm), h.hF, h.hM, h.ne, h.hv, h.pos, h.small, fun n hn => ((hd n hn).turn (ht.mono (fun k _ e => .inr e))).sub (fun k e => .inl e), h.knd⟩
end Go.Proofs.YthkpcafbfgfjpaaDoor
