
/-
  slices.Sort of texts that the call has made.
-/
import Derived.Test.YthkpcafbfgfjpaaDoorFsO
import Derived.Test.YthkpcafbfgfjpaaDoorShelfS
import Derived.Sort.OwnSorted
import Derived.Lib.SmallJoins
set_option linter.unusedVariables false
namespace Go.Proofs.YthkpcafbfgfjpaaDoor
open Go.RowKit Go.PlainAid Go.Sort
def sorted (l : List (List UInt8)) : List (List UInt8) := l.mergeSort fun x y => decide (x ≤ y)
theorem map_enc (l : List (List UInt8)) : (l.map tx).map Value.string = l.map encStr := by rw [List.map_map]; rfl
theorem sort_own (w : World) (B : Nat) (v : Value) (l : List (List UInt8)) (h : OwnS w B v (l.map tx)) (hl : l.length ≤ 1000000) :
    Calls Tryd.prog 29 #[v] w fun e w' => e = .returned (.tuple #[]) ∧ OwnS w' B v ((sorted l).map tx) ∧ w.grownBy w' v.ownBlock := by
  unfold OwnS at h
  rw [map_enc, List.length_map] at h
  rcases h.2 with ⟨rfl, hn⟩ | ⟨g, cap, cur, rfl, hb, hg, hn, hm, hc, ht⟩
  · have e0 : l = [] := List.length_eq_zero_iff.1 hn
    subst e0
    refine (Tryd.slices_Sort_string_none none 0 w).mono ?_
    rintro e w' ⟨rfl, rfl⟩
    exact ⟨rfl, by have e1 : sorted [] = [] := by simp [sorted]
                   rw [e1]; exact OwnS.nil _ _, ⟨rfl, rfl, rfl, Nat.le_refl _, fun _ _ _ => rfl⟩⟩
  · have hl : l.length < 4611686018427387904 := by omega
    refine (Tryd.slices_Sort_string g 0 cap l w (holds_of_block hg (by simpa using ht)) (Array.getElem?_eq_some_iff.1 hg).1 hl).mono ?_
    rintro e w' ⟨rfl, n, os, rfl⟩
    have hs : (sorted l).length = l.length := by unfold sorted; simp
    refine ⟨rfl, ?_, grownBy_sorted _⟩
    unfold OwnS
    rw [map_enc, List.length_map, hs]
    exact ownsRow_sorted hs hb hg hn hm hc
end Go.Proofs.YthkpcafbfgfjpaaDoor
