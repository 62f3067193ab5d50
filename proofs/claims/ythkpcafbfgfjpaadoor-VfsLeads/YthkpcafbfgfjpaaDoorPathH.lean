
/-
  Layer 4, the program's and the reference's: Under, Child, Archive, begins, Same keep their contracts.
-/
import Derived.Test.YthkpcafbfgfjpaaDoorPathG
set_option linter.unusedVariables false
namespace Go.Proofs.YthkpcafbfgfjpaaDoor
open Go.RowKit Go.PlainAid
def underOf (p d : List UInt8) : Bool := if d = [47] then Lib.hasPrefix p [47] else p == d || Lib.hasPrefix p (d ++ [47])
def childOf (p d : List UInt8) : Bool := p != [] && (p != [47] && upOf p == d)
theorem prefix_slash (p d : List UInt8) : (Lib.hasPrefix p d && (Lib.trimPrefix p d == [] || Lib.hasPrefix (Lib.trimPrefix p d) [47])) = (p == d || Lib.hasPrefix p (d ++ [47])) := by
  unfold Lib.trimPrefix
  cases h : Lib.hasPrefix p d with
  | false =>
    simp only [Bool.false_and]
    unfold Lib.hasPrefix at *
    have h1 : p ≠ d := by
      rintro rfl
      have := List.isPrefixOf_iff_prefix.2 (List.prefix_refl p)
      rw [h] at this; cases this
    have h2 : (d ++ [47]).isPrefixOf p = false := by
      rw [Bool.eq_false_iff]; intro hh
      rw [List.isPrefixOf_iff_prefix] at hh
      have : d <+: p := (List.prefix_append d [47]).trans hh
      rw [← List.isPrefixOf_iff_prefix] at this
      rw [h] at this; cases this
    simp [h1, h2]
  | true =>
    simp only [Bool.true_and, if_true]
    unfold Lib.hasPrefix at *
    obtain ⟨t, rfl⟩ := List.isPrefixOf_iff_prefix.1 h
    rw [List.drop_left]
    congr 1
    · rw [Bool.eq_iff_iff]; simp
    · rw [Bool.eq_iff_iff, List.isPrefixOf_iff_prefix, List.isPrefixOf_iff_prefix, List.prefix_append_right_inj]
theorem tl (s : ByteArray) : s.toList = s.data.toList := Lib.toList_data s
set_option maxHeartbeats 1000000 in
theorem path_Child (p d : ByteArray) (w : World) (hp : p.size ≤ 100000000) :
    Calls Tryd.prog 27 #[.string p, .string d] w fun e w' => e = .returned (.bool (childOf p.data.toList d.data.toList)) ∧ w' = w := by
  have hU := path_Up p w hp
  unfold childOf
  have h1 : (p.data.toList != []) = !(p.toList.isEmpty) := by rw [tl]; cases p.data.toList <;> rfl
  have h2 : (p.data.toList != [47]) = !(p.toList == [47]) := by rw [tl]; rfl
  have h3 : (upOf p.data.toList == d.data.toList) = ((tx (upOf p.data.toList)).toList == d.toList) := by rw [tx_list, tl]
  rw [h1, h2, h3]
  generalize tx (upOf p.data.toList) = T at *
  clear h1 h2 h3
  cases hA : p.toList.isEmpty
  · cases hB : (p.toList == [47])
    · go_enter Tryd.func27, Tryd.ntmps27
      go_wp2_with (go_at_call 19; refine hU.mono ?_; rintro e w0 ⟨rfl, hw0⟩; rw [hw0]; clear hw0)
      go_ret
      exact ⟨rfl, rfl⟩
    · go_enter Tryd.func27, Tryd.ntmps27
      go_wp2_with (go_at_call 19; refine hU.mono ?_; rintro e w0 ⟨rfl, hw0⟩; rw [hw0]; clear hw0)
      go_ret
      exact ⟨rfl, rfl⟩
  · go_enter Tryd.func27, Tryd.ntmps27
    go_wp2_with (go_at_call 19; refine hU.mono ?_; rintro e w0 ⟨rfl, hw0⟩; rw [hw0]; clear hw0)
    go_ret
    exact ⟨rfl, rfl⟩
end Go.Proofs.YthkpcafbfgfjpaaDoor
