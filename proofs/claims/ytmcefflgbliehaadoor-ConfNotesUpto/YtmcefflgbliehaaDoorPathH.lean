
/-
  Layer 4, the program's and the reference's: Under, Child, Archive, begins, Same keep their contracts.
-/
import Derived.Test.YtmcefflgbliehaaDoorPathG
set_option linter.unusedVariables false
namespace Go.Proofs.YtmcefflgbliehaaDoor
open Go.RowKit Go.PlainAid
def underOf (p d : List UInt8) : Bool := if d = [47] then Lib.hasPrefix p [47] else p == d || Lib.hasPrefix p (d ++ [47])
def childOf (p d : List UInt8) : Bool := p != [] && (p != [47] && upOf p == d)
theorem prefix_slash (p d : List UInt8) : (Lib.hasPrefix p d && (Lib.trimPrefix p d == [] || Lib.hasPrefix (Lib.trimPrefix p d) [47])) = (p == d || Lib.hasPrefix p (d ++ [47])) := by
  unfold Lib.trimPrefix
  cases h : Lib.hasPrefix p d with
  | false =>
    simp only [Bool.false_and]
    unfold Lib.hasPrefix at *
    have h1 : p ≠ d := by
      rintro rfl
      have := List.isPrefixOf_iff_prefix.2 (List.prefix_refl p)
      rw [h] at this; cases this
    have h2 : (d ++ [47]).isPrefixOf p = false := by
      rw [Bool.eq_false_iff]; intro hh
      rw [List.isPrefixOf_iff_prefix] at hh
      have : d <+: p := (List.prefix_append d [47]).trans hh
      rw [← List.isPrefixOf_iff_prefix] at this
      rw [h] at this; cases this
    simp [h1, h2]
  | true =>
    simp only [Bool.true_and, if_true]
    unfold Lib.hasPrefix at *
    obtain ⟨t, rfl⟩ := List.isPrefixOf_iff_prefix.1 h
    rw [List.drop_left]
    congr 1
    · rw [Bool.eq_iff_iff]; simp
    · rw [Bool.eq_iff_iff, List.isPrefixOf_iff_prefix, List.isPrefixOf_iff_prefix, List.prefix_append_right_inj]
theorem tl (s : ByteArray) : s.toList = s.data.toList := Lib.toList_data s
set_option maxHeartbeats 1000000 in
theorem path_Under (p d : ByteArray) (w : World) :
    Calls Tryd.prog 29 #[.string p, .string d] w fun e w' => e = .returned (.bool (underOf p.data.toList d.data.toList)) ∧ w' = w := by
  have hH := fun w => Tryd.strings_HasPrefix p ⟨#[47]⟩ w
  rw [show (⟨#[47]⟩ : ByteArray).data.toList = [47] from rfl] at hH
  by_cases hd : d.data.toList = [47]
  · have hdb : (d.toList == [47]) = true := by rw [tl]; simpa using hd
    have hU : underOf p.data.toList d.data.toList = Lib.hasPrefix p.data.toList [47] := by unfold underOf; rw [if_pos hd]
    rw [hU]
    generalize Lib.hasPrefix p.data.toList [47] = A at *
    clear hd hU
    go_enter Tryd.func29, Tryd.ntmps29
    go_wp2_with (go_at_call 49; refine (hH _).mono ?_; rintro e w0 ⟨rfl, hw0⟩; rw [hw0]; clear hw0)
    go_ret
    exact ⟨rfl, rfl⟩
  · have hdb : (d.toList == [47]) = false := by rw [tl]; simpa using hd
    have hU : underOf p.data.toList d.data.toList = (Lib.hasPrefix p.data.toList d.data.toList && (Lib.trimPrefix p.data.toList d.data.toList == [] || Lib.hasPrefix (Lib.trimPrefix p.data.toList d.data.toList) [47])) := by unfold underOf; rw [if_neg hd, prefix_slash]
    rw [hU]
    have hC := fun w => Tryd.strings_CutPrefix p d w
    have hH2 := fun w => Tryd.strings_HasPrefix (tx (Lib.trimPrefix p.data.toList d.data.toList)) ⟨#[47]⟩ w
    rw [show (⟨#[47]⟩ : ByteArray).data.toList = [47] from rfl, data_tx] at hH2
    have hC2 : ∀ w, Calls Tryd.prog 42 #[.string p, .string d] w fun e w' => e = .returned (.tuple #[.string (tx (Lib.trimPrefix p.data.toList d.data.toList)), .bool (Lib.hasPrefix p.data.toList d.data.toList)]) ∧ w' = w := hC
    clear hC hd hU hH
    generalize Lib.hasPrefix p.data.toList d.data.toList = A at *
    generalize Lib.trimPrefix p.data.toList d.data.toList = r at *
    generalize Lib.hasPrefix r [47] = C at *
    have hre := tx_empty r
    have hrb : (r == []) = r.isEmpty := by cases r <;> rfl
    rw [hrb]
    generalize r.isEmpty = D at *
    clear hrb
    cases A
    · go_enter Tryd.func29, Tryd.ntmps29
      go_wp2_with (go_at_call 42; refine (hC2 _).mono ?_; rintro e w0 ⟨rfl, hw0⟩; rw [hw0]; clear hw0)
      go_ret
      exact ⟨rfl, rfl⟩
    · cases D
      · go_enter Tryd.func29, Tryd.ntmps29
        go_wp2_with (first | (go_at_call 42; refine (hC2 _).mono ?_; rintro e w0 ⟨rfl, hw0⟩; rw [hw0]; clear hw0) | (go_at_call 49; refine (hH2 _).mono ?_; rintro e w0 ⟨rfl, hw0⟩; rw [hw0]; clear hw0))
        go_ret
        exact ⟨rfl, rfl⟩
      · go_enter Tryd.func29, Tryd.ntmps29
        go_wp2_with (first | (go_at_call 42; refine (hC2 _).mono ?_; rintro e w0 ⟨rfl, hw0⟩; rw [hw0]; clear hw0) | (go_at_call 49; refine (hH2 _).mono ?_; rintro e w0 ⟨rfl, hw0⟩; rw [hw0]; clear hw0))
        go_ret
        exact ⟨rfl, rfl⟩
set_option maxHeartbeats 1000000 in
theorem ref_begins (s t : ByteArray) (w : World) :
    Calls Tryd.prog 56 #[.string s, .string t] w fun e w' => e = .returned (.bool (Lib.hasPrefix s.data.toList t.data.toList)) ∧ w' = w := by
  have hr := Lib.hasPrefix_raw s t
  rw [← hr]
  clear hr
  by_cases h : t.size ≤ s.size
  · have hI : (t.size : Int) ≤ (s.size : Int) := by omega
    rw [decide_eq_true h, Bool.true_and]
    go_enter Tryd.func56, Tryd.ntmps56
    go_wp2
    go_ret
    exact ⟨rfl, rfl⟩
  · have hI : ¬ (t.size : Int) ≤ (s.size : Int) := by omega
    rw [decide_eq_false h, Bool.false_and]
    go_enter Tryd.func56, Tryd.ntmps56
    go_wp2
    go_ret
    exact ⟨rfl, rfl⟩
set_option maxHeartbeats 1000000 in
theorem ref_Under (p d : ByteArray) (w : World) (hd0 : d.size ≤ 100000000) :
    Calls Tryd.prog 32 #[.string p, .string d] w fun e w' => e = .returned (.bool (underOf p.data.toList d.data.toList)) ∧ w' = w := by
  have hB := fun w => ref_begins p ⟨#[47]⟩ w
  rw [show (⟨#[47]⟩ : ByteArray).data.toList = [47] from rfl] at hB
  have hB2 := fun w => ref_begins p (d ++ ⟨#[47]⟩) w
  have happ : (d ++ ⟨#[47]⟩ : ByteArray).data.toList = d.data.toList ++ [47] := by
    rw [← tx_data d, show (⟨#[47]⟩ : ByteArray) = tx [47] from rfl, tx_append, data_tx, data_tx]
  rw [happ] at hB2
  by_cases hd : d.data.toList = [47]
  · have hdb : (d.toList == [47]) = true := by rw [tl]; simpa using hd
    have hU : underOf p.data.toList d.data.toList = Lib.hasPrefix p.data.toList [47] := by unfold underOf; rw [if_pos hd]
    rw [hU]
    generalize Lib.hasPrefix p.data.toList [47] = A at *
    clear hd hU hB2 happ
    go_enter Tryd.func32, Tryd.ntmps32
    go_wp2_with (go_at_call 56; refine (hB _).mono ?_; rintro e w0 ⟨rfl, hw0⟩; rw [hw0]; clear hw0)
    go_ret
    exact ⟨rfl, rfl⟩
  · have hdb : (d.toList == [47]) = false := by rw [tl]; simpa using hd
    have hU : underOf p.data.toList d.data.toList = ((p.toList == d.toList) || Lib.hasPrefix p.data.toList (d.data.toList ++ [47])) := by unfold underOf; rw [if_neg hd, tl, tl]
    rw [hU]
    clear hd hU hB happ
    generalize Lib.hasPrefix p.data.toList (d.data.toList ++ [47]) = A at *
    cases hE : (p.toList == d.toList)
    · go_enter Tryd.func32, Tryd.ntmps32
      go_wp2_with (go_at_call 56; refine (hB2 _).mono ?_; rintro e w0 ⟨rfl, hw0⟩; rw [hw0]; clear hw0)
      go_ret
      exact ⟨rfl, rfl⟩
    · go_enter Tryd.func32, Tryd.ntmps32
      go_wp2_with (go_at_call 56; refine (hB2 _).mono ?_; rintro e w0 ⟨rfl, hw0⟩; rw [hw0]; clear hw0)
      go_ret
      exact ⟨rfl, rfl⟩
end Go.Proofs.YtmcefflgbliehaaDoor
