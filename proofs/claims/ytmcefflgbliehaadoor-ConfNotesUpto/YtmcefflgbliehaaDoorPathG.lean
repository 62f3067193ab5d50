
/-
  Layer 4, the program's and the reference's: Base, Up, Under, Child, Archive, Same keep their contracts.
-/
import Derived.Test.YtmcefflgbliehaaDoorPathF
set_option linter.unusedVariables false
namespace Go.Proofs.YtmcefflgbliehaaDoor
open Go.RowKit Go.PlainAid
/-- Where the last / stands; -1, if there is none. -/
def lastS (l : List UInt8) : Int := Lib.lastOcc l [47] l.length
theorem lastS_eq (l : List UInt8) : Lib.lastIndex l [47] = lastS l := by
  unfold Lib.lastIndex lastS
  cases l with
  | nil => rfl
  | cons b t => rw [if_pos (by simp)]; simp
theorem lastS_bd (l : List UInt8) : lastS l = -1 ∨ ∃ i : Nat, i < l.length ∧ lastS l = i := by
  rcases Lib.lastOcc_spec l [47] l.length with ⟨h, _⟩ | ⟨i, h, h2, _⟩
  · exact .inl h
  · exact .inr ⟨i, h, h2⟩
def baseOf (l : List UInt8) : List UInt8 := l.drop (lastS l + 1).toNat
def upOf (l : List UInt8) : List UInt8 := if lastS l ≤ 0 then [47] else l.take (lastS l).toNat
theorem extract_end (s : ByteArray) (k : Nat) : s.extract k s.size = tx (s.data.toList.drop k) := by
  rw [Lib.extract_eq]
  unfold tx
  congr 2
  rw [List.take_of_length_le]
  rw [List.length_drop, size_list]; omega
theorem extract_start (s : ByteArray) (k : Nat) : s.extract 0 k = tx (s.data.toList.take k) := by
  rw [Lib.extract_eq]; simp [tx]
theorem occ47 (l : List UInt8) (k : Nat) (h : k < l.length) : Lib.occAt l [47] k = (l.getD k 0 == 47) := by
  unfold Lib.occAt
  rw [drop_cons l k h]
  simp [List.isPrefixOf, Bool.beq_comm]
end Go.Proofs.YtmcefflgbliehaaDoor
