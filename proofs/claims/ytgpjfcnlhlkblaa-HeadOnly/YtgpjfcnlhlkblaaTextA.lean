
/-
  le.Plain and le.Text keep their contracts.
-/
import Derived.Test.YtgpjfcnlhlkblaaBufC
import Derived.Laws.RangeAny
import Derived.Lib.BytesEntry
import Derived.Lib.IndexLaws
set_option linter.unusedVariables false
namespace Go.Proofs.Ytgpjfcnlhlkblaa
open Go.RowKit Go.PlainAid
/-- A byte that plain texts have. -/
def pl (c : UInt8) : Bool := decide (33 ≤ c.toNat) && decide (c.toNat ≤ 126)
/-- Plain texts. -/
def plain (l : List UInt8) : Bool := l.all pl && decide (l.length ≤ 64)
theorem size_list (s : ByteArray) : s.size = s.data.toList.length := by simp
theorem get_list (s : ByteArray) (k : Nat) (h : k < s.size) : (s[k]'h) = s.data.toList.getD k 0 := by
  have h' : k < s.data.toList.length := by simpa using h
  rw [List.getD, List.getElem?_eq_getElem h']
  rfl
theorem all_take_snoc (l : List UInt8) (k : Nat) (h : k < l.length) : (l.take (k + 1)).all pl = ((l.take k).all pl && pl (l.getD k 0)) := by
  rw [List.take_add_one, List.all_append]
  simp [List.getD, List.getElem?_eq_getElem h]
theorem all_bad (l : List UInt8) (k : Nat) (h : k < l.length) (hb : pl (l.getD k 0) = false) : l.all pl = false := by
  rw [List.all_eq_false]
  refine ⟨l.getD k 0, ?_, by rw [hb]; simp⟩
  rw [List.getD, List.getElem?_eq_getElem h]
  simp
/-- Where the first byte 0 stands. -/
def zat : List UInt8 → Option Nat
  | [] => none
  | c :: t => if c = 0 then some 0 else (zat t).map (· + 1)
theorem zat_index : ∀ l : List UInt8, Lib.indexByte l 0 = match zat l with | none => -1 | some k => (k : Int)
  | [] => rfl
  | c :: t => by
    unfold Lib.indexByte zat
    have ih := zat_index t
    by_cases h : c = 0
    · simp [h]
    · rw [if_neg (by simpa using h), if_neg h, ih]
      cases hz : zat t with
      | none => simp
      | some k =>
        simp only [Option.map_some]
        rw [if_neg (by intro hh; have := beq_iff_eq.1 hh; omega)]; push_cast; rfl
theorem zat_lt : ∀ (l : List UInt8) (k : Nat), zat l = some k → k < l.length
  | [], k, h => by simp [zat] at h
  | c :: t, k, h => by
    unfold zat at h
    split at h
    · injection h with h; subst h; simp
    · obtain ⟨j, hj, rfl⟩ := Option.map_eq_some_iff.mp h
      have := zat_lt t j hj
      simp; omega
theorem bytesOf_map (l : List UInt8) : Lib.bytesOf (l.map fun c => (c.toNat : Int)) = l := by
  unfold Lib.bytesOf
  rw [List.map_map]
  conv => rhs; rw [← List.map_id l]
  apply List.map_congr_left
  intro c _
  simp
/-- What stands at a place: the text and the error's number. -/
def textAt (l : List UInt8) (p : Nat) : List UInt8 × Int :=
  match zat (l.drop p) with
  | none => ([], 20)
  | some k => if plain ((l.drop p).take k) then ((l.drop p).take k, 0) else ([], 21)
end Go.Proofs.Ytgpjfcnlhlkblaa
