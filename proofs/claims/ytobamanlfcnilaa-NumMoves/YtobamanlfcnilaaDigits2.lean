/-
  Plain facts on reading digits; no program is in sight here.
-/
import Derived.Test.YtobamanlfcnilaaDigits
import Derived.Lib.Bytealg
import Derived.Lib.IndexLaws
import Derived.Lib.Strings
set_option linter.unusedVariables false
namespace Go.Proofs.Ytobamanlfcnilaa
open Go.RowKit Go.PlainAid

/-- Which digit a byte is among the first b digits; -1: none. -/
def dv (b : Nat) (c : Int) : Int := Lib.indexByte (ByteArray.extract ⟨#[48, 49, 50, 51, 52, 53, 54, 55, 56, 57, 97, 98, 99, 100, 101, 102]⟩ 0 b).data.toList c.toNat.toUInt8
theorem dv_ge (b : Nat) (c : Int) : -1 ≤ dv b c := Lib.indexByte_ge _ _
theorem indexByte_lt : ∀ (l : List UInt8) (c : UInt8), Lib.indexByte l c < l.length ∨ l = []
  | [], _ => .inr rfl
  | x :: l, c => by
    left
    have ih := indexByte_lt l c
    unfold Lib.indexByte
    split
    · simp
    · split
      · simp; omega
      · rcases ih with h | h
        · simp; omega
        · subst h; simp_all [Lib.indexByte]
theorem dv_lt16 (c : Int) : dv 16 c < 16 := by
  rcases indexByte_lt (ByteArray.extract ⟨#[48, 49, 50, 51, 52, 53, 54, 55, 56, 57, 97, 98, 99, 100, 101, 102]⟩ 0 16).data.toList c.toNat.toUInt8 with h | h
  · exact h
  · exact absurd h (by decide)
theorem dv_lt10 (c : Int) : dv 10 c < 10 := by
  rcases indexByte_lt (ByteArray.extract ⟨#[48, 49, 50, 51, 52, 53, 54, 55, 56, 57, 97, 98, 99, 100, 101, 102]⟩ 0 10).data.toList c.toNat.toUInt8 with h | h
  · exact h
  · exact absurd h (by decide)
/-- Digits behind a number, as num.read goes through them. -/
def rdLoop (b M : Nat) (s : ByteArray) : Nat → Nat → Nat → Option Nat
  | 0, _, n => some n
  | f + 1, k, n => if dv b (bt s k) < 0 then none else if (((M : Int) - dv b (bt s k)) / b) < (n : Int) then none else rdLoop b M s f (k + 1) (n * b + (dv b (bt s k)).toNat)
def rd (b M : Nat) (s : ByteArray) : Option Nat :=
  if s.toList.isEmpty = true then none else if bt s 0 = 48 ∧ (s.toList == [48]) = false then none else rdLoop b M s s.size 0 0
theorem size_pos_of {s : ByteArray} (h : s.toList.isEmpty = false) : 0 < s.size := by
  rw [Lib.toList_data] at h
  have e : s.data.toList.length = s.size := by simp
  cases hl : s.data.toList with
  | nil => rw [hl] at h; simp at h
  | cons x l => rw [hl] at e; simp at e; omega
theorem isEmpty_of {s : ByteArray} (h : s.size = 0) : s.toList.isEmpty = true := by
  rw [Lib.toList_data]
  have e : s.data.toList.length = s.size := by simp
  cases hl : s.data.toList with
  | nil => simp
  | cons x l => rw [hl] at e; simp at e; omega
theorem rdLoop_step {b M : Nat} {s : ByteArray} {k n : Nat} (hk : k < s.size) (h1 : ¬ dv b (bt s k) < 0) (h2 : ¬ ((M : Int) - dv b (bt s k)) / b < (n : Int)) :
    rdLoop b M s (s.size - k) k n = rdLoop b M s (s.size - (k + 1)) (k + 1) (n * b + (dv b (bt s k)).toNat) := by
  obtain ⟨f, hf⟩ : ∃ f, s.size - k = f + 1 := ⟨s.size - k - 1, by omega⟩
  have hf2 : s.size - (k + 1) = f := by omega
  rw [hf, hf2]
  simp [rdLoop, h1, h2]
theorem rdLoop_bad {b M : Nat} {s : ByteArray} {k n : Nat} (hk : k < s.size) (h1 : dv b (bt s k) < 0) : rdLoop b M s (s.size - k) k n = none := by
  obtain ⟨f, hf⟩ : ∃ f, s.size - k = f + 1 := ⟨s.size - k - 1, by omega⟩
  rw [hf]
  simp [rdLoop, h1]
theorem rdLoop_over {b M : Nat} {s : ByteArray} {k n : Nat} (hk : k < s.size) (h2 : ((M : Int) - dv b (bt s k)) / b < (n : Int)) : rdLoop b M s (s.size - k) k n = none := by
  obtain ⟨f, hf⟩ : ∃ f, s.size - k = f + 1 := ⟨s.size - k - 1, by omega⟩
  rw [hf]
  simp only [rdLoop, h2, if_true]
  split <;> rfl
/-- What num.ParseHex tells. -/
def phex (s : ByteArray) : Option Nat := if 2 ≤ s.size ∧ ((s.extract 0 2).toList == [48, 120]) = true then rd 16 18446744073709551615 (s.extract 2 s.size) else none
end Go.Proofs.Ytobamanlfcnilaa
