
/-
  Layer 18 (conf): what a configuration says, as plain data. Nothing of the program.
-/
import Derived.Test.YtmcefflgbliehaaDoorPathM
import Derived.Lib.SlTrimSet
import Derived.Lib.IndexMore
set_option linter.unusedVariables false
namespace Go.Proofs.YtmcefflgbliehaaDoor
/-- A property: its name, its value, its line. -/
structure Pr where
  name : List UInt8
  value : List UInt8
  line : Int
/-- A part: its name, its properties. -/
structure Sc where
  name : List UInt8
  props : List Pr
/-- A configuration: for which folders which part is; the parts. -/
structure Cf where
  dirs : List Pr
  secs : List Sc
def bl (c : UInt8) : Bool := c == 32 || c == 9 || c == 13
def plB (c : UInt8) : Bool := bl c || (decide (32 ≤ c.toNat) && decide (c.toNat ≤ 126))
def plainC (l : List UInt8) : Bool := l.all plB
def trimC (l : List UInt8) : List UInt8 := Lib.trimS l [32, 9, 13]
def inN (c : UInt8) : Bool := (decide (97 ≤ c.toNat) && decide (c.toNat ≤ 122)) || (decide (65 ≤ c.toNat) && decide (c.toNat ≤ 90)) || (decide (48 ≤ c.toNat) && decide (c.toNat ≤ 57)) || decide (c.toNat = 46) || decide (c.toNat = 95) || decide (c.toNat = 45)
def nameC (l : List UInt8) : Bool := l.all inN && (l != [] && decide (l.length ≤ 256))
def saidC (l : List UInt8) : List UInt8 := trimC (Lib.cut l [35]).1
/-- What a line says of a property: its name, a value, whether that is added. -/
structure Td where
  name : List UInt8
  value : List UInt8
  added : Bool
def readT (l : List UInt8) : Td := ⟨trimC (Lib.trimSuffix (Lib.cut l [61]).1 [43]), trimC (Lib.cut l [61]).2.1, Lib.hasSuffix (Lib.cut l [61]).1 [43]⟩
def readB (l : List UInt8) : Bool := (Lib.cut l [61]).2.2 && nameC (readT l).name
/-- The place of the first that is so; -1: none. -/
def fstI {α : Type} (p : α → Bool) : List α → Nat → Int
  | [], _ => -1
  | e :: t, k => if p e = true then (k : Int) else fstI p t (k + 1)
theorem fstI_is {α : Type} (p : α → Bool) : ∀ (l : List α) (o : Nat), (fstI p l o = -1 ∧ l.find? p = none ∧ l.any p = false) ∨ ∃ (k : Nat) (h : k < l.length), fstI p l o = ((o + k : Nat) : Int) ∧ l.find? p = some l[k] ∧ l.any p = true ∧ p l[k] = true ∧ ∀ j (hj : j < k), p (l[j]'(by omega)) = false
  | [], _ => .inl ⟨rfl, rfl, rfl⟩
  | e :: t, o => by
    rw [fstI]
    by_cases hp : p e = true
    · rw [if_pos hp]
      exact .inr ⟨0, by simp, by simp, by simp [hp], by simp [hp], by simpa using hp, fun j hj => by omega⟩
    · rw [if_neg hp]
      have hf : (e :: t).find? p = t.find? p := by simp [hp]
      have ha : (e :: t).any p = t.any p := by simp [hp]
      rw [hf, ha]
      rcases fstI_is p t (o + 1) with h | ⟨k, hk, h1, h2, h3, h4, h5⟩
      · exact .inl h
      · refine .inr ⟨k + 1, by simpa using hk, by rw [h1]; omega, by simpa using h2, h3, by simpa using h4, fun j hj => ?_⟩
        cases j with
        | zero => simpa using hp
        | succ j => simpa using h5 j (by omega)
/-- Has it that name? -/
def isP (n : List UInt8) (p : Pr) : Bool := p.name == n
def isS (n : List UInt8) (s : Sc) : Bool := s.name == n
def spacesN : List UInt8 := [97, 100, 100, 105, 116, 105, 111, 110, 97, 108, 46, 110, 97, 109, 101, 115, 112, 97, 99, 101, 115]
def linksN : List UInt8 := [46, 108, 105, 110, 107, 115]
def betwC (n : List UInt8) : List UInt8 := if n = spacesN ∨ Lib.hasSuffix n linksN = true then [44] else [58]
/-- The value that a property has then. -/
def newV (old : List UInt8) (t : Td) : List UInt8 := if t.added = true ∧ old ≠ [] then old ++ betwC t.name ++ t.value else t.value
def tellC (l : List Pr) (t : Td) (n : Int) : List Pr :=
  match l.find? (isP t.name) with
  | none => l ++ [⟨t.name, t.value, n⟩]
  | some q => l.set (fstI (isP t.name) l 0).toNat ⟨q.name, newV q.value t, n⟩
def dirN : List UInt8 := [100, 105, 114, 46]
end Go.Proofs.YtmcefflgbliehaaDoor
