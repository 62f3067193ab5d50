
/-
  leb's Reader.U and Reader.S keep their contracts: the next number, without and with its sign, or 0 and the first error; nothing but the reader is turned.
-/
import Derived.Test.YtiicmakeoidiaaaRdC
set_option linter.unusedVariables false
namespace Go.Proofs.Ytiicmakeoidiaaa
open Go.RowKit Go.PlainAid
/-- How many bytes at the head are not the last of a number (so many at most). -/
def hiN : Nat → List UInt8 → Nat
  | 0, _ => 0
  | _ + 1, [] => 0
  | f + 1, c :: cs => if 128 ≤ c.toNat then hiN f cs + 1 else 0
theorem hiN_le : ∀ (f : Nat) (l : List UInt8), hiN f l ≤ f ∧ hiN f l ≤ l.length
  | 0, l => by simp [hiN]
  | f + 1, [] => by simp [hiN]
  | f + 1, c :: cs => by
    have := hiN_le f cs
    simp only [hiN]
    split
    · simp; omega
    · simp
theorem hiN_high : ∀ (f : Nat) (l : List UInt8) (i : Nat), i < hiN f l → 128 ≤ (l.getD i 0).toNat
  | 0, l, i, h => by simp [hiN] at h
  | f + 1, [], i, h => by simp [hiN] at h
  | f + 1, c :: cs, i, h => by
    simp only [hiN] at h
    split at h
    · cases i with
      | zero => simpa using ‹128 ≤ c.toNat›
      | succ i => simpa using hiN_high f cs i (by omega)
    · omega
theorem hiN_low : ∀ (f : Nat) (l : List UInt8), hiN f l < f → hiN f l < l.length → (l.getD (hiN f l) 0).toNat < 128
  | 0, l, h, _ => by omega
  | f + 1, [], _, h => by simp [hiN] at h
  | f + 1, c :: cs, h, h2 => by
    simp only [hiN] at h h2 ⊢
    split
    · rename_i hc
      rw [if_pos hc] at h h2
      simpa using hiN_low f cs (by omega) (by simp at h2; omega)
    · rename_i hc; simp; omega
/-- Is there a whole number at the head, in ten groups at most? -/
def whole (l : List UInt8) : Prop := hiN 10 l < 10 ∧ hiN 10 l < l.length
theorem not_whole_high {l : List UInt8} (h : ¬ whole l) : ∀ i, i < 10 → i < l.length → 128 ≤ (l.getD i 0).toNat := by
  intro i h1 h2
  have hle := hiN_le 10 l
  by_cases hi : i < hiN 10 l
  · exact hiN_high 10 l i hi
  · exact absurd ⟨by omega, by omega⟩ h
theorem leb_take_no (R : Nat) (l : List UInt8) (e : Int) (w : World) (h : Rd w R l e) (hw : ¬ whole l) :
    Calls Try.prog 36 #[.pointer (some ⟨R, 0, none⟩)] w fun x w' =>
      x = .returned (.tuple #[.agg #[.int .u64 0, .int .i64 0, .int .u8 0], .bool false]) ∧ Rd w' R [] (first e (noErr l)) ∧ w.grownBy w' (some R) := by
  by_cases hne : l = []
  · subst hne; exact take_nil R e w h
  · exact take_no R l e w h hne (not_whole_high hw)
theorem leb_take_yes (R : Nat) (l : List UInt8) (e : Int) (w : World) (h : Rd w R l e) (hw : whole l) :
    Calls Try.prog 36 #[.pointer (some ⟨R, 0, none⟩)] w fun x w' =>
      x = .returned (.tuple #[.agg #[.int .u64 (gv l (hiN 10 l + 1)), .int .i64 ((hiN 10 l : Int) + 1), .int .u8 (gl l (hiN 10 l + 1))], .bool true]) ∧ Rd w' R (l.drop (hiN 10 l + 1)) e ∧ w.grownBy w' (some R) :=
  take_yes R l e w h (hiN 10 l) hw.1 hw.2 (hiN_low 10 l hw.1 hw.2) (hiN_high 10 l)
theorem gl_bd (l : List UInt8) (k : Nat) : 0 ≤ gl l k ∧ gl l k ≤ 127 := by cases k <;> simp only [gl] <;> omega
end Go.Proofs.Ytiicmakeoidiaaa
