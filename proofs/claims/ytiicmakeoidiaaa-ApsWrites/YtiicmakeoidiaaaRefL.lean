
/-
  Layer 3: one step of the program's reader and of the reference's, side by side.
-/
import Derived.Test.YtiicmakeoidiaaaRefK
set_option linter.unusedVariables false
namespace Go.Proofs.Ytiicmakeoidiaaa
open Go.RowKit Go.PlainAid
/-- What is left, the error and the number behind U. -/
def stepU (l : List UInt8) (e : Int) : List UInt8 × Int × Int :=
  if hiN 10 l < 10 ∧ hiN 10 l < l.length then (if hiN 10 l = 9 ∧ 1 < gl l 10 then ([], first e 30, 0) else (l.drop (hiN 10 l + 1), e, gv l (hiN 10 l + 1))) else ([], first e (noErr l), 0)
def stepS (l : List UInt8) (e : Int) : List UInt8 × Int × Int :=
  if hiN 10 l < 10 ∧ hiN 10 l < l.length then (if hiN 10 l = 9 ∧ gl l 10 ≠ 0 ∧ gl l 10 ≠ 127 then ([], first e 30, 0) else (l.drop (hiN 10 l + 1), e, sv (gv l (hiN 10 l + 1)) (hiN 10 l + 1) (gl l (hiN 10 l + 1)))) else ([], first e (noErr l), 0)
theorem if_w {α : Type} {l : List UInt8} (h : whole l) (a b : α) : (if hiN 10 l < 10 ∧ hiN 10 l < l.length then a else b) = a := if_pos h
theorem if_nw {α : Type} {l : List UInt8} (h : ¬ whole l) (a b : α) : (if hiN 10 l < 10 ∧ hiN 10 l < l.length then a else b) = b := if_neg h
theorem leb_S_all (R : Nat) (l : List UInt8) (e : Int) (w : World) (h : Rd w R l e) :
    Calls Try.prog 30 #[.pointer (some ⟨R, 0, none⟩)] w fun x w' => x = .returned (.int .i64 (stepS l e).2.2) ∧ Rd w' R (stepS l e).1 (stepS l e).2.1 ∧ w.grownBy w' (some R) := by
  unfold stepS
  by_cases hw : whole l
  · rw [if_w hw]
    by_cases hb : hiN 10 l = 9 ∧ gl l 10 ≠ 0 ∧ gl l 10 ≠ 127
    · rw [if_pos hb]; exact leb_S_big R l e w h hw hb
    · rw [if_neg hb]; exact leb_S_yes R l e w h hw hb
  · rw [if_nw hw]; exact leb_S_no R l e w h hw
/-- The reference's reader stands where the program's does: v0 reads as l0 wherever; so many bytes are gone, or there was an error. -/
def Twin (v0 : Value) (l0 : List UInt8) (sl : Value) (l : List UInt8) (e : Int) : Prop :=
  (e = 0 ∧ ∃ n, l = l0.drop n ∧ Cut v0 sl l0 n) ∨ ((e == 0) = false ∧ l = [] ∧ IsSl sl)
theorem Cut.trans {a b c : Value} {l : List UInt8} {n m : Nat} (h1 : Cut a b l n) (h2 : Cut b c (l.drop n) m) : Cut a c l (n + m) :=
  ⟨h2.1, fun wx h => by have := h2.2 wx (h1.2 wx h); rwa [List.drop_drop] at this⟩
theorem Cut.refl {v : Value} (l : List UInt8) (h : IsSl v) : Cut v v l 0 := ⟨h, fun wx h => by simpa using h⟩
theorem Twin.isSl {v0 sl : Value} {l0 l : List UInt8} {e : Int} (h : Twin v0 l0 sl l e) : IsSl sl := by
  rcases h with ⟨_, n, _, hc⟩ | ⟨_, _, h⟩
  · exact hc.1
  · exact h
theorem first_zero (n : Int) : first 0 n = n := by unfold first; simp
theorem first_same (e n : Int) (h : (e == 0) = false) : first e n = e := by unfold first; rw [if_neg (by simpa using h)]
theorem nil_not_whole : ¬ whole [] := by unfold whole; simp
theorem stepU_err (e : Int) (h : (e == 0) = false) : stepU [] e = ([], e, 0) := by unfold stepU; rw [if_nw nil_not_whole, first_same e _ h]
theorem stepS_err (e : Int) (h : (e == 0) = false) : stepS [] e = ([], e, 0) := by unfold stepS; rw [if_nw nil_not_whole, first_same e _ h]
end Go.Proofs.Ytiicmakeoidiaaa
