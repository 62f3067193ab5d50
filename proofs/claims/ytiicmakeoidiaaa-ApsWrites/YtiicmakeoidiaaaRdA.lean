
/-
  What a reader of package leb holds (Rd), and the contracts of its small methods: stop, Fail, Left.
-/
import Derived.Test.YtiicmakeoidiaaaOwn
import Derived.Maps.AppendAt
import Derived.BigQuiet
set_option linter.unusedVariables false
namespace Go.Proofs.Ytiicmakeoidiaaa
open Go.RowKit Go.PlainAid
/-- v is a slice of bytes that reads as l; where there are any, they lie ahead of block R. -/
def Row (w : World) (R : Nat) (v : Value) (l : List UInt8) : Prop :=
  ∃ a cap, v = .slice a l.length cap ∧ l.length ≤ cap ∧ cap ≤ maxLen ∧
    (l = [] ∨ ∃ g o, a = some ⟨g, o, none⟩ ∧ g < R ∧ g < w.heap.size ∧ ∀ j (hj : j < l.length), w.cell? ⟨g, o + j, none⟩ = some (.int .u8 (l[j].toNat : Int)))
/-- Block R is a reader: l is left, e is its error. -/
structure Rd (w : World) (R : Nat) (l : List UInt8) (e : Int) : Prop where
  lt : R < w.heap.size
  rest : ∃ v, w.cell? ⟨R, 0, none⟩ = some v ∧ Row w R v l
  fail : w.cell? ⟨R, 1, none⟩ = some (.int .i64 e)
  soft0 : w.frozen? ⟨R, 0, none⟩ = false
  soft1 : w.frozen? ⟨R, 1, none⟩ = false
theorem gb_setCell {w w' : World} {R : Nat} (h : w.grownBy w' (some R)) (o : Nat) (v : Value) : w.grownBy (w'.setCell ⟨R, o, none⟩ v) (some R) :=
  h.trans ⟨rfl, rfl, rfl, by simp, fun k hk hne => by
    have : k ≠ R := fun e => hne (by rw [e])
    simp only [World.setCell, Array.getElem?_modify]
    rw [if_neg (fun e => this e.symm)]⟩
theorem gb_setNew {w w' : World} {row : Option Nat} (h : w.grownBy w' row) (b o : Nat) (hb : w.heap.size ≤ b) (v : Value) : w.grownBy (w'.setCell ⟨b, o, none⟩ v) row :=
  ⟨h.os, h.tape, h.output, Nat.le_trans h.size (by simp), fun k hk hne => by
    rw [← h.block k hk hne]
    simp only [World.setCell, Array.getElem?_modify]
    rw [if_neg (by omega)]⟩
theorem gb_alloc {w w' : World} {row : Option Nat} (h : w.grownBy w' row) (o : Obj) : w.grownBy (w'.alloc o) row := h.trans (World.grownBy_alloc _ _ _)
theorem gb_drew {w w' : World} {row : Option Nat} (h : w.grownBy w' row) : w.grownBy w'.drew row := ⟨h.os, h.tape, h.output, h.size, h.block⟩
theorem gb_drewN {w w' : World} {row : Option Nat} (h : w.grownBy w' row) (n : Nat) : w.grownBy (w'.drewN n) row := ⟨h.os, h.tape, h.output, h.size, h.block⟩
theorem gb_refl (w : World) (row : Option Nat) : w.grownBy w row := World.grownBy.refl w row
theorem Row.on {w w' : World} {R : Nat} {v : Value} {l : List UInt8} (h : Row w R v l) (hg : w.grownBy w' (some R)) : Row w' R v l := by
  obtain ⟨a, cap, rfl, h1, h2, h3⟩ := h
  refine ⟨a, cap, rfl, h1, h2, ?_⟩
  rcases h3 with h3 | ⟨g, o, rfl, h4, h5, h6⟩
  · exact .inl h3
  · exact .inr ⟨g, o, rfl, h4, Nat.lt_of_lt_of_le h5 hg.size, fun j hj => hg.cell (h6 j hj) (by simpa using Nat.ne_of_lt h4)⟩
theorem Rd.on {w w' : World} {R : Nat} {l : List UInt8} {e : Int} (h : Rd w R l e) (hg : w.grownBy w' none) : Rd w' R l e := by
  obtain ⟨h1, ⟨v, h2, h3⟩, h4, h5, h6⟩ := h
  have hb : w'.heap[R]? = w.heap[R]? := hg.block R h1 (by simp)
  refine ⟨Nat.lt_of_lt_of_le h1 hg.size, ⟨v, ?_, h3.on ⟨hg.os, hg.tape, hg.output, hg.size, fun k hk _ => hg.block k hk (by simp)⟩⟩, ?_, ?_, ?_⟩
  · rw [World.cell?_of_block (a := ⟨R, 0, none⟩) hb]; exact h2
  · rw [World.cell?_of_block (a := ⟨R, 1, none⟩) hb]; exact h4
  · rw [World.frozen?_of_block (a := ⟨R, 0, none⟩) hb]; exact h5
  · rw [World.frozen?_of_block (a := ⟨R, 1, none⟩) hb]; exact h6
theorem Row.nil (w : World) (R : Nat) : Row w R (.slice none 0 0) [] := ⟨none, 0, rfl, by simp, by simp, .inl rfl⟩
theorem leb_Fail (R : Nat) (l : List UInt8) (e : Int) (w : World) (h : Rd w R l e) :
    Calls Try.prog 32 #[.pointer (some ⟨R, 0, none⟩)] w fun x w' => x = .returned (.int .i64 e) ∧ w = w' := by
  obtain ⟨h1, ⟨v, h2, h3⟩, h4, h5, h6⟩ := h
  go_enter Try.func32, Try.ntmps32
  go_wp2
  go_ret
  exact ⟨rfl, rfl⟩
theorem leb_Left (R : Nat) (l : List UInt8) (e : Int) (w : World) (h : Rd w R l e) :
    Calls Try.prog 33 #[.pointer (some ⟨R, 0, none⟩)] w fun x w' => x = .returned (.int .i64 l.length) ∧ w = w' := by
  obtain ⟨h1, ⟨v, h2, ⟨a, cap, rfl, h7, h8, h9⟩⟩, h4, h5, h6⟩ := h
  clear h9
  go_enter Try.func33, Try.ntmps33
  go_wp2
  go_ret
  exact ⟨rfl, rfl⟩
/-- What stop makes of the error: the first one stays. -/
def first (e n : Int) : Int := if e = 0 then n else e
theorem leb_stop (R : Nat) (l : List UInt8) (e n : Int) (w : World) (h : Rd w R l e) :
    Calls Try.prog 37 #[.pointer (some ⟨R, 0, none⟩), .int .i64 n] w fun x w' => x = .returned (.tuple #[]) ∧ Rd w' R [] (first e n) ∧ w.grownBy w' (some R) := by
  obtain ⟨h1, ⟨v, h2, h3⟩, h4, h5, h6⟩ := h
  by_cases he : e = 0
  · subst he
    have hf : first 0 n = n := by simp [first]
    rw [hf]
    go_enter Try.func37, Try.ntmps37
    go_wp2
    go_end0
    refine ⟨rfl, ⟨by simpa using h1, ⟨_, ?_, Row.nil _ _⟩, ?_, by simpa using h5, by simpa using h6⟩, gb_setCell (gb_setCell (gb_refl _ _) _ _) _ _⟩
    · exact World.cell?_setCell_same _ _ _ (by rw [World.cell?_setCell_other _ _ _ _ (by simp)]; exact h2)
    · rw [World.cell?_setCell_other _ _ _ _ (by simp)]; exact World.cell?_setCell_same _ _ _ h4
  · have hf : first e n = e := by simp [first, he]
    have he' : (e == 0) = false := by simp [he]
    rw [hf]
    go_enter Try.func37, Try.ntmps37
    go_wp2
    go_end0
    refine ⟨rfl, ⟨by simpa using h1, ⟨_, ?_, Row.nil _ _⟩, ?_, by simpa using h5, by simpa using h6⟩, gb_setCell (gb_refl _ _) _ _⟩
    · exact World.cell?_setCell_same _ _ _ h2
    · rw [World.cell?_setCell_other _ _ _ _ (by simp)]; exact h4
end Go.Proofs.Ytiicmakeoidiaaa
