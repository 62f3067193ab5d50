/-
  What the walks over NumMoves lean on: the box of its argument, and that rows which are moved alike lie as they did.
-/
import Derived.Test.YtobamanlfcnilaaNumD
import Derived.WalkKit
import Derived.ProofKit
import Derived.OpenShut
import Derived.ShutString
import Derived.ChangeOld
import Derived.Below
import Derived.Lib.SmallJoins
import Derived.Deep.RegionHeld3
import Derived.Deep.QuietTactic
import Derived.BigQuiet
import Derived.Deep.DrawnRows
set_option linter.unusedVariables false
namespace Go.Proofs.Ytobamanlfcnilaa
namespace LNumMoves
open Go.ChangeShapes Go.WideShapes Go.ChangeAt Go.RowKit Go.PlainAid
open Go.ChangeMaps (open_string shut_string)
attribute [local go_sem ↓] Go.wp_at_zero Go.wp_at_succ
theorem bcell {W w1 : World} (hb : Below W.heap.size W w1) : (∀ b o, b < W.heap.size → w1.cell? ⟨b, o, none⟩ = W.cell? ⟨b, o, none⟩) ∧ (∀ b o, b < W.heap.size → w1.frozen? ⟨b, o, none⟩ = W.frozen? ⟨b, o, none⟩) :=
  ⟨fun b o h => hb.cell (p := ⟨b, o, none⟩) h, fun b o h => hb.frozen (p := ⟨b, o, none⟩) h⟩
/-- The box of the law's argument holds the four numbers, and below it nothing has turned. -/
abbrev Held (B : Nat) (w0 : World) (a s f r : Int) (w : World) : Prop :=
  w.cell? ⟨B, 0, none⟩ = some (.int .u64 a) ∧ w.cell? ⟨B, 1, none⟩ = some (.int .u64 s) ∧ w.cell? ⟨B, 2, none⟩ = some (.int .u64 f) ∧ w.cell? ⟨B, 3, none⟩ = some (.int .u64 r) ∧ B < w.heap.size ∧ Below B w0 w
theorem Held.on {B : Nat} {w0 : World} {a s f r : Int} {w w' : World} (h : Held B w0 a s f r w) (hb : Below w.heap.size w w') : Held B w0 a s f r w' := by
  obtain ⟨h0, h1, h2, h3, h4, h5⟩ := h
  obtain ⟨hc, _⟩ := bcell hb
  refine ⟨?_, ?_, ?_, ?_, Nat.lt_of_lt_of_le h4 hb.size, h5.trans (hb.mono (Nat.le_of_lt h4))⟩
  · rw [hc _ _ h4]; exact h0
  · rw [hc _ _ h4]; exact h1
  · rw [hc _ _ h4]; exact h2
  · rw [hc _ _ h4]; exact h3
theorem keeps {B : Nat} {w0 : World} {a s f r : Int} {P : Program} {F : Nat} {args : Array Value} {v : Value} {w : World} (h : Held B w0 a s f r w)
    (c : Calls P F args w fun e w' => e = .returned v ∧ Below w.heap.size w w') : Calls P F args w fun e w' => e = .returned v ∧ Held B w0 a s f r w' :=
  c.mono fun e w' ⟨he, hb⟩ => ⟨he, h.on hb⟩
theorem inB_move (a s f r b : Int) : inB (a + b) s (f + b) r = inB a s f r := by unfold inB; rw [decide_eq_decide]; omega
theorem apB_move (a s f r b : Int) : apB (a + b) s (f + b) r = apB a s f r := by unfold apB; rw [decide_eq_decide]; omega
theorem in_not_ap {a s f r : Int} (h0 : 0 ≤ s) (hs : s ≠ 0) (h : inB a s f r = true) : apB a s f r = false := by
  unfold inB at h; unfold apB; simp at h ⊢; omega
theorem held_start (w : World) (a s f r : Int) (T : TypeId) : Held w.heap.size w a s f r ((w.alloc (.cells #[.int .u64 a, .int .u64 s, .int .u64 f, .int .u64 r] T)).drew) :=
  ⟨by simp, by simp, by simp, by simp, by simp, ((Below.refl w.heap.size w).alloc (Nat.le_refl _) _).drew⟩
end LNumMoves
end Go.Proofs.Ytobamanlfcnilaa
