/-
  What the walk is told of a row of calls that comes in.
-/
import Derived.Test.YtipnjkemiopjiaaBufD
import Derived.Deep.Slices
import Derived.Lib.SmallJoins
import Derived.ChangeSlices
set_option linter.unusedVariables false
namespace Go.Proofs.Ytipnjkemiopjiaa
open Go.RowKit Go.PlainAid Go.ChangeShapes Go.WideShapes
/-- One call: its kind, its number, its unsigned number, its bytes (a slice that is readable). -/
structure IsOp (w : World) (x : Addr) (k n u : Int) (s : Option Addr) (bl bc : Nat) (zs : List Int) : Prop where
  c0 : w.cell? (x.add 0) = some (.int .i64 k)
  c1 : w.cell? (x.add 1) = some (.int .i64 n)
  c2 : w.cell? (x.add 2) = some (.int .u64 u)
  c3 : w.cell? (x.add 3) = some (.slice s bl bc)
  k0 : -9223372036854775808 ≤ k ∧ k ≤ 9223372036854775807
  n0 : -9223372036854775808 ≤ n ∧ n ≤ 9223372036854775807
  u0 : 0 ≤ u ∧ u ≤ 18446744073709551615
  row : IsRow .u8 w s bl bc zs
def IsOps (w : World) (a : Option Addr) (len cap : Nat) : Prop :=
  (a = none ∧ len = 0 ∧ cap = 0) ∨ ∃ x, a = some x ∧ len ≤ cap ∧ cap ≤ maxLen ∧ ∀ i, i < len → ∃ k n u s bl bc zs, IsOp w (x.add (i * 4)) k n u s bl bc zs
theorem cells51 : Try.prog.cellsOf 51 = 4 := by kernel_rfl
theorem cellsI : Try.prog.cellsOf 3 = 1 := by kernel_rfl
theorem cellsU : Try.prog.cellsOf 23 = 1 := by kernel_rfl
theorem cellsB : Try.prog.cellsOf 22 = 1 := by kernel_rfl
theorem four {l : List Value} (h : l.length = 4) : ∃ a b c d, l = [a, b, c, d] := by
  match l, h with
  | [a, b, c, d], _ => exact ⟨a, b, c, d, rfl⟩
theorem isOps_of {H : Type} {enc : TypeId × Value → H} {W : World} {s : Option Addr} {len cap : Nat} {d : DataW H} {p : List MemPlace}
    (h : DataW.Trod enc Try.prog W 0 (fun _ => true) true 47 (.slice s len cap) d p) : IsOps W s len cap := by
  obtain ⟨fuel, hf⟩ := h
  rcases Go.Deep.open_slice Try.underlying47 hf with ⟨hcs, _⟩ | ⟨a, l, c, m, n, D, Pl, hcs, _, hl, hm, hmm, _, hx⟩
  · simp [Value.cells] at hcs
    obtain ⟨rfl, rfl, rfl⟩ := hcs
    exact .inl ⟨rfl, rfl, rfl⟩
  · simp [Value.cells] at hcs
    obtain ⟨rfl, rfl, rfl⟩ := hcs
    refine .inr ⟨_, rfl, hl, hm, fun i hi => ?_⟩
    obtain ⟨cs', h1, h2⟩ := hx i (by rw [hmm]; simp; omega)
    rw [cells51] at h1
    obtain ⟨_, hlen, hcell⟩ := World.cells?_some h1
    obtain ⟨y0, y1, y2, y3, n', _, _, g0, g1, g2, g3⟩ := Go.Joins.trod_struct4 Try.underlying51 h2
    obtain ⟨v0, v1, v2, v3, rfl⟩ : ∃ v0 v1 v2 v3, cs' = [v0, v1, v2, v3] := four hlen
    simp only [cellsI, cellsU, cellsB, List.drop_zero, List.drop_succ_cons, List.take_succ_cons, List.take_zero] at g0 g1 g2 g3
    obtain ⟨k, q0, _, w0⟩ := DataW.trod_int Try.underlying3 g0
    obtain ⟨n2, q1, _, w1⟩ := DataW.trod_int Try.underlying3 g1
    obtain ⟨u, q2, _, w2⟩ := DataW.trod_int Try.underlying23 g2
    simp only [List.cons.injEq, and_true] at q0 q1 q2
    subst q0 q1 q2
    have c0 := hcell 0 (by omega)
    have c1 := hcell 1 (by omega)
    have c2 := hcell 2 (by omega)
    have c3 := hcell 3 (by omega)
    simp at c0 c1 c2 c3
    rcases Go.ChangeShapes.open_ints Try.underlying22 Try.underlying5 (by kernel_rfl) g3 with ⟨q3, _⟩ | ⟨x3, l3, c3', zs, q3, _, hl3, hm3, hz3, _, hcell3, hw3⟩
    · simp only [List.cons.injEq, and_true] at q3
      subst q3
      exact ⟨k, n2, u, none, 0, 0, [], c0, c1, c2, c3, bounds_i64 w0, bounds_i64 w1, wf_u64 w2, .inl ⟨rfl, rfl, rfl, rfl⟩⟩
    · simp only [List.cons.injEq, and_true] at q3
      subst q3
      exact ⟨k, n2, u, some x3, l3, c3', zs, c0, c1, c2, c3, bounds_i64 w0, bounds_i64 w1, wf_u64 w2, .inr ⟨_, rfl, hl3, hm3, by simpa using hz3, hcell3, hw3⟩⟩
end Go.Proofs.Ytipnjkemiopjiaa
