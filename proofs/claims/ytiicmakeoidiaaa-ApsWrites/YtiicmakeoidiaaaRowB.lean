
/-
  The contracts of le's readers and of the reference's in one form each, and a row of bytes that comes in.
-/
import Derived.Test.YtiicmakeoidiaaaRefB
import Derived.ProofKit
import Derived.OpenShut
set_option linter.unusedVariables false
namespace Go.Proofs.Ytiicmakeoidiaaa
open Go.RowKit Go.PlainAid
/-- What the walk is told of a slice of integers that came in. -/
def IsRow (k : IntKind) (w : World) (a : Option Addr) (len cap : Nat) (zs : List Int) : Prop :=
  (a = none ∧ len = 0 ∧ cap = 0 ∧ zs = []) ∨
  ∃ x, a = some x ∧ len ≤ cap ∧ cap ≤ maxLen ∧ zs.length = cap ∧ (∀ i, i < zs.length → w.cell? (x.add i) = some (.int k (zs.getD i 0))) ∧ ∀ n ∈ zs, (Lit.int k n).wf = true
theorem wf_u8 {n : Int} (h : (Lit.int .u8 n).wf = true) : 0 ≤ n ∧ n ≤ 255 := by
  have a : IntKind.u8.min = 0 := rfl
  have b : IntKind.u8.max = 255 := rfl
  simp [Lit.wf] at h
  omega
theorem wf_u64 {n : Int} (h : (Lit.int .u64 n).wf = true) : 0 ≤ n ∧ n ≤ 18446744073709551615 := by
  have a : IntKind.u64.min = 0 := rfl
  have b : IntKind.u64.max = 18446744073709551615 := rfl
  simp [Lit.wf] at h
  omega
/-- The bytes of such a row. -/
def rowOf (zs : List Int) (len : Nat) : List UInt8 := (zs.take len).map fun z => b8 z.toNat
theorem IsRow.arg {w : World} {a : Option Addr} {len cap : Nat} {zs : List Int} (h : IsRow .u8 w a len cap zs) (hl : len ≤ 1000000000000) : (rowOf zs len).length = len ∧ Arg w (.slice a len cap) (rowOf zs len) := by
  rcases h with ⟨rfl, rfl, rfl, rfl⟩ | ⟨x, rfl, h1, h2, h3, hc, hw⟩
  · exact ⟨rfl, none, 0, rfl, by simp [rowOf], by simp, by simp [rowOf], .inl ⟨rfl, rfl, rfl⟩⟩
  · have e : (rowOf zs len).length = len := by unfold rowOf; simp; omega
    refine ⟨e, some x, cap, by rw [e], by omega, h2, by omega, .inr ⟨x, rfl, fun j hj => ?_⟩⟩
    rw [e] at hj
    have hjz : j < zs.length := by omega
    have hb := wf_u8 (hw (zs.getD j 0) (by rw [List.getD, List.getElem?_eq_getElem hjz]; simp))
    rw [hc j hjz]
    have e2 : ((rowOf zs len)[j]'(by omega)) = b8 (zs.getD j 0).toNat := by
      unfold rowOf
      simp [List.getD, List.getElem?_eq_getElem hjz]
    rw [e2, b8_toNat (by omega)]
    congr 2
    omega
end Go.Proofs.Ytiicmakeoidiaaa
