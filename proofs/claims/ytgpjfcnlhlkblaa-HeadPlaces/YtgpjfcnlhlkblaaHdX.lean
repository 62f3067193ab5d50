
/-
  Layer 8 (head): what Parse tells, as plain data; what is known of headers that are read.
-/
import Derived.Test.YtgpjfcnlhlkblaaHdW
set_option linter.unusedVariables false
namespace Go.Proofs.Ytgpjfcnlhlkblaa
open Go.RowKit Go.PlainAid Go.Sort
/-- What Parse tells, as one row of plain data. -/
def pM : Except Nat Hd → Nat | .error _ => 0 | .ok h => h.machine
def pL : Except Nat Hd → List Ph | .error _ => [] | .ok h => h.loads
def pD : Except Nat Hd → Ph | .error _ => noPh | .ok h => h.dynamic
def pR : Except Nat Hd → Ph | .error _ => noPh | .ok h => h.relro
def pE : Except Nat Hd → Nat | .error n => n | .ok _ => 0
theorem parse_get {w' : World} {B : Nat} {o : Except Nat Hd} {e : Ending} (h : ParseIs w' B o e) (hl : (pL o).length ≤ 16) :
    ∃ v, e = .returned (.tuple #[.agg (hdCells (pM o) v (pD o) (pR o)).toArray, .int .i64 (pE o)]) ∧ ArgH w' v (pL o) := by
  cases o with
  | error n => exact ⟨.slice none 0 0, h, ArgH.nil _⟩
  | ok hd =>
    obtain ⟨v, he, ho⟩ := h
    exact ⟨v, he, ho.arg (Nat.le_trans hl (by omega))⟩
theorem pL_len (l : List UInt8) : (pL (parseZ l)).length ≤ 16 := by
  cases h : parseZ l with
  | error n => simp [pL]
  | ok hd => exact (parse_ok h).2.2
theorem parse_small {l : List UInt8} {h : Hd} (e : parseZ l = .ok h) (hl : l.length ≤ 262144) : ∀ p ∈ h.loads, p.off + p.filesz ≤ 1000000 ∧ p.vaddr + p.memsz ≤ 16384 := fun p hp => by
  have h1 := (parse_ok e).1
  unfold loadsOk at h1
  rw [Bool.and_eq_true] at h1
  have h2 := loadsFrom_part _ _ _ h1.1 p hp
  unfold partOk insN at h2
  simp only [Bool.and_eq_true, decide_eq_true_eq] at h2
  omega
end Go.Proofs.Ytgpjfcnlhlkblaa
