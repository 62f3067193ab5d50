
/-
  Layer 8 (head): a part's end, and whether it may be; where bytes of memory stand.
-/
import Derived.Test.YtkelipoiopkokaaDoorHdB
set_option linter.unusedVariables false
namespace Go.Proofs.YtkelipoiopkokaaDoor
open Go.RowKit Go.PlainAid
theorem pow256_is : isPow 256 := ⟨8, by omega, by decide⟩
/-- The cells of what headers say. -/
def hdCells (m : Nat) (v : Value) (d r : Ph) : List Value := [.int .u16 m, v, .int .u32 d.type, .int .u32 d.flags, .int .u64 d.off, .int .u64 d.vaddr, .int .u64 d.filesz, .int .u64 d.memsz, .int .u64 d.align,
  .int .u32 r.type, .int .u32 r.flags, .int .u64 r.off, .int .u64 r.vaddr, .int .u64 r.filesz, .int .u64 r.memsz, .int .u64 r.align]
def offV (x : Nat × Bool) : Value := .tuple #[.int .u64 x.1, .bool x.2]
end Go.Proofs.YtkelipoiopkokaaDoor
