/-
  DERIVED. GIVEN WITH THE SEED: THE CARDS: each row of YtkelipoiopkokaaDoorRows.lean that lists a variable, with what it lists TIED to the program's text (the seventh form; the later family's looks); each row that meets fmt, with fmt's text TOLD by the authors' own Lean function (tested against real Go, not proved from fmt's source: count such statements apart). THE CARD IS WHAT COUNTS. Prove the row's statement (the work); the ties are given (YtkelipoiopkokaaDoorTie.lean); close each card by the builder's one call (the guide's Derived/Test/ToyasCard.lean, 'card_holds'). Laid BY PROGRAM, IN A SANDBOX (cutbox-door.mjs). By AI agents, Wed Nov 11 2026. No macro, syntax, notation, axiom, sorry.
-/
import Derived.Test.YtkelipoiopkokaaDoorRows
import GoSem.ClaimSeven
namespace Go.Proofs.YtkelipoiopkokaaDoor
namespace Rows

/-- THE TIED CARD OF 'messuagelaw13.RelrReads'. -/
def relrReadsCard : Claim7 := { stood := { row := relrReadsRow, standIns := [], harness := (true, "60496cfbdc6660834f5f911938d26717a5a018324f6b8d3d9309a664f127f0d5"), looks := false }, kinds := [], alts := [], laidByText := true, laidKinds := [.data], laidTests := true, laidLooks := .later }
def RelrReadsCardSaid : Prop := Claim7.holds Tryd.pinned (.plain (OpenSpec.ofChange relrReadsSpec)) relrReadsCard

/-- THE TIED CARD OF 'messuagelaw13.RelrWrites'. -/
def relrWritesCard : Claim7 := { stood := { row := relrWritesRow, standIns := [], harness := (true, "60496cfbdc6660834f5f911938d26717a5a018324f6b8d3d9309a664f127f0d5"), looks := false }, kinds := [], alts := [], laidByText := true, laidKinds := [.data], laidTests := true, laidLooks := .later }
def RelrWritesCardSaid : Prop := Claim7.holds Tryd.pinned (.plain (OpenSpec.ofChange relrWritesSpec)) relrWritesCard

/-- THE SECOND FORM's CARD OF 'messuagelaw13.RelrReads'. -/
def relrReadsUptoCard : Claim7 := { stood := { row := relrReadsUptoRow, standIns := [], harness := (true, "60496cfbdc6660834f5f911938d26717a5a018324f6b8d3d9309a664f127f0d5"), looks := false }, kinds := [], alts := [], laidByText := true, laidKinds := [.data], laidTests := true, laidLooks := .later }
def RelrReadsUptoCardSaid : Prop := Claim7.holds Tryd.pinned (.plain (OpenSpec.upto relrReadsSpec)) relrReadsUptoCard

/-- THE SECOND FORM's CARD OF 'messuagelaw13.RelrWrites'. -/
def relrWritesUptoCard : Claim7 := { stood := { row := relrWritesUptoRow, standIns := [], harness := (true, "60496cfbdc6660834f5f911938d26717a5a018324f6b8d3d9309a664f127f0d5"), looks := false }, kinds := [], alts := [], laidByText := true, laidKinds := [.data], laidTests := true, laidLooks := .later }
def RelrWritesUptoCardSaid : Prop := Claim7.holds Tryd.pinned (.plain (OpenSpec.upto relrWritesSpec)) relrWritesUptoCard
end Rows
end Go.Proofs.YtkelipoiopkokaaDoor
