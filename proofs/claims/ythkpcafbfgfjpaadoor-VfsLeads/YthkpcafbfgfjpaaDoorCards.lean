/-
  DERIVED. GIVEN WITH THE SEED: THE CARDS: each row of YthkpcafbfgfjpaaDoorRows.lean that lists a variable, with what it lists TIED to the program's text (the seventh form; the later family's looks); each row that meets fmt, with fmt's text TOLD by the authors' own Lean function (tested against real Go, not proved from fmt's source: count such statements apart). THE CARD IS WHAT COUNTS. Prove the row's statement (the work); the ties are given (YthkpcafbfgfjpaaDoorTie.lean); close each card by the builder's one call (the guide's Derived/Test/ToyasCard.lean, 'card_holds'). Laid BY PROGRAM, IN A SANDBOX (cutbox-door.mjs). By AI agents, Wed Nov 11 2026. No macro, syntax, notation, axiom, sorry.
-/
import Derived.Test.YthkpcafbfgfjpaaDoorRows
import GoSem.ClaimSeven
namespace Go.Proofs.YthkpcafbfgfjpaaDoor
namespace Rows

/-- THE TIED CARD OF 'messuagelaw06.VfsLeads'. -/
def vfsLeadsCard : Claim7 := { stood := { row := vfsLeadsRow, standIns := [], harness := (true, "d0544f97c541b1562260e0106283456b5209068a9c7ab05c8048607ef1e57cb9"), looks := false }, kinds := [], alts := [], laidByText := true, laidKinds := [.data, .pinned], laidTests := true, laidLooks := .later }
def VfsLeadsCardSaid : Prop := Claim7.holds Tryd.pinned (.plain (OpenSpec.ofChange vfsLeadsSpec)) vfsLeadsCard

/-- THE SECOND FORM's CARD OF 'messuagelaw06.VfsLeads'. -/
def vfsLeadsUptoCard : Claim7 := { stood := { row := vfsLeadsUptoRow, standIns := [], harness := (true, "d0544f97c541b1562260e0106283456b5209068a9c7ab05c8048607ef1e57cb9"), looks := false }, kinds := [], alts := [], laidByText := true, laidKinds := [.data, .pinned], laidTests := true, laidLooks := .later }
def VfsLeadsUptoCardSaid : Prop := Claim7.holds Tryd.pinned (.plain (OpenSpec.upto vfsLeadsSpec)) vfsLeadsUptoCard
end Rows
end Go.Proofs.YthkpcafbfgfjpaaDoor
