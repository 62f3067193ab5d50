/-
  DERIVED. GIVEN WITH THE SEED: THE CARDS: each row of YtobamanlfcnilabDoorRows.lean that lists a variable, with what it lists TIED to the program's text (the seventh form; the later family's looks); each row that meets fmt, with fmt's text TOLD by the authors' own Lean function (tested against real Go, not proved from fmt's source: count such statements apart). THE CARD IS WHAT COUNTS. Prove the row's statement (the work); the ties are given (YtobamanlfcnilabDoorTie.lean); close each card by the builder's one call (the guide's Derived/Test/ToyasCard.lean, 'card_holds'). Laid BY PROGRAM, IN A SANDBOX (cutbox-door.mjs). By AI agents, Wed Nov 11 2026. No macro, syntax, notation, axiom, sorry.
-/
import Derived.Test.YtobamanlfcnilabDoorRows
import GoSem.ClaimSeven
namespace Go.Proofs.YtobamanlfcnilabDoor
namespace Rows

/-- THE TIED CARD OF 'messuagelaw04.PathSlow'. -/
def pathSlowCard : Claim7 := { stood := { row := pathSlowRow, standIns := [], harness := (true, "9c08c2cb9dbfde85c607266586be4322027c23229bb01b2653dc26eca1849a85"), looks := false }, kinds := [], alts := [], laidByText := true, laidKinds := [.data, .pinned], laidTests := true, laidLooks := .later }
def PathSlowCardSaid : Prop := Claim7.holds Tryd.pinned (.plain (OpenSpec.ofChange pathSlowSpec)) pathSlowCard

/-- THE TIED CARD OF 'messuagelaw04.PathBelow'. -/
def pathBelowCard : Claim7 := { stood := { row := pathBelowRow, standIns := [], harness := (true, "9c08c2cb9dbfde85c607266586be4322027c23229bb01b2653dc26eca1849a85"), looks := false }, kinds := [], alts := [], laidByText := true, laidKinds := [.data, .pinned], laidTests := true, laidLooks := .later }
def PathBelowCardSaid : Prop := Claim7.holds Tryd.pinned (.plain (OpenSpec.ofChange pathBelowSpec)) pathBelowCard

/-- THE SECOND FORM's CARD OF 'messuagelaw04.PathSlow'. -/
def pathSlowUptoCard : Claim7 := { stood := { row := pathSlowUptoRow, standIns := [], harness := (true, "9c08c2cb9dbfde85c607266586be4322027c23229bb01b2653dc26eca1849a85"), looks := false }, kinds := [], alts := [], laidByText := true, laidKinds := [.data, .pinned], laidTests := true, laidLooks := .later }
def PathSlowUptoCardSaid : Prop := Claim7.holds Tryd.pinned (.plain (OpenSpec.upto pathSlowSpec)) pathSlowUptoCard

/-- THE SECOND FORM's CARD OF 'messuagelaw04.PathBelow'. -/
def pathBelowUptoCard : Claim7 := { stood := { row := pathBelowUptoRow, standIns := [], harness := (true, "9c08c2cb9dbfde85c607266586be4322027c23229bb01b2653dc26eca1849a85"), looks := false }, kinds := [], alts := [], laidByText := true, laidKinds := [.data, .pinned], laidTests := true, laidLooks := .later }
def PathBelowUptoCardSaid : Prop := Claim7.holds Tryd.pinned (.plain (OpenSpec.upto pathBelowSpec)) pathBelowUptoCard
end Rows
end Go.Proofs.YtobamanlfcnilabDoor
