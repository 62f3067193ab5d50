/-
  DERIVED. GIVEN WITH THE SEED: THE CARDS: each row of YtkelipoiopkokabDoorRows.lean that lists a variable, with what it lists TIED to the program's text (the seventh form; the later family's looks); each row that meets fmt, with fmt's text TOLD by the authors' own Lean function (tested against real Go, not proved from fmt's source: count such statements apart). THE CARD IS WHAT COUNTS. Prove the row's statement (the work); the ties are given (YtkelipoiopkokabDoorTie.lean); close each card by the builder's one call (the guide's Derived/Test/ToyasCard.lean, 'card_holds'). Laid BY PROGRAM, IN A SANDBOX (cutbox-door.mjs). By AI agents, Wed Nov 11 2026. No macro, syntax, notation, axiom, sorry.
-/
import Derived.Test.YtkelipoiopkokabDoorRows
import GoSem.ClaimSeven
namespace Go.Proofs.YtkelipoiopkokabDoor
namespace Rows

/-- THE TIED CARD OF 'messuagelaw13.RelrBack'. -/
def relrBackCard : Claim7 := { stood := { row := relrBackRow, standIns := [], harness := (true, "73dd9be6a7915c435eec3f836ed95af60a08f854c12b8c88d264605d84a10de0"), looks := false }, kinds := [], alts := [], laidByText := true, laidKinds := [.data], laidTests := true, laidLooks := .later }
def RelrBackCardSaid : Prop := Claim7.holds Tryd.pinned (.plain (OpenSpec.ofChange relrBackSpec)) relrBackCard

/-- THE TIED CARD OF 'messuagelaw13.RelrRises'. -/
def relrRisesCard : Claim7 := { stood := { row := relrRisesRow, standIns := [], harness := (true, "73dd9be6a7915c435eec3f836ed95af60a08f854c12b8c88d264605d84a10de0"), looks := false }, kinds := [], alts := [], laidByText := true, laidKinds := [.data], laidTests := true, laidLooks := .later }
def RelrRisesCardSaid : Prop := Claim7.holds Tryd.pinned (.plain (OpenSpec.ofChange relrRisesSpec)) relrRisesCard

/-- THE TIED CARD OF 'messuagelaw13.RelrJoin'. -/
def relrJoinCard : Claim7 := { stood := { row := relrJoinRow, standIns := [], harness := (true, "73dd9be6a7915c435eec3f836ed95af60a08f854c12b8c88d264605d84a10de0"), looks := false }, kinds := [], alts := [], laidByText := true, laidKinds := [.data], laidTests := true, laidLooks := .later }
def RelrJoinCardSaid : Prop := Claim7.holds Tryd.pinned (.plain (OpenSpec.ofChange relrJoinSpec)) relrJoinCard

/-- THE TIED CARD OF 'messuagelaw13.RelrMoves'. -/
def relrMovesCard : Claim7 := { stood := { row := relrMovesRow, standIns := [], harness := (true, "73dd9be6a7915c435eec3f836ed95af60a08f854c12b8c88d264605d84a10de0"), looks := false }, kinds := [], alts := [], laidByText := true, laidKinds := [.data], laidTests := true, laidLooks := .later }
def RelrMovesCardSaid : Prop := Claim7.holds Tryd.pinned (.plain (OpenSpec.ofChange relrMovesSpec)) relrMovesCard

/-- THE SECOND FORM's CARD OF 'messuagelaw13.RelrBack'. -/
def relrBackUptoCard : Claim7 := { stood := { row := relrBackUptoRow, standIns := [], harness := (true, "73dd9be6a7915c435eec3f836ed95af60a08f854c12b8c88d264605d84a10de0"), looks := false }, kinds := [], alts := [], laidByText := true, laidKinds := [.data], laidTests := true, laidLooks := .later }
def RelrBackUptoCardSaid : Prop := Claim7.holds Tryd.pinned (.plain (OpenSpec.upto relrBackSpec)) relrBackUptoCard

/-- THE SECOND FORM's CARD OF 'messuagelaw13.RelrRises'. -/
def relrRisesUptoCard : Claim7 := { stood := { row := relrRisesUptoRow, standIns := [], harness := (true, "73dd9be6a7915c435eec3f836ed95af60a08f854c12b8c88d264605d84a10de0"), looks := false }, kinds := [], alts := [], laidByText := true, laidKinds := [.data], laidTests := true, laidLooks := .later }
def RelrRisesUptoCardSaid : Prop := Claim7.holds Tryd.pinned (.plain (OpenSpec.upto relrRisesSpec)) relrRisesUptoCard

/-- THE SECOND FORM's CARD OF 'messuagelaw13.RelrJoin'. -/
def relrJoinUptoCard : Claim7 := { stood := { row := relrJoinUptoRow, standIns := [], harness := (true, "73dd9be6a7915c435eec3f836ed95af60a08f854c12b8c88d264605d84a10de0"), looks := false }, kinds := [], alts := [], laidByText := true, laidKinds := [.data], laidTests := true, laidLooks := .later }
def RelrJoinUptoCardSaid : Prop := Claim7.holds Tryd.pinned (.plain (OpenSpec.upto relrJoinSpec)) relrJoinUptoCard

/-- THE SECOND FORM's CARD OF 'messuagelaw13.RelrMoves'. -/
def relrMovesUptoCard : Claim7 := { stood := { row := relrMovesUptoRow, standIns := [], harness := (true, "73dd9be6a7915c435eec3f836ed95af60a08f854c12b8c88d264605d84a10de0"), looks := false }, kinds := [], alts := [], laidByText := true, laidKinds := [.data], laidTests := true, laidLooks := .later }
def RelrMovesUptoCardSaid : Prop := Claim7.holds Tryd.pinned (.plain (OpenSpec.upto relrMovesSpec)) relrMovesUptoCard
end Rows
end Go.Proofs.YtkelipoiopkokabDoor
