/-
  DERIVED. GIVEN WITH THE SEED: THE CARDS: each row of YtmcefflgbliehaaDoorRows.lean that lists a variable, with what it lists TIED to the program's text (the seventh form; the later family's looks); each row that meets fmt, with fmt's text TOLD by the authors' own Lean function (tested against real Go, not proved from fmt's source: count such statements apart). THE CARD IS WHAT COUNTS. Prove the row's statement (the work); the ties are given (YtmcefflgbliehaaDoorTie.lean); close each card by the builder's one call (the guide's Derived/Test/ToyasCard.lean, 'card_holds'). Laid BY PROGRAM, IN A SANDBOX (cutbox-door.mjs). By AI agents, Wed Nov 11 2026. No macro, syntax, notation, axiom, sorry.
-/
import Derived.Test.YtmcefflgbliehaaDoorRows
import GoSem.ClaimSeven
namespace Go.Proofs.YtmcefflgbliehaaDoor
namespace Rows

/-- THE TIED CARD OF 'messuagelaw18.ConfReads'. -/
def confReadsCard : Claim7 := { stood := { row := confReadsRow, standIns := [], harness := (true, "eb07dbec49a8a1946eec2d17a25fdca3c68a579a6d3af342861f4b402f0f9484"), looks := false }, kinds := [], alts := [], laidByText := true, laidKinds := [.data, .pinned], laidTests := true, laidLooks := .later }
def ConfReadsCardSaid : Prop := Claim7.holds Tryd.pinned (.plain (OpenSpec.ofChange confReadsSpec)) confReadsCard

/-- THE TIED CARD OF 'messuagelaw18.ConfGets'. -/
def confGetsCard : Claim7 := { stood := { row := confGetsRow, standIns := [], harness := (true, "eb07dbec49a8a1946eec2d17a25fdca3c68a579a6d3af342861f4b402f0f9484"), looks := false }, kinds := [], alts := [], laidByText := true, laidKinds := [.data, .pinned], laidTests := true, laidLooks := .later }
def ConfGetsCardSaid : Prop := Claim7.holds Tryd.pinned (.plain (OpenSpec.ofChange confGetsSpec)) confGetsCard

/-- THE TIED CARD OF 'messuagelaw18.ConfExpands'. -/
def confExpandsCard : Claim7 := { stood := { row := confExpandsRow, standIns := [], harness := (true, "eb07dbec49a8a1946eec2d17a25fdca3c68a579a6d3af342861f4b402f0f9484"), looks := false }, kinds := [], alts := [], laidByText := true, laidKinds := [.data, .pinned], laidTests := true, laidLooks := .later }
def ConfExpandsCardSaid : Prop := Claim7.holds Tryd.pinned (.plain (OpenSpec.ofChange confExpandsSpec)) confExpandsCard

/-- THE TIED CARD OF 'messuagelaw18.ConfLast'. -/
def confLastCard : Claim7 := { stood := { row := confLastRow, standIns := [], harness := (true, "eb07dbec49a8a1946eec2d17a25fdca3c68a579a6d3af342861f4b402f0f9484"), looks := false }, kinds := [], alts := [], laidByText := true, laidKinds := [.data, .pinned], laidTests := true, laidLooks := .later }
def ConfLastCardSaid : Prop := Claim7.holds Tryd.pinned (.plain (OpenSpec.ofChange confLastSpec)) confLastCard

/-- THE TIED CARD OF 'messuagelaw18.ConfNotes'. -/
def confNotesCard : Claim7 := { stood := { row := confNotesRow, standIns := [], harness := (true, "eb07dbec49a8a1946eec2d17a25fdca3c68a579a6d3af342861f4b402f0f9484"), looks := false }, kinds := [], alts := [], laidByText := true, laidKinds := [.data, .pinned], laidTests := true, laidLooks := .later }
def ConfNotesCardSaid : Prop := Claim7.holds Tryd.pinned (.plain (OpenSpec.ofChange confNotesSpec)) confNotesCard

/-- THE SECOND FORM's CARD OF 'messuagelaw18.ConfReads'. -/
def confReadsUptoCard : Claim7 := { stood := { row := confReadsUptoRow, standIns := [], harness := (true, "eb07dbec49a8a1946eec2d17a25fdca3c68a579a6d3af342861f4b402f0f9484"), looks := false }, kinds := [], alts := [], laidByText := true, laidKinds := [.data, .pinned], laidTests := true, laidLooks := .later }
def ConfReadsUptoCardSaid : Prop := Claim7.holds Tryd.pinned (.plain (OpenSpec.upto confReadsSpec)) confReadsUptoCard

/-- THE SECOND FORM's CARD OF 'messuagelaw18.ConfGets'. -/
def confGetsUptoCard : Claim7 := { stood := { row := confGetsUptoRow, standIns := [], harness := (true, "eb07dbec49a8a1946eec2d17a25fdca3c68a579a6d3af342861f4b402f0f9484"), looks := false }, kinds := [], alts := [], laidByText := true, laidKinds := [.data, .pinned], laidTests := true, laidLooks := .later }
def ConfGetsUptoCardSaid : Prop := Claim7.holds Tryd.pinned (.plain (OpenSpec.upto confGetsSpec)) confGetsUptoCard

/-- THE SECOND FORM's CARD OF 'messuagelaw18.ConfExpands'. -/
def confExpandsUptoCard : Claim7 := { stood := { row := confExpandsUptoRow, standIns := [], harness := (true, "eb07dbec49a8a1946eec2d17a25fdca3c68a579a6d3af342861f4b402f0f9484"), looks := false }, kinds := [], alts := [], laidByText := true, laidKinds := [.data, .pinned], laidTests := true, laidLooks := .later }
def ConfExpandsUptoCardSaid : Prop := Claim7.holds Tryd.pinned (.plain (OpenSpec.upto confExpandsSpec)) confExpandsUptoCard

/-- THE SECOND FORM's CARD OF 'messuagelaw18.ConfLast'. -/
def confLastUptoCard : Claim7 := { stood := { row := confLastUptoRow, standIns := [], harness := (true, "eb07dbec49a8a1946eec2d17a25fdca3c68a579a6d3af342861f4b402f0f9484"), looks := false }, kinds := [], alts := [], laidByText := true, laidKinds := [.data, .pinned], laidTests := true, laidLooks := .later }
def ConfLastUptoCardSaid : Prop := Claim7.holds Tryd.pinned (.plain (OpenSpec.upto confLastSpec)) confLastUptoCard

/-- THE SECOND FORM's CARD OF 'messuagelaw18.ConfNotes'. -/
def confNotesUptoCard : Claim7 := { stood := { row := confNotesUptoRow, standIns := [], harness := (true, "eb07dbec49a8a1946eec2d17a25fdca3c68a579a6d3af342861f4b402f0f9484"), looks := false }, kinds := [], alts := [], laidByText := true, laidKinds := [.data, .pinned], laidTests := true, laidLooks := .later }
def ConfNotesUptoCardSaid : Prop := Claim7.holds Tryd.pinned (.plain (OpenSpec.upto confNotesSpec)) confNotesUptoCard
end Rows
end Go.Proofs.YtmcefflgbliehaaDoor
