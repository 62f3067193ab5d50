/-
  DERIVED. GIVEN WITH THE SEED: THE CARDS: each row of YtleejifhpgokiaaDoorRows.lean that lists a variable, with what it lists TIED to the program's text (the seventh form; the later family's looks); each row that meets fmt, with fmt's text TOLD by the authors' own Lean function (tested against real Go, not proved from fmt's source: count such statements apart). THE CARD IS WHAT COUNTS. Prove the row's statement (the work); the ties are given (YtleejifhpgokiaaDoorTie.lean); close each card by the builder's one call (the guide's Derived/Test/ToyasCard.lean, 'card_holds'). Laid BY PROGRAM, IN A SANDBOX (cutbox-door.mjs). By AI agents, Wed Nov 11 2026. No macro, syntax, notation, axiom, sorry.
-/
import Derived.Test.YtleejifhpgokiaaDoorRows
import GoSem.ClaimSeven
namespace Go.Proofs.YtleejifhpgokiaaDoor
namespace Rows

/-- THE TIED CARD OF 'messuagelaw06.VfsLeads'. -/
def vfsLeadsCard : Claim7 := { stood := { row := vfsLeadsRow, standIns := [], harness := (true, "a7eb2e7b05ced29e8ca615c7860188a0d6c16829fa131a224f90777978a0019e"), looks := false }, kinds := [], alts := [], laidByText := true, laidKinds := [.data, .pinned], laidTests := true, laidLooks := .later }
def VfsLeadsCardSaid : Prop := Claim7.holds Tryd.pinned (.plain (OpenSpec.ofChange vfsLeadsSpec)) vfsLeadsCard

/-- THE TIED CARD OF 'messuagelaw06.VfsReal'. -/
def vfsRealCard : Claim7 := { stood := { row := vfsRealRow, standIns := [], harness := (true, "a7eb2e7b05ced29e8ca615c7860188a0d6c16829fa131a224f90777978a0019e"), looks := false }, kinds := [], alts := [], laidByText := true, laidKinds := [.data, .pinned], laidTests := true, laidLooks := .later }
def VfsRealCardSaid : Prop := Claim7.holds Tryd.pinned (.plain (OpenSpec.ofChange vfsRealSpec)) vfsRealCard

/-- THE TIED CARD OF 'messuagelaw06.VfsOwn'. -/
def vfsOwnCard : Claim7 := { stood := { row := vfsOwnRow, standIns := [], harness := (true, "a7eb2e7b05ced29e8ca615c7860188a0d6c16829fa131a224f90777978a0019e"), looks := false }, kinds := [], alts := [], laidByText := true, laidKinds := [.data, .pinned], laidTests := true, laidLooks := .later }
def VfsOwnCardSaid : Prop := Claim7.holds Tryd.pinned (.plain (OpenSpec.ofChange vfsOwnSpec)) vfsOwnCard

/-- THE TIED CARD OF 'messuagelaw06.VfsOrder'. -/
def vfsOrderCard : Claim7 := { stood := { row := vfsOrderRow, standIns := [], harness := (true, "a7eb2e7b05ced29e8ca615c7860188a0d6c16829fa131a224f90777978a0019e"), looks := false }, kinds := [], alts := [], laidByText := true, laidKinds := [.data, .pinned], laidTests := true, laidLooks := .later }
def VfsOrderCardSaid : Prop := Claim7.holds Tryd.pinned (.plain (OpenSpec.ofChange vfsOrderSpec)) vfsOrderCard

/-- THE SECOND FORM's CARD OF 'messuagelaw06.VfsLeads'. -/
def vfsLeadsUptoCard : Claim7 := { stood := { row := vfsLeadsUptoRow, standIns := [], harness := (true, "a7eb2e7b05ced29e8ca615c7860188a0d6c16829fa131a224f90777978a0019e"), looks := false }, kinds := [], alts := [], laidByText := true, laidKinds := [.data, .pinned], laidTests := true, laidLooks := .later }
def VfsLeadsUptoCardSaid : Prop := Claim7.holds Tryd.pinned (.plain (OpenSpec.upto vfsLeadsSpec)) vfsLeadsUptoCard

/-- THE SECOND FORM's CARD OF 'messuagelaw06.VfsReal'. -/
def vfsRealUptoCard : Claim7 := { stood := { row := vfsRealUptoRow, standIns := [], harness := (true, "a7eb2e7b05ced29e8ca615c7860188a0d6c16829fa131a224f90777978a0019e"), looks := false }, kinds := [], alts := [], laidByText := true, laidKinds := [.data, .pinned], laidTests := true, laidLooks := .later }
def VfsRealUptoCardSaid : Prop := Claim7.holds Tryd.pinned (.plain (OpenSpec.upto vfsRealSpec)) vfsRealUptoCard

/-- THE SECOND FORM's CARD OF 'messuagelaw06.VfsOwn'. -/
def vfsOwnUptoCard : Claim7 := { stood := { row := vfsOwnUptoRow, standIns := [], harness := (true, "a7eb2e7b05ced29e8ca615c7860188a0d6c16829fa131a224f90777978a0019e"), looks := false }, kinds := [], alts := [], laidByText := true, laidKinds := [.data, .pinned], laidTests := true, laidLooks := .later }
def VfsOwnUptoCardSaid : Prop := Claim7.holds Tryd.pinned (.plain (OpenSpec.upto vfsOwnSpec)) vfsOwnUptoCard

/-- THE SECOND FORM's CARD OF 'messuagelaw06.VfsOrder'. -/
def vfsOrderUptoCard : Claim7 := { stood := { row := vfsOrderUptoRow, standIns := [], harness := (true, "a7eb2e7b05ced29e8ca615c7860188a0d6c16829fa131a224f90777978a0019e"), looks := false }, kinds := [], alts := [], laidByText := true, laidKinds := [.data, .pinned], laidTests := true, laidLooks := .later }
def VfsOrderUptoCardSaid : Prop := Claim7.holds Tryd.pinned (.plain (OpenSpec.upto vfsOrderSpec)) vfsOrderUptoCard
end Rows
end Go.Proofs.YtleejifhpgokiaaDoor
