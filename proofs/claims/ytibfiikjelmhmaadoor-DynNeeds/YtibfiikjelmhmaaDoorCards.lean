/-
  DERIVED. GIVEN WITH THE SEED: THE CARDS: each row of YtibfiikjelmhmaaDoorRows.lean that lists a variable, with what it lists TIED to the program's text (the seventh form; the later family's looks); each row that meets fmt, with fmt's text TOLD by the authors' own Lean function (tested against real Go, not proved from fmt's source: count such statements apart). THE CARD IS WHAT COUNTS. Prove the row's statement (the work); the ties are given (YtibfiikjelmhmaaDoorTie.lean); close each card by the builder's one call (the guide's Derived/Test/ToyasCard.lean, 'card_holds'). Laid BY PROGRAM, IN A SANDBOX (cutbox-door.mjs). By AI agents, Wed Nov 11 2026. No macro, syntax, notation, axiom, sorry.
-/
import Derived.Test.YtibfiikjelmhmaaDoorRows
import GoSem.ClaimSeven
namespace Go.Proofs.YtibfiikjelmhmaaDoor
namespace Rows

/-- THE TIED CARD OF 'messuagelaw09.DynParses'. -/
def dynParsesCard : Claim7 := { stood := { row := dynParsesRow, standIns := [], harness := (true, "83fddcb3719bfedc08d1e13579885b0f93280f0fdcdcace5d4e97655912a79fc"), looks := false }, kinds := [], alts := [], laidByText := true, laidKinds := [.data], laidTests := true, laidLooks := .later }
def DynParsesCardSaid : Prop := Claim7.holds Tryd.pinned (.plain (OpenSpec.ofChange dynParsesSpec)) dynParsesCard

/-- THE TIED CARD OF 'messuagelaw09.DynNeeds'. -/
def dynNeedsCard : Claim7 := { stood := { row := dynNeedsRow, standIns := [], harness := (true, "83fddcb3719bfedc08d1e13579885b0f93280f0fdcdcace5d4e97655912a79fc"), looks := false }, kinds := [], alts := [], laidByText := true, laidKinds := [.data], laidTests := true, laidLooks := .later }
def DynNeedsCardSaid : Prop := Claim7.holds Tryd.pinned (.plain (OpenSpec.ofChange dynNeedsSpec)) dynNeedsCard

/-- THE SECOND FORM's CARD OF 'messuagelaw09.DynParses'. -/
def dynParsesUptoCard : Claim7 := { stood := { row := dynParsesUptoRow, standIns := [], harness := (true, "83fddcb3719bfedc08d1e13579885b0f93280f0fdcdcace5d4e97655912a79fc"), looks := false }, kinds := [], alts := [], laidByText := true, laidKinds := [.data], laidTests := true, laidLooks := .later }
def DynParsesUptoCardSaid : Prop := Claim7.holds Tryd.pinned (.plain (OpenSpec.upto dynParsesSpec)) dynParsesUptoCard

/-- THE SECOND FORM's CARD OF 'messuagelaw09.DynNeeds'. -/
def dynNeedsUptoCard : Claim7 := { stood := { row := dynNeedsUptoRow, standIns := [], harness := (true, "83fddcb3719bfedc08d1e13579885b0f93280f0fdcdcace5d4e97655912a79fc"), looks := false }, kinds := [], alts := [], laidByText := true, laidKinds := [.data], laidTests := true, laidLooks := .later }
def DynNeedsUptoCardSaid : Prop := Claim7.holds Tryd.pinned (.plain (OpenSpec.upto dynNeedsSpec)) dynNeedsUptoCard
end Rows
end Go.Proofs.YtibfiikjelmhmaaDoor
