/-
  No cell of these rows narrows 'for every input' (looked for: loops, veiled, ifaces, maps, wideKeys, modest, calm, conditions, laid).
  DERIVED. THE GIVEN ROWS OF THIS SEAT. 6 by the template 'for every input the law returns true; each argument reads behind the call as it read before'; 0 by the template 'total and deterministic' (their statements: YtgpjfcnlhlkblaaTotals.lean).
  GIVEN WITH THE SEED: the statements are not yours to turn. If you find one false, say at which input.
  Laid BY PROGRAM, IN A SANDBOX (cutbox-rows.mjs): the forced cells as the released guide's own fill.sh prints them over the translation 7269f930c30feecc… (all of the seat's roots in one cut). By AI agents, Wed Nov 11 2026. No macro, syntax, notation, axiom, sorry.
-/
import Derived.Test.YtgpjfcnlhlkblaaChecked
import GoSem.Claim
import GoSem.ClaimJoined
import GoSem.ClaimMapViews
import Derived.JoinedTies
import Derived.KernelRfl
namespace Go.Proofs.Ytgpjfcnlhlkblaa
/- THE CELL 'sum', in the pinned program and in every row, IS THE sha256 OF THE DUMP (.gsa) THAT YtgpjfcnlhlkblaaProg.lean LOADS. Nothing in Lean hashes anything: it is a label: what it is worth is what the hold of that sum in a sandbox is worth. -/
noncomputable def Try.pinned : Pinned := { name := "ytgpjfcnlhlkblaa", sum := "7269f930c30feeccdcdcb685febf2ac3e83ebc4526314f31bc44e751fde4f275", checked := Try.checked }
namespace Rows
def none {H : Type} : Left H := { results := [], args := [] }

/-- 'messuagelaw08.HeadTables': WHATEVER THE INPUT: true; the input reads as it did. -/
def headTablesSpec : ChangeSpec := { name := "headTables", fn := fun _ => fun
  | [d] => { results := [.lit (.bool true)], args := [d] }
  | _ => none }
def headTablesRow : OpenClaim := { program := "ytgpjfcnlhlkblaa", sum := "7269f930c30feeccdcdcb685febf2ac3e83ebc4526314f31bc44e751fde4f275", func := "messuage/messuagelaw08.HeadTables", spec := "headTables", apart := false }
def HeadTablesSaid : Prop := headTablesRow.holds Try.pinned (OpenSpec.ofChange headTablesSpec)

/-- ITS FALSE NEIGHBOUR: 'it returns false'. Refute it at one input. -/
def headTablesWrong : ChangeSpec := { name := "headTables", fn := fun _ => fun
  | [d] => { results := [.lit (.bool false)], args := [d] }
  | _ => none }
def HeadTablesWrongFalsely : Prop := headTablesRow.holds Try.pinned (OpenSpec.ofChange headTablesWrong)

/-- 'messuagelaw08.HeadParses': WHATEVER THE INPUT: true; the input reads as it did. -/
def headParsesSpec : ChangeSpec := { name := "headParses", fn := fun _ => fun
  | [d] => { results := [.lit (.bool true)], args := [d] }
  | _ => none }
def headParsesRow : OpenClaim := { program := "ytgpjfcnlhlkblaa", sum := "7269f930c30feeccdcdcb685febf2ac3e83ebc4526314f31bc44e751fde4f275", func := "messuage/messuagelaw08.HeadParses", spec := "headParses", apart := false }
def HeadParsesSaid : Prop := headParsesRow.holds Try.pinned (OpenSpec.ofChange headParsesSpec)

/-- ITS FALSE NEIGHBOUR: 'it returns false'. Refute it at one input. -/
def headParsesWrong : ChangeSpec := { name := "headParses", fn := fun _ => fun
  | [d] => { results := [.lit (.bool false)], args := [d] }
  | _ => none }
def HeadParsesWrongFalsely : Prop := headParsesRow.holds Try.pinned (OpenSpec.ofChange headParsesWrong)

/-- 'messuagelaw08.HeadPlaces': WHATEVER THE INPUT: true; the input reads as it did. -/
def headPlacesSpec : ChangeSpec := { name := "headPlaces", fn := fun _ => fun
  | [d1, d2, d3] => { results := [.lit (.bool true)], args := [d1, d2, d3] }
  | _ => none }
def headPlacesRow : OpenClaim := { program := "ytgpjfcnlhlkblaa", sum := "7269f930c30feeccdcdcb685febf2ac3e83ebc4526314f31bc44e751fde4f275", func := "messuage/messuagelaw08.HeadPlaces", spec := "headPlaces", apart := false }
def HeadPlacesSaid : Prop := headPlacesRow.holds Try.pinned (OpenSpec.ofChange headPlacesSpec)

/-- ITS FALSE NEIGHBOUR: 'it returns false'. Refute it at one input. -/
def headPlacesWrong : ChangeSpec := { name := "headPlaces", fn := fun _ => fun
  | [d1, d2, d3] => { results := [.lit (.bool false)], args := [d1, d2, d3] }
  | _ => none }
def HeadPlacesWrongFalsely : Prop := headPlacesRow.holds Try.pinned (OpenSpec.ofChange headPlacesWrong)

/-- 'messuagelaw08.HeadApart': WHATEVER THE INPUT: true; the input reads as it did. -/
def headApartSpec : ChangeSpec := { name := "headApart", fn := fun _ => fun
  | [d] => { results := [.lit (.bool true)], args := [d] }
  | _ => none }
def headApartRow : OpenClaim := { program := "ytgpjfcnlhlkblaa", sum := "7269f930c30feeccdcdcb685febf2ac3e83ebc4526314f31bc44e751fde4f275", func := "messuage/messuagelaw08.HeadApart", spec := "headApart", apart := false }
def HeadApartSaid : Prop := headApartRow.holds Try.pinned (OpenSpec.ofChange headApartSpec)

/-- ITS FALSE NEIGHBOUR: 'it returns false'. Refute it at one input. -/
def headApartWrong : ChangeSpec := { name := "headApart", fn := fun _ => fun
  | [d] => { results := [.lit (.bool false)], args := [d] }
  | _ => none }
def HeadApartWrongFalsely : Prop := headApartRow.holds Try.pinned (OpenSpec.ofChange headApartWrong)

/-- 'messuagelaw08.HeadOnly': WHATEVER THE INPUT: true; the input reads as it did. -/
def headOnlySpec : ChangeSpec := { name := "headOnly", fn := fun _ => fun
  | [d1, d2, d3] => { results := [.lit (.bool true)], args := [d1, d2, d3] }
  | _ => none }
def headOnlyRow : OpenClaim := { program := "ytgpjfcnlhlkblaa", sum := "7269f930c30feeccdcdcb685febf2ac3e83ebc4526314f31bc44e751fde4f275", func := "messuage/messuagelaw08.HeadOnly", spec := "headOnly", apart := false }
def HeadOnlySaid : Prop := headOnlyRow.holds Try.pinned (OpenSpec.ofChange headOnlySpec)

/-- ITS FALSE NEIGHBOUR: 'it returns false'. Refute it at one input. -/
def headOnlyWrong : ChangeSpec := { name := "headOnly", fn := fun _ => fun
  | [d1, d2, d3] => { results := [.lit (.bool false)], args := [d1, d2, d3] }
  | _ => none }
def HeadOnlyWrongFalsely : Prop := headOnlyRow.holds Try.pinned (OpenSpec.ofChange headOnlyWrong)

/-- 'messuagelaw09.DynEntries': WHATEVER THE INPUT: true; the input reads as it did. -/
def dynEntriesSpec : ChangeSpec := { name := "dynEntries", fn := fun _ => fun
  | [d] => { results := [.lit (.bool true)], args := [d] }
  | _ => none }
def dynEntriesRow : OpenClaim := { program := "ytgpjfcnlhlkblaa", sum := "7269f930c30feeccdcdcb685febf2ac3e83ebc4526314f31bc44e751fde4f275", func := "messuage/messuagelaw09.DynEntries", spec := "dynEntries", apart := false }
def DynEntriesSaid : Prop := dynEntriesRow.holds Try.pinned (OpenSpec.ofChange dynEntriesSpec)

/-- ITS FALSE NEIGHBOUR: 'it returns false'. Refute it at one input. -/
def dynEntriesWrong : ChangeSpec := { name := "dynEntries", fn := fun _ => fun
  | [d] => { results := [.lit (.bool false)], args := [d] }
  | _ => none }
def DynEntriesWrongFalsely : Prop := dynEntriesRow.holds Try.pinned (OpenSpec.ofChange dynEntriesWrong)

/- THE SECOND FORM. 'bulk': how many values and letters a reading holds, each counted each time it is reached (what is shared counts as often as it is met; a slice's spare places count too). A statement '..UptoSaid' is the law's where the arguments, and the package variables that the reading takes, are together of bulk at most 1048576: NARROWER than '..Said'. Prove '..Said' where nothing that the law and all that it calls make is longer than what came in: it says more and counts as full. Else prove '..UptoSaid'. A law counts once. -/
mutual
def uptoBulk {H : Type} : DataW H → Nat
  | .lit (.string bytes) => bytes.length + 1
  | .lit _ => 1
  | .nil => 1
  | .ptr d => uptoBulk d + 1
  | .slice elems spare => uptoBulkAll elems + uptoBulkAll spare + 1
  | .agg parts => uptoBulkAll parts + 1
  | .iface _ d => uptoBulk d + 1
  | .map entries => uptoBulkEntries entries + 1
  | .held _ => 1
def uptoBulkAll {H : Type} : List (DataW H) → Nat
  | [] => 0
  | d :: r => uptoBulk d + uptoBulkAll r
def uptoBulkEntries {H : Type} : List (Lit × DataW H) → Nat
  | [] => 0
  | x :: r => uptoBulkEntry x + uptoBulkEntries r
def uptoBulkEntry {H : Type} : Lit × DataW H → Nat
  | (.string bytes, d) => bytes.length + uptoBulk d + 1
  | (_, d) => uptoBulk d + 1
 end
def uptoSmall : (H : Type) → List (DataW H) → Bool := fun _ ds => decide (uptoBulkAll ds ≤ 1048576)
def OpenSpec.upto (s : _root_.Go.ChangeSpec) : _root_.Go.OpenSpec := { _root_.Go.OpenSpec.ofChange s with cond := some uptoSmall }

/-- 'messuagelaw08.HeadTables', WHERE WHAT IT READS IS OF BULK AT MOST 1048576: true; the input reads as it did. -/
def headTablesUptoRow : OpenClaim := { program := "ytgpjfcnlhlkblaa", sum := "7269f930c30feeccdcdcb685febf2ac3e83ebc4526314f31bc44e751fde4f275", func := "messuage/messuagelaw08.HeadTables", spec := "headTables", apart := false, narrowed := true }
def HeadTablesUptoSaid : Prop := headTablesUptoRow.holds Try.pinned (OpenSpec.upto headTablesSpec)

/-- 'messuagelaw08.HeadParses', WHERE WHAT IT READS IS OF BULK AT MOST 1048576: true; the input reads as it did. -/
def headParsesUptoRow : OpenClaim := { program := "ytgpjfcnlhlkblaa", sum := "7269f930c30feeccdcdcb685febf2ac3e83ebc4526314f31bc44e751fde4f275", func := "messuage/messuagelaw08.HeadParses", spec := "headParses", apart := false, narrowed := true }
def HeadParsesUptoSaid : Prop := headParsesUptoRow.holds Try.pinned (OpenSpec.upto headParsesSpec)

/-- 'messuagelaw08.HeadPlaces', WHERE WHAT IT READS IS OF BULK AT MOST 1048576: true; the input reads as it did. -/
def headPlacesUptoRow : OpenClaim := { program := "ytgpjfcnlhlkblaa", sum := "7269f930c30feeccdcdcb685febf2ac3e83ebc4526314f31bc44e751fde4f275", func := "messuage/messuagelaw08.HeadPlaces", spec := "headPlaces", apart := false, narrowed := true }
def HeadPlacesUptoSaid : Prop := headPlacesUptoRow.holds Try.pinned (OpenSpec.upto headPlacesSpec)

/-- 'messuagelaw08.HeadApart', WHERE WHAT IT READS IS OF BULK AT MOST 1048576: true; the input reads as it did. -/
def headApartUptoRow : OpenClaim := { program := "ytgpjfcnlhlkblaa", sum := "7269f930c30feeccdcdcb685febf2ac3e83ebc4526314f31bc44e751fde4f275", func := "messuage/messuagelaw08.HeadApart", spec := "headApart", apart := false, narrowed := true }
def HeadApartUptoSaid : Prop := headApartUptoRow.holds Try.pinned (OpenSpec.upto headApartSpec)

/-- 'messuagelaw08.HeadOnly', WHERE WHAT IT READS IS OF BULK AT MOST 1048576: true; the input reads as it did. -/
def headOnlyUptoRow : OpenClaim := { program := "ytgpjfcnlhlkblaa", sum := "7269f930c30feeccdcdcb685febf2ac3e83ebc4526314f31bc44e751fde4f275", func := "messuage/messuagelaw08.HeadOnly", spec := "headOnly", apart := false, narrowed := true }
def HeadOnlyUptoSaid : Prop := headOnlyUptoRow.holds Try.pinned (OpenSpec.upto headOnlySpec)

/-- 'messuagelaw09.DynEntries', WHERE WHAT IT READS IS OF BULK AT MOST 1048576: true; the input reads as it did. -/
def dynEntriesUptoRow : OpenClaim := { program := "ytgpjfcnlhlkblaa", sum := "7269f930c30feeccdcdcb685febf2ac3e83ebc4526314f31bc44e751fde4f275", func := "messuage/messuagelaw09.DynEntries", spec := "dynEntries", apart := false, narrowed := true }
def DynEntriesUptoSaid : Prop := dynEntriesUptoRow.holds Try.pinned (OpenSpec.upto dynEntriesSpec)

end Rows
end Go.Proofs.Ytgpjfcnlhlkblaa
