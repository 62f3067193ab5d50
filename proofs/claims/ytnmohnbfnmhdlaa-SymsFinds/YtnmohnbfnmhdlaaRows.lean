/-
  No cell of these rows narrows 'for every input' (looked for: loops, veiled, ifaces, maps, wideKeys, modest, calm, conditions, laid).
  DERIVED. THE GIVEN ROWS OF THIS SEAT. 6 by the template 'for every input the law returns true; each argument reads behind the call as it read before'; 0 by the template 'total and deterministic' (their statements: YtnmohnbfnmhdlaaTotals.lean).
  GIVEN WITH THE SEED: the statements are not yours to turn. If you find one false, say at which input.
  Laid BY PROGRAM, IN A SANDBOX (cutbox-rows.mjs): the forced cells as the released guide's own fill.sh prints them over the translation b8208dbf6cd555f3… (all of the seat's roots in one cut). By AI agents, Wed Nov 11 2026. No macro, syntax, notation, axiom, sorry.
-/
import Derived.Test.YtnmohnbfnmhdlaaChecked
import GoSem.Claim
import GoSem.ClaimJoined
import GoSem.ClaimMapViews
import Derived.JoinedTies
import Derived.KernelRfl
namespace Go.Proofs.Ytnmohnbfnmhdlaa
/- THE CELL 'sum', in the pinned program and in every row, IS THE sha256 OF THE DUMP (.gsa) THAT YtnmohnbfnmhdlaaProg.lean LOADS. Nothing in Lean hashes anything: it is a label: what it is worth is what the hold of that sum in a sandbox is worth. -/
noncomputable def Try.pinned : Pinned := { name := "ytnmohnbfnmhdlaa", sum := "b8208dbf6cd555f3b7b43bcfa2ec28f31061882d2ff8d614c6976bba59b4c125", checked := Try.checked }
namespace Rows
def none {H : Type} : Left H := { results := [], args := [] }

/-- 'messuagelaw10.SymsSums': WHATEVER THE INPUT: true; the input reads as it did. -/
def symsSumsSpec : ChangeSpec := { name := "symsSums", fn := fun _ => fun
  | [d] => { results := [.lit (.bool true)], args := [d] }
  | _ => none }
def symsSumsRow : OpenClaim := { program := "ytnmohnbfnmhdlaa", sum := "b8208dbf6cd555f3b7b43bcfa2ec28f31061882d2ff8d614c6976bba59b4c125", func := "messuage/messuagelaw10.SymsSums", spec := "symsSums", apart := false }
def SymsSumsSaid : Prop := symsSumsRow.holds Try.pinned (OpenSpec.ofChange symsSumsSpec)

/-- ITS FALSE NEIGHBOUR: 'it returns false'. Refute it at one input. -/
def symsSumsWrong : ChangeSpec := { name := "symsSums", fn := fun _ => fun
  | [d] => { results := [.lit (.bool false)], args := [d] }
  | _ => none }
def SymsSumsWrongFalsely : Prop := symsSumsRow.holds Try.pinned (OpenSpec.ofChange symsSumsWrong)

/-- 'messuagelaw10.SymsParses': WHATEVER THE INPUT: true; the input reads as it did. -/
def symsParsesSpec : ChangeSpec := { name := "symsParses", fn := fun _ => fun
  | [d] => { results := [.lit (.bool true)], args := [d] }
  | _ => none }
def symsParsesRow : OpenClaim := { program := "ytnmohnbfnmhdlaa", sum := "b8208dbf6cd555f3b7b43bcfa2ec28f31061882d2ff8d614c6976bba59b4c125", func := "messuage/messuagelaw10.SymsParses", spec := "symsParses", inPlace := ["internal/bytealg.IndexByte"], unfollowed := true, recurses := true, apart := false }
def SymsParsesSaid : Prop := symsParsesRow.holds Try.pinned (OpenSpec.ofChange symsParsesSpec)

/-- ITS FALSE NEIGHBOUR: 'it returns false'. Refute it at one input. -/
def symsParsesWrong : ChangeSpec := { name := "symsParses", fn := fun _ => fun
  | [d] => { results := [.lit (.bool false)], args := [d] }
  | _ => none }
def SymsParsesWrongFalsely : Prop := symsParsesRow.holds Try.pinned (OpenSpec.ofChange symsParsesWrong)

/-- 'messuagelaw10.SymsFinds': WHATEVER THE INPUT: true; the input reads as it did. -/
def symsFindsSpec : ChangeSpec := { name := "symsFinds", fn := fun _ => fun
  | [d1, d2] => { results := [.lit (.bool true)], args := [d1, d2] }
  | _ => none }
def symsFindsRow : OpenClaim := { program := "ytnmohnbfnmhdlaa", sum := "b8208dbf6cd555f3b7b43bcfa2ec28f31061882d2ff8d614c6976bba59b4c125", func := "messuage/messuagelaw10.SymsFinds", spec := "symsFinds", apart := false }
def SymsFindsSaid : Prop := symsFindsRow.holds Try.pinned (OpenSpec.ofChange symsFindsSpec)

/-- ITS FALSE NEIGHBOUR: 'it returns false'. Refute it at one input. -/
def symsFindsWrong : ChangeSpec := { name := "symsFinds", fn := fun _ => fun
  | [d1, d2] => { results := [.lit (.bool false)], args := [d1, d2] }
  | _ => none }
def SymsFindsWrongFalsely : Prop := symsFindsRow.holds Try.pinned (OpenSpec.ofChange symsFindsWrong)

/-- 'messuagelaw10.SymsFirst': WHATEVER THE INPUT: true; the input reads as it did. -/
def symsFirstSpec : ChangeSpec := { name := "symsFirst", fn := fun _ => fun
  | [d1, d2] => { results := [.lit (.bool true)], args := [d1, d2] }
  | _ => none }
def symsFirstRow : OpenClaim := { program := "ytnmohnbfnmhdlaa", sum := "b8208dbf6cd555f3b7b43bcfa2ec28f31061882d2ff8d614c6976bba59b4c125", func := "messuage/messuagelaw10.SymsFirst", spec := "symsFirst", apart := false }
def SymsFirstSaid : Prop := symsFirstRow.holds Try.pinned (OpenSpec.ofChange symsFirstSpec)

/-- ITS FALSE NEIGHBOUR: 'it returns false'. Refute it at one input. -/
def symsFirstWrong : ChangeSpec := { name := "symsFirst", fn := fun _ => fun
  | [d1, d2] => { results := [.lit (.bool false)], args := [d1, d2] }
  | _ => none }
def SymsFirstWrongFalsely : Prop := symsFirstRow.holds Try.pinned (OpenSpec.ofChange symsFirstWrong)

/-- 'messuagelaw10.SymsHad': WHATEVER THE INPUT: true; the input reads as it did. -/
def symsHadSpec : ChangeSpec := { name := "symsHad", fn := fun _ => fun
  | [d1, d2] => { results := [.lit (.bool true)], args := [d1, d2] }
  | _ => none }
def symsHadRow : OpenClaim := { program := "ytnmohnbfnmhdlaa", sum := "b8208dbf6cd555f3b7b43bcfa2ec28f31061882d2ff8d614c6976bba59b4c125", func := "messuage/messuagelaw10.SymsHad", spec := "symsHad", apart := false }
def SymsHadSaid : Prop := symsHadRow.holds Try.pinned (OpenSpec.ofChange symsHadSpec)

/-- ITS FALSE NEIGHBOUR: 'it returns false'. Refute it at one input. -/
def symsHadWrong : ChangeSpec := { name := "symsHad", fn := fun _ => fun
  | [d1, d2] => { results := [.lit (.bool false)], args := [d1, d2] }
  | _ => none }
def SymsHadWrongFalsely : Prop := symsHadRow.holds Try.pinned (OpenSpec.ofChange symsHadWrong)

/-- 'messuagelaw05.VmemPlays': WHATEVER THE INPUT: true; the input reads as it did. -/
def vmemPlaysSpec : ChangeSpec := { name := "vmemPlays", fn := fun _ => fun
  | [d1, d2] => { results := [.lit (.bool true)], args := [d1, d2] }
  | _ => none }
def vmemPlaysRow : OpenClaim := { program := "ytnmohnbfnmhdlaa", sum := "b8208dbf6cd555f3b7b43bcfa2ec28f31061882d2ff8d614c6976bba59b4c125", func := "messuage/messuagelaw05.VmemPlays", spec := "vmemPlays", unfollowed := true, recurses := true, apart := false }
def VmemPlaysSaid : Prop := vmemPlaysRow.holds Try.pinned (OpenSpec.ofChange vmemPlaysSpec)

/-- ITS FALSE NEIGHBOUR: 'it returns false'. Refute it at one input. -/
def vmemPlaysWrong : ChangeSpec := { name := "vmemPlays", fn := fun _ => fun
  | [d1, d2] => { results := [.lit (.bool false)], args := [d1, d2] }
  | _ => none }
def VmemPlaysWrongFalsely : Prop := vmemPlaysRow.holds Try.pinned (OpenSpec.ofChange vmemPlaysWrong)

/- THE SECOND FORM. 'bulk': how many values and letters a reading holds, each counted each time it is reached (what is shared counts as often as it is met; a slice's spare places count too). A statement '..UptoSaid' is the law's where the arguments, and the package variables that the reading takes, are together of bulk at most 1048576: NARROWER than '..Said'. Prove '..Said' where nothing that the law and all that it calls make is longer than what came in: it says more and counts as full. Else prove '..UptoSaid'. A law counts once. -/
mutual
def uptoBulk {H : Type} : DataW H → Nat
  | .lit (.string bytes) => bytes.length + 1
  | .lit _ => 1
  | .nil => 1
  | .ptr d => uptoBulk d + 1
  | .slice elems spare => uptoBulkAll elems + uptoBulkAll spare + 1
  | .agg parts => uptoBulkAll parts + 1
  | .iface _ d => uptoBulk d + 1
  | .map entries => uptoBulkEntries entries + 1
  | .held _ => 1
def uptoBulkAll {H : Type} : List (DataW H) → Nat
  | [] => 0
  | d :: r => uptoBulk d + uptoBulkAll r
def uptoBulkEntries {H : Type} : List (Lit × DataW H) → Nat
  | [] => 0
  | x :: r => uptoBulkEntry x + uptoBulkEntries r
def uptoBulkEntry {H : Type} : Lit × DataW H → Nat
  | (.string bytes, d) => bytes.length + uptoBulk d + 1
  | (_, d) => uptoBulk d + 1
 end
def uptoSmall : (H : Type) → List (DataW H) → Bool := fun _ ds => decide (uptoBulkAll ds ≤ 1048576)
def OpenSpec.upto (s : _root_.Go.ChangeSpec) : _root_.Go.OpenSpec := { _root_.Go.OpenSpec.ofChange s with cond := some uptoSmall }

/-- 'messuagelaw10.SymsSums', WHERE WHAT IT READS IS OF BULK AT MOST 1048576: true; the input reads as it did. -/
def symsSumsUptoRow : OpenClaim := { program := "ytnmohnbfnmhdlaa", sum := "b8208dbf6cd555f3b7b43bcfa2ec28f31061882d2ff8d614c6976bba59b4c125", func := "messuage/messuagelaw10.SymsSums", spec := "symsSums", apart := false, narrowed := true }
def SymsSumsUptoSaid : Prop := symsSumsUptoRow.holds Try.pinned (OpenSpec.upto symsSumsSpec)

/-- 'messuagelaw10.SymsParses', WHERE WHAT IT READS IS OF BULK AT MOST 1048576: true; the input reads as it did. -/
def symsParsesUptoRow : OpenClaim := { program := "ytnmohnbfnmhdlaa", sum := "b8208dbf6cd555f3b7b43bcfa2ec28f31061882d2ff8d614c6976bba59b4c125", func := "messuage/messuagelaw10.SymsParses", spec := "symsParses", inPlace := ["internal/bytealg.IndexByte"], unfollowed := true, recurses := true, apart := false, narrowed := true }
def SymsParsesUptoSaid : Prop := symsParsesUptoRow.holds Try.pinned (OpenSpec.upto symsParsesSpec)

/-- 'messuagelaw10.SymsFinds', WHERE WHAT IT READS IS OF BULK AT MOST 1048576: true; the input reads as it did. -/
def symsFindsUptoRow : OpenClaim := { program := "ytnmohnbfnmhdlaa", sum := "b8208dbf6cd555f3b7b43bcfa2ec28f31061882d2ff8d614c6976bba59b4c125", func := "messuage/messuagelaw10.SymsFinds", spec := "symsFinds", apart := false, narrowed := true }
def SymsFindsUptoSaid : Prop := symsFindsUptoRow.holds Try.pinned (OpenSpec.upto symsFindsSpec)

/-- 'messuagelaw10.SymsFirst', WHERE WHAT IT READS IS OF BULK AT MOST 1048576: true; the input reads as it did. -/
def symsFirstUptoRow : OpenClaim := { program := "ytnmohnbfnmhdlaa", sum := "b8208dbf6cd555f3b7b43bcfa2ec28f31061882d2ff8d614c6976bba59b4c125", func := "messuage/messuagelaw10.SymsFirst", spec := "symsFirst", apart := false, narrowed := true }
def SymsFirstUptoSaid : Prop := symsFirstUptoRow.holds Try.pinned (OpenSpec.upto symsFirstSpec)

/-- 'messuagelaw10.SymsHad', WHERE WHAT IT READS IS OF BULK AT MOST 1048576: true; the input reads as it did. -/
def symsHadUptoRow : OpenClaim := { program := "ytnmohnbfnmhdlaa", sum := "b8208dbf6cd555f3b7b43bcfa2ec28f31061882d2ff8d614c6976bba59b4c125", func := "messuage/messuagelaw10.SymsHad", spec := "symsHad", apart := false, narrowed := true }
def SymsHadUptoSaid : Prop := symsHadUptoRow.holds Try.pinned (OpenSpec.upto symsHadSpec)

/-- 'messuagelaw05.VmemPlays', WHERE WHAT IT READS IS OF BULK AT MOST 1048576: true; the input reads as it did. -/
def vmemPlaysUptoRow : OpenClaim := { program := "ytnmohnbfnmhdlaa", sum := "b8208dbf6cd555f3b7b43bcfa2ec28f31061882d2ff8d614c6976bba59b4c125", func := "messuage/messuagelaw05.VmemPlays", spec := "vmemPlays", unfollowed := true, recurses := true, apart := false, narrowed := true }
def VmemPlaysUptoSaid : Prop := vmemPlaysUptoRow.holds Try.pinned (OpenSpec.upto vmemPlaysSpec)

end Rows
end Go.Proofs.Ytnmohnbfnmhdlaa
