/-
  No cell of these rows narrows 'for every input' (looked for: loops, veiled, ifaces, maps, wideKeys, modest, calm, conditions, laid).
  DERIVED. THE GIVEN ROWS OF THIS SEAT. 4 by the template 'for every input the law returns true; each argument reads behind the call as it read before'; 0 by the template 'total and deterministic' (their statements: YtndlfgjkfbdikaaTotals.lean).
  GIVEN WITH THE SEED: the statements are not yours to turn. If you find one false, say at which input.
  Laid BY PROGRAM, IN A SANDBOX (cutbox-rows.mjs): the forced cells as the released guide's own fill.sh prints them over the translation 0d0544bf72b2b4bf… (all of the seat's roots in one cut). By AI agents, Wed Nov 11 2026. No macro, syntax, notation, axiom, sorry.
-/
import Derived.Test.YtndlfgjkfbdikaaChecked
import GoSem.Claim
import GoSem.ClaimJoined
import GoSem.ClaimMapViews
import Derived.JoinedTies
import Derived.KernelRfl
namespace Go.Proofs.Ytndlfgjkfbdikaa
/- THE CELL 'sum', in the pinned program and in every row, IS THE sha256 OF THE DUMP (.gsa) THAT YtndlfgjkfbdikaaProg.lean LOADS. Nothing in Lean hashes anything: it is a label: what it is worth is what the hold of that sum in a sandbox is worth. -/
noncomputable def Try.pinned : Pinned := { name := "ytndlfgjkfbdikaa", sum := "0d0544bf72b2b4bff78445374185594228de09a69b5464e3f995644a8ff700fc", checked := Try.checked }
namespace Rows
def none {H : Type} : Left H := { results := [], args := [] }

/-- 'messuagelaw05.VmemPlays': WHATEVER THE INPUT: true; the input reads as it did. -/
def vmemPlaysSpec : ChangeSpec := { name := "vmemPlays", fn := fun _ => fun
  | [d1, d2] => { results := [.lit (.bool true)], args := [d1, d2] }
  | _ => none }
def vmemPlaysRow : OpenClaim := { program := "ytndlfgjkfbdikaa", sum := "0d0544bf72b2b4bff78445374185594228de09a69b5464e3f995644a8ff700fc", func := "messuage/messuagelaw05.VmemPlays", spec := "vmemPlays", unfollowed := true, recurses := true, apart := false }
def VmemPlaysSaid : Prop := vmemPlaysRow.holds Try.pinned (OpenSpec.ofChange vmemPlaysSpec)

/-- ITS FALSE NEIGHBOUR: 'it returns false'. Refute it at one input. -/
def vmemPlaysWrong : ChangeSpec := { name := "vmemPlays", fn := fun _ => fun
  | [d1, d2] => { results := [.lit (.bool false)], args := [d1, d2] }
  | _ => none }
def VmemPlaysWrongFalsely : Prop := vmemPlaysRow.holds Try.pinned (OpenSpec.ofChange vmemPlaysWrong)

/-- 'messuagelaw05.VmemCopies': WHATEVER THE INPUT: true; the input reads as it did. -/
def vmemCopiesSpec : ChangeSpec := { name := "vmemCopies", fn := fun _ => fun
  | [d1, d2, d3] => { results := [.lit (.bool true)], args := [d1, d2, d3] }
  | _ => none }
def vmemCopiesRow : OpenClaim := { program := "ytndlfgjkfbdikaa", sum := "0d0544bf72b2b4bff78445374185594228de09a69b5464e3f995644a8ff700fc", func := "messuage/messuagelaw05.VmemCopies", spec := "vmemCopies", unfollowed := true, recurses := true, apart := false }
def VmemCopiesSaid : Prop := vmemCopiesRow.holds Try.pinned (OpenSpec.ofChange vmemCopiesSpec)

/-- ITS FALSE NEIGHBOUR: 'it returns false'. Refute it at one input. -/
def vmemCopiesWrong : ChangeSpec := { name := "vmemCopies", fn := fun _ => fun
  | [d1, d2, d3] => { results := [.lit (.bool false)], args := [d1, d2, d3] }
  | _ => none }
def VmemCopiesWrongFalsely : Prop := vmemCopiesRow.holds Try.pinned (OpenSpec.ofChange vmemCopiesWrong)

/-- 'messuagelaw11.VersLists': WHATEVER THE INPUT: true; the input reads as it did. -/
def versListsSpec : ChangeSpec := { name := "versLists", fn := fun _ => fun
  | [d] => { results := [.lit (.bool true)], args := [d] }
  | _ => none }
def versListsRow : OpenClaim := { program := "ytndlfgjkfbdikaa", sum := "0d0544bf72b2b4bff78445374185594228de09a69b5464e3f995644a8ff700fc", func := "messuage/messuagelaw11.VersLists", spec := "versLists", inPlace := ["internal/bytealg.IndexByte"], unfollowed := true, recurses := true, apart := false }
def VersListsSaid : Prop := versListsRow.holds Try.pinned (OpenSpec.ofChange versListsSpec)

/-- ITS FALSE NEIGHBOUR: 'it returns false'. Refute it at one input. -/
def versListsWrong : ChangeSpec := { name := "versLists", fn := fun _ => fun
  | [d] => { results := [.lit (.bool false)], args := [d] }
  | _ => none }
def VersListsWrongFalsely : Prop := versListsRow.holds Try.pinned (OpenSpec.ofChange versListsWrong)

/-- 'messuagelaw11.VersPuts': WHATEVER THE INPUT: true; the input reads as it did. -/
def versPutsSpec : ChangeSpec := { name := "versPuts", fn := fun _ => fun
  | [d] => { results := [.lit (.bool true)], args := [d] }
  | _ => none }
def versPutsRow : OpenClaim := { program := "ytndlfgjkfbdikaa", sum := "0d0544bf72b2b4bff78445374185594228de09a69b5464e3f995644a8ff700fc", func := "messuage/messuagelaw11.VersPuts", spec := "versPuts", inPlace := ["internal/bytealg.IndexByte"], unfollowed := true, recurses := true, apart := false }
def VersPutsSaid : Prop := versPutsRow.holds Try.pinned (OpenSpec.ofChange versPutsSpec)

/-- ITS FALSE NEIGHBOUR: 'it returns false'. Refute it at one input. -/
def versPutsWrong : ChangeSpec := { name := "versPuts", fn := fun _ => fun
  | [d] => { results := [.lit (.bool false)], args := [d] }
  | _ => none }
def VersPutsWrongFalsely : Prop := versPutsRow.holds Try.pinned (OpenSpec.ofChange versPutsWrong)

/- THE SECOND FORM. 'bulk': how many values and letters a reading holds, each counted each time it is reached (what is shared counts as often as it is met; a slice's spare places count too). A statement '..UptoSaid' is the law's where the arguments, and the package variables that the reading takes, are together of bulk at most 1048576: NARROWER than '..Said'. Prove '..Said' where nothing that the law and all that it calls make is longer than what came in: it says more and counts as full. Else prove '..UptoSaid'. A law counts once. -/
mutual
def uptoBulk {H : Type} : DataW H → Nat
  | .lit (.string bytes) => bytes.length + 1
  | .lit _ => 1
  | .nil => 1
  | .ptr d => uptoBulk d + 1
  | .slice elems spare => uptoBulkAll elems + uptoBulkAll spare + 1
  | .agg parts => uptoBulkAll parts + 1
  | .iface _ d => uptoBulk d + 1
  | .map entries => uptoBulkEntries entries + 1
  | .held _ => 1
def uptoBulkAll {H : Type} : List (DataW H) → Nat
  | [] => 0
  | d :: r => uptoBulk d + uptoBulkAll r
def uptoBulkEntries {H : Type} : List (Lit × DataW H) → Nat
  | [] => 0
  | x :: r => uptoBulkEntry x + uptoBulkEntries r
def uptoBulkEntry {H : Type} : Lit × DataW H → Nat
  | (.string bytes, d) => bytes.length + uptoBulk d + 1
  | (_, d) => uptoBulk d + 1
 end
def uptoSmall : (H : Type) → List (DataW H) → Bool := fun _ ds => decide (uptoBulkAll ds ≤ 1048576)
def OpenSpec.upto (s : _root_.Go.ChangeSpec) : _root_.Go.OpenSpec := { _root_.Go.OpenSpec.ofChange s with cond := some uptoSmall }

/-- 'messuagelaw05.VmemPlays', WHERE WHAT IT READS IS OF BULK AT MOST 1048576: true; the input reads as it did. -/
def vmemPlaysUptoRow : OpenClaim := { program := "ytndlfgjkfbdikaa", sum := "0d0544bf72b2b4bff78445374185594228de09a69b5464e3f995644a8ff700fc", func := "messuage/messuagelaw05.VmemPlays", spec := "vmemPlays", unfollowed := true, recurses := true, apart := false, narrowed := true }
def VmemPlaysUptoSaid : Prop := vmemPlaysUptoRow.holds Try.pinned (OpenSpec.upto vmemPlaysSpec)

/-- 'messuagelaw05.VmemCopies', WHERE WHAT IT READS IS OF BULK AT MOST 1048576: true; the input reads as it did. -/
def vmemCopiesUptoRow : OpenClaim := { program := "ytndlfgjkfbdikaa", sum := "0d0544bf72b2b4bff78445374185594228de09a69b5464e3f995644a8ff700fc", func := "messuage/messuagelaw05.VmemCopies", spec := "vmemCopies", unfollowed := true, recurses := true, apart := false, narrowed := true }
def VmemCopiesUptoSaid : Prop := vmemCopiesUptoRow.holds Try.pinned (OpenSpec.upto vmemCopiesSpec)

/-- 'messuagelaw11.VersLists', WHERE WHAT IT READS IS OF BULK AT MOST 1048576: true; the input reads as it did. -/
def versListsUptoRow : OpenClaim := { program := "ytndlfgjkfbdikaa", sum := "0d0544bf72b2b4bff78445374185594228de09a69b5464e3f995644a8ff700fc", func := "messuage/messuagelaw11.VersLists", spec := "versLists", inPlace := ["internal/bytealg.IndexByte"], unfollowed := true, recurses := true, apart := false, narrowed := true }
def VersListsUptoSaid : Prop := versListsUptoRow.holds Try.pinned (OpenSpec.upto versListsSpec)

/-- 'messuagelaw11.VersPuts', WHERE WHAT IT READS IS OF BULK AT MOST 1048576: true; the input reads as it did. -/
def versPutsUptoRow : OpenClaim := { program := "ytndlfgjkfbdikaa", sum := "0d0544bf72b2b4bff78445374185594228de09a69b5464e3f995644a8ff700fc", func := "messuage/messuagelaw11.VersPuts", spec := "versPuts", inPlace := ["internal/bytealg.IndexByte"], unfollowed := true, recurses := true, apart := false, narrowed := true }
def VersPutsUptoSaid : Prop := versPutsUptoRow.holds Try.pinned (OpenSpec.upto versPutsSpec)

end Rows
end Go.Proofs.Ytndlfgjkfbdikaa
