/-
  No cell of these rows narrows 'for every input' (looked for: loops, veiled, ifaces, maps, wideKeys, modest, calm, conditions, laid).
  DERIVED. THE GIVEN ROWS OF THIS SEAT. 4 by the template 'for every input the law returns true; each argument reads behind the call as it read before'; 0 by the template 'total and deterministic' (their statements: YtkelipoiopkokaaTotals.lean).
  GIVEN WITH THE SEED: the statements are not yours to turn. If you find one false, say at which input.
  Laid BY PROGRAM, IN A SANDBOX (cutbox-rows.mjs): the forced cells as the released guide's own fill.sh prints them over the translation 8a739117b5c5e3df… (all of the seat's roots in one cut). By AI agents, Wed Nov 11 2026. No macro, syntax, notation, axiom, sorry.
-/
import Derived.Test.YtkelipoiopkokaaChecked
import GoSem.Claim
import GoSem.ClaimJoined
import GoSem.ClaimMapViews
import Derived.JoinedTies
import Derived.KernelRfl
namespace Go.Proofs.Ytkelipoiopkokaa
/- THE CELL 'sum', in the pinned program and in every row, IS THE sha256 OF THE DUMP (.gsa) THAT YtkelipoiopkokaaProg.lean LOADS. Nothing in Lean hashes anything: it is a label: what it is worth is what the hold of that sum in a sandbox is worth. -/
noncomputable def Try.pinned : Pinned := { name := "ytkelipoiopkokaa", sum := "8a739117b5c5e3df4eba06da1781864079597b08b40fa31907f6965e267444ba", checked := Try.checked }
namespace Rows
def none {H : Type} : Left H := { results := [], args := [] }

/-- 'messuagelaw12.RelsReads': WHATEVER THE INPUT: true; the input reads as it did. -/
def relsReadsSpec : ChangeSpec := { name := "relsReads", fn := fun _ => fun
  | [d1, d2] => { results := [.lit (.bool true)], args := [d1, d2] }
  | _ => none }
def relsReadsRow : OpenClaim := { program := "ytkelipoiopkokaa", sum := "8a739117b5c5e3df4eba06da1781864079597b08b40fa31907f6965e267444ba", func := "messuage/messuagelaw12.RelsReads", spec := "relsReads", apart := false }
def RelsReadsSaid : Prop := relsReadsRow.holds Try.pinned (OpenSpec.ofChange relsReadsSpec)

/-- ITS FALSE NEIGHBOUR: 'it returns false'. Refute it at one input. -/
def relsReadsWrong : ChangeSpec := { name := "relsReads", fn := fun _ => fun
  | [d1, d2] => { results := [.lit (.bool false)], args := [d1, d2] }
  | _ => none }
def RelsReadsWrongFalsely : Prop := relsReadsRow.holds Try.pinned (OpenSpec.ofChange relsReadsWrong)

/-- 'messuagelaw12.RelsWrites': WHATEVER THE INPUT: true; the input reads as it did. -/
def relsWritesSpec : ChangeSpec := { name := "relsWrites", fn := fun _ => fun
  | [d1, d2, d3] => { results := [.lit (.bool true)], args := [d1, d2, d3] }
  | _ => none }
def relsWritesRow : OpenClaim := { program := "ytkelipoiopkokaa", sum := "8a739117b5c5e3df4eba06da1781864079597b08b40fa31907f6965e267444ba", func := "messuage/messuagelaw12.RelsWrites", spec := "relsWrites", apart := false }
def RelsWritesSaid : Prop := relsWritesRow.holds Try.pinned (OpenSpec.ofChange relsWritesSpec)

/-- ITS FALSE NEIGHBOUR: 'it returns false'. Refute it at one input. -/
def relsWritesWrong : ChangeSpec := { name := "relsWrites", fn := fun _ => fun
  | [d1, d2, d3] => { results := [.lit (.bool false)], args := [d1, d2, d3] }
  | _ => none }
def RelsWritesWrongFalsely : Prop := relsWritesRow.holds Try.pinned (OpenSpec.ofChange relsWritesWrong)

/-- 'messuagelaw12.RelsBack': WHATEVER THE INPUT: true; the input reads as it did. -/
def relsBackSpec : ChangeSpec := { name := "relsBack", fn := fun _ => fun
  | [d1, d2, d3] => { results := [.lit (.bool true)], args := [d1, d2, d3] }
  | _ => none }
def relsBackRow : OpenClaim := { program := "ytkelipoiopkokaa", sum := "8a739117b5c5e3df4eba06da1781864079597b08b40fa31907f6965e267444ba", func := "messuage/messuagelaw12.RelsBack", spec := "relsBack", apart := false }
def RelsBackSaid : Prop := relsBackRow.holds Try.pinned (OpenSpec.ofChange relsBackSpec)

/-- ITS FALSE NEIGHBOUR: 'it returns false'. Refute it at one input. -/
def relsBackWrong : ChangeSpec := { name := "relsBack", fn := fun _ => fun
  | [d1, d2, d3] => { results := [.lit (.bool false)], args := [d1, d2, d3] }
  | _ => none }
def RelsBackWrongFalsely : Prop := relsBackRow.holds Try.pinned (OpenSpec.ofChange relsBackWrong)

/-- 'messuagelaw12.RelsJoin': WHATEVER THE INPUT: true; the input reads as it did. -/
def relsJoinSpec : ChangeSpec := { name := "relsJoin", fn := fun _ => fun
  | [d1, d2, d3] => { results := [.lit (.bool true)], args := [d1, d2, d3] }
  | _ => none }
def relsJoinRow : OpenClaim := { program := "ytkelipoiopkokaa", sum := "8a739117b5c5e3df4eba06da1781864079597b08b40fa31907f6965e267444ba", func := "messuage/messuagelaw12.RelsJoin", spec := "relsJoin", apart := false }
def RelsJoinSaid : Prop := relsJoinRow.holds Try.pinned (OpenSpec.ofChange relsJoinSpec)

/-- ITS FALSE NEIGHBOUR: 'it returns false'. Refute it at one input. -/
def relsJoinWrong : ChangeSpec := { name := "relsJoin", fn := fun _ => fun
  | [d1, d2, d3] => { results := [.lit (.bool false)], args := [d1, d2, d3] }
  | _ => none }
def RelsJoinWrongFalsely : Prop := relsJoinRow.holds Try.pinned (OpenSpec.ofChange relsJoinWrong)

/- THE SECOND FORM. 'bulk': how many values and letters a reading holds, each counted each time it is reached (what is shared counts as often as it is met; a slice's spare places count too). A statement '..UptoSaid' is the law's where the arguments, and the package variables that the reading takes, are together of bulk at most 1048576: NARROWER than '..Said'. Prove '..Said' where nothing that the law and all that it calls make is longer than what came in: it says more and counts as full. Else prove '..UptoSaid'. A law counts once. -/
mutual
def uptoBulk {H : Type} : DataW H → Nat
  | .lit (.string bytes) => bytes.length + 1
  | .lit _ => 1
  | .nil => 1
  | .ptr d => uptoBulk d + 1
  | .slice elems spare => uptoBulkAll elems + uptoBulkAll spare + 1
  | .agg parts => uptoBulkAll parts + 1
  | .iface _ d => uptoBulk d + 1
  | .map entries => uptoBulkEntries entries + 1
  | .held _ => 1
def uptoBulkAll {H : Type} : List (DataW H) → Nat
  | [] => 0
  | d :: r => uptoBulk d + uptoBulkAll r
def uptoBulkEntries {H : Type} : List (Lit × DataW H) → Nat
  | [] => 0
  | x :: r => uptoBulkEntry x + uptoBulkEntries r
def uptoBulkEntry {H : Type} : Lit × DataW H → Nat
  | (.string bytes, d) => bytes.length + uptoBulk d + 1
  | (_, d) => uptoBulk d + 1
 end
def uptoSmall : (H : Type) → List (DataW H) → Bool := fun _ ds => decide (uptoBulkAll ds ≤ 1048576)
def OpenSpec.upto (s : _root_.Go.ChangeSpec) : _root_.Go.OpenSpec := { _root_.Go.OpenSpec.ofChange s with cond := some uptoSmall }

/-- 'messuagelaw12.RelsReads', WHERE WHAT IT READS IS OF BULK AT MOST 1048576: true; the input reads as it did. -/
def relsReadsUptoRow : OpenClaim := { program := "ytkelipoiopkokaa", sum := "8a739117b5c5e3df4eba06da1781864079597b08b40fa31907f6965e267444ba", func := "messuage/messuagelaw12.RelsReads", spec := "relsReads", apart := false, narrowed := true }
def RelsReadsUptoSaid : Prop := relsReadsUptoRow.holds Try.pinned (OpenSpec.upto relsReadsSpec)

/-- 'messuagelaw12.RelsWrites', WHERE WHAT IT READS IS OF BULK AT MOST 1048576: true; the input reads as it did. -/
def relsWritesUptoRow : OpenClaim := { program := "ytkelipoiopkokaa", sum := "8a739117b5c5e3df4eba06da1781864079597b08b40fa31907f6965e267444ba", func := "messuage/messuagelaw12.RelsWrites", spec := "relsWrites", apart := false, narrowed := true }
def RelsWritesUptoSaid : Prop := relsWritesUptoRow.holds Try.pinned (OpenSpec.upto relsWritesSpec)

/-- 'messuagelaw12.RelsBack', WHERE WHAT IT READS IS OF BULK AT MOST 1048576: true; the input reads as it did. -/
def relsBackUptoRow : OpenClaim := { program := "ytkelipoiopkokaa", sum := "8a739117b5c5e3df4eba06da1781864079597b08b40fa31907f6965e267444ba", func := "messuage/messuagelaw12.RelsBack", spec := "relsBack", apart := false, narrowed := true }
def RelsBackUptoSaid : Prop := relsBackUptoRow.holds Try.pinned (OpenSpec.upto relsBackSpec)

/-- 'messuagelaw12.RelsJoin', WHERE WHAT IT READS IS OF BULK AT MOST 1048576: true; the input reads as it did. -/
def relsJoinUptoRow : OpenClaim := { program := "ytkelipoiopkokaa", sum := "8a739117b5c5e3df4eba06da1781864079597b08b40fa31907f6965e267444ba", func := "messuage/messuagelaw12.RelsJoin", spec := "relsJoin", apart := false, narrowed := true }
def RelsJoinUptoSaid : Prop := relsJoinUptoRow.holds Try.pinned (OpenSpec.upto relsJoinSpec)

end Rows
end Go.Proofs.Ytkelipoiopkokaa
