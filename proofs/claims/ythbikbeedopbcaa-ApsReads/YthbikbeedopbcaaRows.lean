/-
  No cell of these rows narrows 'for every input' (looked for: loops, veiled, ifaces, maps, wideKeys, modest, calm, conditions, laid).
  DERIVED. THE GIVEN ROWS OF THIS SEAT. 3 by the template 'for every input the law returns true; each argument reads behind the call as it read before'; 0 by the template 'total and deterministic' (their statements: YthbikbeedopbcaaTotals.lean).
  GIVEN WITH THE SEED: the statements are not yours to turn. If you find one false, say at which input.
  Laid BY PROGRAM, IN A SANDBOX (cutbox-rows.mjs): the forced cells as the released guide's own fill.sh prints them over the translation b44fc9107665d360… (all of the seat's roots in one cut). By AI agents, Wed Nov 11 2026. No macro, syntax, notation, axiom, sorry.
-/
import Derived.Test.YthbikbeedopbcaaChecked
import GoSem.Claim
import GoSem.ClaimJoined
import GoSem.ClaimMapViews
import Derived.JoinedTies
import Derived.KernelRfl
namespace Go.Proofs.Ythbikbeedopbcaa
/- THE CELL 'sum', in the pinned program and in every row, IS THE sha256 OF THE DUMP (.gsa) THAT YthbikbeedopbcaaProg.lean LOADS. Nothing in Lean hashes anything: it is a label: what it is worth is what the hold of that sum in a sandbox is worth. -/
noncomputable def Try.pinned : Pinned := { name := "ythbikbeedopbcaa", sum := "b44fc9107665d3604f46d4cf4704a2f3021f4eed27605f2a42295d658ceebac0", checked := Try.checked }
namespace Rows
def none {H : Type} : Left H := { results := [], args := [] }

/-- 'messuagelaw14.ApsReads': WHATEVER THE INPUT: true; the input reads as it did. -/
def apsReadsSpec : ChangeSpec := { name := "apsReads", fn := fun _ => fun
  | [d1, d2] => { results := [.lit (.bool true)], args := [d1, d2] }
  | _ => none }
def apsReadsRow : OpenClaim := { program := "ythbikbeedopbcaa", sum := "b44fc9107665d3604f46d4cf4704a2f3021f4eed27605f2a42295d658ceebac0", func := "messuage/messuagelaw14.ApsReads", spec := "apsReads", apart := false }
def ApsReadsSaid : Prop := apsReadsRow.holds Try.pinned (OpenSpec.ofChange apsReadsSpec)

/-- ITS FALSE NEIGHBOUR: 'it returns false'. Refute it at one input. -/
def apsReadsWrong : ChangeSpec := { name := "apsReads", fn := fun _ => fun
  | [d1, d2] => { results := [.lit (.bool false)], args := [d1, d2] }
  | _ => none }
def ApsReadsWrongFalsely : Prop := apsReadsRow.holds Try.pinned (OpenSpec.ofChange apsReadsWrong)

/-- 'messuagelaw14.ApsWrites': WHATEVER THE INPUT: true; the input reads as it did. -/
def apsWritesSpec : ChangeSpec := { name := "apsWrites", fn := fun _ => fun
  | [d1, d2] => { results := [.lit (.bool true)], args := [d1, d2] }
  | _ => none }
def apsWritesRow : OpenClaim := { program := "ythbikbeedopbcaa", sum := "b44fc9107665d3604f46d4cf4704a2f3021f4eed27605f2a42295d658ceebac0", func := "messuage/messuagelaw14.ApsWrites", spec := "apsWrites", apart := false }
def ApsWritesSaid : Prop := apsWritesRow.holds Try.pinned (OpenSpec.ofChange apsWritesSpec)

/-- ITS FALSE NEIGHBOUR: 'it returns false'. Refute it at one input. -/
def apsWritesWrong : ChangeSpec := { name := "apsWrites", fn := fun _ => fun
  | [d1, d2] => { results := [.lit (.bool false)], args := [d1, d2] }
  | _ => none }
def ApsWritesWrongFalsely : Prop := apsWritesRow.holds Try.pinned (OpenSpec.ofChange apsWritesWrong)

/-- 'messuagelaw14.ApsBack': WHATEVER THE INPUT: true; the input reads as it did. -/
def apsBackSpec : ChangeSpec := { name := "apsBack", fn := fun _ => fun
  | [d1, d2, d3] => { results := [.lit (.bool true)], args := [d1, d2, d3] }
  | _ => none }
def apsBackRow : OpenClaim := { program := "ythbikbeedopbcaa", sum := "b44fc9107665d3604f46d4cf4704a2f3021f4eed27605f2a42295d658ceebac0", func := "messuage/messuagelaw14.ApsBack", spec := "apsBack", apart := false }
def ApsBackSaid : Prop := apsBackRow.holds Try.pinned (OpenSpec.ofChange apsBackSpec)

/-- ITS FALSE NEIGHBOUR: 'it returns false'. Refute it at one input. -/
def apsBackWrong : ChangeSpec := { name := "apsBack", fn := fun _ => fun
  | [d1, d2, d3] => { results := [.lit (.bool false)], args := [d1, d2, d3] }
  | _ => none }
def ApsBackWrongFalsely : Prop := apsBackRow.holds Try.pinned (OpenSpec.ofChange apsBackWrong)

/- THE SECOND FORM. 'bulk': how many values and letters a reading holds, each counted each time it is reached (what is shared counts as often as it is met; a slice's spare places count too). A statement '..UptoSaid' is the law's where the arguments, and the package variables that the reading takes, are together of bulk at most 1048576: NARROWER than '..Said'. Prove '..Said' where nothing that the law and all that it calls make is longer than what came in: it says more and counts as full. Else prove '..UptoSaid'. A law counts once. -/
mutual
def uptoBulk {H : Type} : DataW H → Nat
  | .lit (.string bytes) => bytes.length + 1
  | .lit _ => 1
  | .nil => 1
  | .ptr d => uptoBulk d + 1
  | .slice elems spare => uptoBulkAll elems + uptoBulkAll spare + 1
  | .agg parts => uptoBulkAll parts + 1
  | .iface _ d => uptoBulk d + 1
  | .map entries => uptoBulkEntries entries + 1
  | .held _ => 1
def uptoBulkAll {H : Type} : List (DataW H) → Nat
  | [] => 0
  | d :: r => uptoBulk d + uptoBulkAll r
def uptoBulkEntries {H : Type} : List (Lit × DataW H) → Nat
  | [] => 0
  | x :: r => uptoBulkEntry x + uptoBulkEntries r
def uptoBulkEntry {H : Type} : Lit × DataW H → Nat
  | (.string bytes, d) => bytes.length + uptoBulk d + 1
  | (_, d) => uptoBulk d + 1
 end
def uptoSmall : (H : Type) → List (DataW H) → Bool := fun _ ds => decide (uptoBulkAll ds ≤ 1048576)
def OpenSpec.upto (s : _root_.Go.ChangeSpec) : _root_.Go.OpenSpec := { _root_.Go.OpenSpec.ofChange s with cond := some uptoSmall }

/-- 'messuagelaw14.ApsReads', WHERE WHAT IT READS IS OF BULK AT MOST 1048576: true; the input reads as it did. -/
def apsReadsUptoRow : OpenClaim := { program := "ythbikbeedopbcaa", sum := "b44fc9107665d3604f46d4cf4704a2f3021f4eed27605f2a42295d658ceebac0", func := "messuage/messuagelaw14.ApsReads", spec := "apsReads", apart := false, narrowed := true }
def ApsReadsUptoSaid : Prop := apsReadsUptoRow.holds Try.pinned (OpenSpec.upto apsReadsSpec)

/-- 'messuagelaw14.ApsWrites', WHERE WHAT IT READS IS OF BULK AT MOST 1048576: true; the input reads as it did. -/
def apsWritesUptoRow : OpenClaim := { program := "ythbikbeedopbcaa", sum := "b44fc9107665d3604f46d4cf4704a2f3021f4eed27605f2a42295d658ceebac0", func := "messuage/messuagelaw14.ApsWrites", spec := "apsWrites", apart := false, narrowed := true }
def ApsWritesUptoSaid : Prop := apsWritesUptoRow.holds Try.pinned (OpenSpec.upto apsWritesSpec)

/-- 'messuagelaw14.ApsBack', WHERE WHAT IT READS IS OF BULK AT MOST 1048576: true; the input reads as it did. -/
def apsBackUptoRow : OpenClaim := { program := "ythbikbeedopbcaa", sum := "b44fc9107665d3604f46d4cf4704a2f3021f4eed27605f2a42295d658ceebac0", func := "messuage/messuagelaw14.ApsBack", spec := "apsBack", apart := false, narrowed := true }
def ApsBackUptoSaid : Prop := apsBackUptoRow.holds Try.pinned (OpenSpec.upto apsBackSpec)

end Rows
end Go.Proofs.Ythbikbeedopbcaa
