/-
  No cell of these rows narrows 'for every input' (looked for: loops, veiled, ifaces, maps, wideKeys, modest, calm, conditions, laid).
  DERIVED. THE GIVEN ROWS OF THIS SEAT. 6 by the template 'for every input the law returns true; each argument reads behind the call as it read before'; 0 by the template 'total and deterministic' (their statements: YtipnjkemiopjiaaTotals.lean).
  GIVEN WITH THE SEED: the statements are not yours to turn. If you find one false, say at which input.
  Laid BY PROGRAM, IN A SANDBOX (cutbox-rows.mjs): the forced cells as the released guide's own fill.sh prints them over the translation 27a06ef696ad8f65… (all of the seat's roots in one cut). By AI agents, Wed Nov 11 2026. No macro, syntax, notation, axiom, sorry.
-/
import Derived.Test.YtipnjkemiopjiaaChecked
import GoSem.Claim
import GoSem.ClaimJoined
import GoSem.ClaimMapViews
import Derived.JoinedTies
import Derived.KernelRfl
namespace Go.Proofs.Ytipnjkemiopjiaa
/- THE CELL 'sum', in the pinned program and in every row, IS THE sha256 OF THE DUMP (.gsa) THAT YtipnjkemiopjiaaProg.lean LOADS. Nothing in Lean hashes anything: it is a label: what it is worth is what the hold of that sum in a sandbox is worth. -/
noncomputable def Try.pinned : Pinned := { name := "ytipnjkemiopjiaa", sum := "27a06ef696ad8f65c2759edfeab80c82b8433928b91c1649b51521fef91594f9", checked := Try.checked }
namespace Rows
def none {H : Type} : Left H := { results := [], args := [] }

/-- 'messuagelaw02.LeReads': WHATEVER THE INPUT: true; the input reads as it did. -/
def leReadsSpec : ChangeSpec := { name := "leReads", fn := fun _ => fun
  | [d1, d2, d3] => { results := [.lit (.bool true)], args := [d1, d2, d3] }
  | _ => none }
def leReadsRow : OpenClaim := { program := "ytipnjkemiopjiaa", sum := "27a06ef696ad8f65c2759edfeab80c82b8433928b91c1649b51521fef91594f9", func := "messuage/messuagelaw02.LeReads", spec := "leReads", inPlace := ["internal/bytealg.IndexByte"], apart := false }
def LeReadsSaid : Prop := leReadsRow.holds Try.pinned (OpenSpec.ofChange leReadsSpec)

/-- ITS FALSE NEIGHBOUR: 'it returns false'. Refute it at one input. -/
def leReadsWrong : ChangeSpec := { name := "leReads", fn := fun _ => fun
  | [d1, d2, d3] => { results := [.lit (.bool false)], args := [d1, d2, d3] }
  | _ => none }
def LeReadsWrongFalsely : Prop := leReadsRow.holds Try.pinned (OpenSpec.ofChange leReadsWrong)

/-- 'messuagelaw02.LeTexts': WHATEVER THE INPUT: true; the input reads as it did. -/
def leTextsSpec : ChangeSpec := { name := "leTexts", fn := fun _ => fun
  | [d1, d2, d3] => { results := [.lit (.bool true)], args := [d1, d2, d3] }
  | _ => none }
def leTextsRow : OpenClaim := { program := "ytipnjkemiopjiaa", sum := "27a06ef696ad8f65c2759edfeab80c82b8433928b91c1649b51521fef91594f9", func := "messuage/messuagelaw02.LeTexts", spec := "leTexts", inPlace := ["internal/bytealg.IndexByte"], apart := false }
def LeTextsSaid : Prop := leTextsRow.holds Try.pinned (OpenSpec.ofChange leTextsSpec)

/-- ITS FALSE NEIGHBOUR: 'it returns false'. Refute it at one input. -/
def leTextsWrong : ChangeSpec := { name := "leTexts", fn := fun _ => fun
  | [d1, d2, d3] => { results := [.lit (.bool false)], args := [d1, d2, d3] }
  | _ => none }
def LeTextsWrongFalsely : Prop := leTextsRow.holds Try.pinned (OpenSpec.ofChange leTextsWrong)

/-- 'messuagelaw02.LePuts': WHATEVER THE INPUT: true; the input reads as it did. -/
def lePutsSpec : ChangeSpec := { name := "lePuts", fn := fun _ => fun
  | [d] => { results := [.lit (.bool true)], args := [d] }
  | _ => none }
def lePutsRow : OpenClaim := { program := "ytipnjkemiopjiaa", sum := "27a06ef696ad8f65c2759edfeab80c82b8433928b91c1649b51521fef91594f9", func := "messuage/messuagelaw02.LePuts", spec := "lePuts", inPlace := ["internal/bytealg.IndexByte"], apart := false }
def LePutsSaid : Prop := lePutsRow.holds Try.pinned (OpenSpec.ofChange lePutsSpec)

/-- ITS FALSE NEIGHBOUR: 'it returns false'. Refute it at one input. -/
def lePutsWrong : ChangeSpec := { name := "lePuts", fn := fun _ => fun
  | [d] => { results := [.lit (.bool false)], args := [d] }
  | _ => none }
def LePutsWrongFalsely : Prop := lePutsRow.holds Try.pinned (OpenSpec.ofChange lePutsWrong)

/-- 'messuagelaw02.LeBack': WHATEVER THE INPUT: true; the input reads as it did. -/
def leBackSpec : ChangeSpec := { name := "leBack", fn := fun _ => fun
  | [d1, d2, d3] => { results := [.lit (.bool true)], args := [d1, d2, d3] }
  | _ => none }
def leBackRow : OpenClaim := { program := "ytipnjkemiopjiaa", sum := "27a06ef696ad8f65c2759edfeab80c82b8433928b91c1649b51521fef91594f9", func := "messuage/messuagelaw02.LeBack", spec := "leBack", inPlace := ["internal/bytealg.IndexByte"], apart := false }
def LeBackSaid : Prop := leBackRow.holds Try.pinned (OpenSpec.ofChange leBackSpec)

/-- ITS FALSE NEIGHBOUR: 'it returns false'. Refute it at one input. -/
def leBackWrong : ChangeSpec := { name := "leBack", fn := fun _ => fun
  | [d1, d2, d3] => { results := [.lit (.bool false)], args := [d1, d2, d3] }
  | _ => none }
def LeBackWrongFalsely : Prop := leBackRow.holds Try.pinned (OpenSpec.ofChange leBackWrong)

/-- 'messuagelaw02.LeBehind': WHATEVER THE INPUT: true; the input reads as it did. -/
def leBehindSpec : ChangeSpec := { name := "leBehind", fn := fun _ => fun
  | [d] => { results := [.lit (.bool true)], args := [d] }
  | _ => none }
def leBehindRow : OpenClaim := { program := "ytipnjkemiopjiaa", sum := "27a06ef696ad8f65c2759edfeab80c82b8433928b91c1649b51521fef91594f9", func := "messuage/messuagelaw02.LeBehind", spec := "leBehind", inPlace := ["internal/bytealg.IndexByte"], apart := false }
def LeBehindSaid : Prop := leBehindRow.holds Try.pinned (OpenSpec.ofChange leBehindSpec)

/-- ITS FALSE NEIGHBOUR: 'it returns false'. Refute it at one input. -/
def leBehindWrong : ChangeSpec := { name := "leBehind", fn := fun _ => fun
  | [d] => { results := [.lit (.bool false)], args := [d] }
  | _ => none }
def LeBehindWrongFalsely : Prop := leBehindRow.holds Try.pinned (OpenSpec.ofChange leBehindWrong)

/-- 'messuagelaw03.LebReads': WHATEVER THE INPUT: true; the input reads as it did. -/
def lebReadsSpec : ChangeSpec := { name := "lebReads", fn := fun _ => fun
  | [d1, d2] => { results := [.lit (.bool true)], args := [d1, d2] }
  | _ => none }
def lebReadsRow : OpenClaim := { program := "ytipnjkemiopjiaa", sum := "27a06ef696ad8f65c2759edfeab80c82b8433928b91c1649b51521fef91594f9", func := "messuage/messuagelaw03.LebReads", spec := "lebReads", apart := false }
def LebReadsSaid : Prop := lebReadsRow.holds Try.pinned (OpenSpec.ofChange lebReadsSpec)

/-- ITS FALSE NEIGHBOUR: 'it returns false'. Refute it at one input. -/
def lebReadsWrong : ChangeSpec := { name := "lebReads", fn := fun _ => fun
  | [d1, d2] => { results := [.lit (.bool false)], args := [d1, d2] }
  | _ => none }
def LebReadsWrongFalsely : Prop := lebReadsRow.holds Try.pinned (OpenSpec.ofChange lebReadsWrong)

/- THE SECOND FORM. 'bulk': how many values and letters a reading holds, each counted each time it is reached (what is shared counts as often as it is met; a slice's spare places count too). A statement '..UptoSaid' is the law's where the arguments, and the package variables that the reading takes, are together of bulk at most 1048576: NARROWER than '..Said'. Prove '..Said' where nothing that the law and all that it calls make is longer than what came in: it says more and counts as full. Else prove '..UptoSaid'. A law counts once. -/
mutual
def uptoBulk {H : Type} : DataW H → Nat
  | .lit (.string bytes) => bytes.length + 1
  | .lit _ => 1
  | .nil => 1
  | .ptr d => uptoBulk d + 1
  | .slice elems spare => uptoBulkAll elems + uptoBulkAll spare + 1
  | .agg parts => uptoBulkAll parts + 1
  | .iface _ d => uptoBulk d + 1
  | .map entries => uptoBulkEntries entries + 1
  | .held _ => 1
def uptoBulkAll {H : Type} : List (DataW H) → Nat
  | [] => 0
  | d :: r => uptoBulk d + uptoBulkAll r
def uptoBulkEntries {H : Type} : List (Lit × DataW H) → Nat
  | [] => 0
  | x :: r => uptoBulkEntry x + uptoBulkEntries r
def uptoBulkEntry {H : Type} : Lit × DataW H → Nat
  | (.string bytes, d) => bytes.length + uptoBulk d + 1
  | (_, d) => uptoBulk d + 1
 end
def uptoSmall : (H : Type) → List (DataW H) → Bool := fun _ ds => decide (uptoBulkAll ds ≤ 1048576)
def OpenSpec.upto (s : _root_.Go.ChangeSpec) : _root_.Go.OpenSpec := { _root_.Go.OpenSpec.ofChange s with cond := some uptoSmall }

/-- 'messuagelaw02.LeReads', WHERE WHAT IT READS IS OF BULK AT MOST 1048576: true; the input reads as it did. -/
def leReadsUptoRow : OpenClaim := { program := "ytipnjkemiopjiaa", sum := "27a06ef696ad8f65c2759edfeab80c82b8433928b91c1649b51521fef91594f9", func := "messuage/messuagelaw02.LeReads", spec := "leReads", inPlace := ["internal/bytealg.IndexByte"], apart := false, narrowed := true }
def LeReadsUptoSaid : Prop := leReadsUptoRow.holds Try.pinned (OpenSpec.upto leReadsSpec)

/-- 'messuagelaw02.LeTexts', WHERE WHAT IT READS IS OF BULK AT MOST 1048576: true; the input reads as it did. -/
def leTextsUptoRow : OpenClaim := { program := "ytipnjkemiopjiaa", sum := "27a06ef696ad8f65c2759edfeab80c82b8433928b91c1649b51521fef91594f9", func := "messuage/messuagelaw02.LeTexts", spec := "leTexts", inPlace := ["internal/bytealg.IndexByte"], apart := false, narrowed := true }
def LeTextsUptoSaid : Prop := leTextsUptoRow.holds Try.pinned (OpenSpec.upto leTextsSpec)

/-- 'messuagelaw02.LePuts', WHERE WHAT IT READS IS OF BULK AT MOST 1048576: true; the input reads as it did. -/
def lePutsUptoRow : OpenClaim := { program := "ytipnjkemiopjiaa", sum := "27a06ef696ad8f65c2759edfeab80c82b8433928b91c1649b51521fef91594f9", func := "messuage/messuagelaw02.LePuts", spec := "lePuts", inPlace := ["internal/bytealg.IndexByte"], apart := false, narrowed := true }
def LePutsUptoSaid : Prop := lePutsUptoRow.holds Try.pinned (OpenSpec.upto lePutsSpec)

/-- 'messuagelaw02.LeBack', WHERE WHAT IT READS IS OF BULK AT MOST 1048576: true; the input reads as it did. -/
def leBackUptoRow : OpenClaim := { program := "ytipnjkemiopjiaa", sum := "27a06ef696ad8f65c2759edfeab80c82b8433928b91c1649b51521fef91594f9", func := "messuage/messuagelaw02.LeBack", spec := "leBack", inPlace := ["internal/bytealg.IndexByte"], apart := false, narrowed := true }
def LeBackUptoSaid : Prop := leBackUptoRow.holds Try.pinned (OpenSpec.upto leBackSpec)

/-- 'messuagelaw02.LeBehind', WHERE WHAT IT READS IS OF BULK AT MOST 1048576: true; the input reads as it did. -/
def leBehindUptoRow : OpenClaim := { program := "ytipnjkemiopjiaa", sum := "27a06ef696ad8f65c2759edfeab80c82b8433928b91c1649b51521fef91594f9", func := "messuage/messuagelaw02.LeBehind", spec := "leBehind", inPlace := ["internal/bytealg.IndexByte"], apart := false, narrowed := true }
def LeBehindUptoSaid : Prop := leBehindUptoRow.holds Try.pinned (OpenSpec.upto leBehindSpec)

/-- 'messuagelaw03.LebReads', WHERE WHAT IT READS IS OF BULK AT MOST 1048576: true; the input reads as it did. -/
def lebReadsUptoRow : OpenClaim := { program := "ytipnjkemiopjiaa", sum := "27a06ef696ad8f65c2759edfeab80c82b8433928b91c1649b51521fef91594f9", func := "messuage/messuagelaw03.LebReads", spec := "lebReads", apart := false, narrowed := true }
def LebReadsUptoSaid : Prop := lebReadsUptoRow.holds Try.pinned (OpenSpec.upto lebReadsSpec)

end Rows
end Go.Proofs.Ytipnjkemiopjiaa
