/-
  NARROWER THAN 'FOR EVERY INPUT', by the rows' own cells (each row's printed sentence says how): DynParses: laid · DynNeeds: laid.
  DERIVED. THE GIVEN ROWS OF THIS SEAT. 2 by the template 'for every input the law returns true; each argument reads behind the call as it read before'; 0 by the template 'total and deterministic' (their statements: YtibfiikjelmhmaaDoorTotals.lean).
  GIVEN WITH THE SEED: the statements are not yours to turn. If you find one false, say at which input.
  Laid BY PROGRAM, IN A SANDBOX (cutbox-rows.mjs): the forced cells as the released guide's own fill.sh prints them over the translation 9192b9397585bd45… (all of the seat's roots in one cut). By AI agents, Wed Nov 11 2026. No macro, syntax, notation, axiom, sorry.
-/
import Derived.Test.YtibfiikjelmhmaaDoorChecked
import GoSem.Claim
import GoSem.ClaimJoined
import GoSem.ClaimMapViews
import Derived.JoinedTies
import Derived.KernelRfl
namespace Go.Proofs.YtibfiikjelmhmaaDoor
/- THE CELL 'sum', in the pinned program and in every row, IS THE sha256 OF THE DUMP (.gsa) THAT YtibfiikjelmhmaaDoorProg.lean LOADS. Nothing in Lean hashes anything: it is a label: what it is worth is what the hold of that sum in a sandbox is worth. -/
noncomputable def Tryd.pinned : Pinned := { name := "ytibfiikjelmhmaadoor", sum := "9192b9397585bd45a3c31ddd619ec03835d0e3a22602ed786647f338f938e924", checked := Tryd.checked }
namespace Rows
def none {H : Type} : Left H := { results := [], args := [] }

/- WHAT THE LISTED PACKAGE-LEVEL VARIABLES READ AS WHEN THE CALL BEGINS. Each datum BY PROGRAM (the guide's laid-datum.mjs) off the statement by which the dump's own 'gosem.cut.vars' lays the variable. In a bare row this is a premise. The card (YtibfiikjelmhmaaDoorCards.lean) ties it to the program's text. -/
def laid_messuage_dyn_pairs {H : Type} : DataW H := .agg [.agg [.lit (.int .u64 5), .lit (.int .u64 10)], .agg [.lit (.int .u64 17), .lit (.int .u64 18)], .agg [.lit (.int .u64 7), .lit (.int .u64 8)], .agg [.lit (.int .u64 23), .lit (.int .u64 2)], .agg [.lit (.int .u64 23), .lit (.int .u64 20)], .agg [.lit (.int .u64 36), .lit (.int .u64 35)], .agg [.lit (.int .u64 1610612751), .lit (.int .u64 1610612752)], .agg [.lit (.int .u64 1610612753), .lit (.int .u64 1610612754)], .agg [.lit (.int .u64 25), .lit (.int .u64 27)], .agg [.lit (.int .u64 26), .lit (.int .u64 28)], .agg [.lit (.int .u64 1879048188), .lit (.int .u64 1879048189)], .agg [.lit (.int .u64 1879048190), .lit (.int .u64 1879048191)]]

/-- 'messuagelaw09.DynParses': WHATEVER THE INPUT: true; the input reads as it did. -/
def dynParsesSpec : ChangeSpec := { name := "dynParses", fn := fun _ => fun
  | [d] => { results := [.lit (.bool true)], args := [d] }
  | _ => none }
def dynParsesRow : OpenClaim := { program := "ytibfiikjelmhmaadoor", sum := "9192b9397585bd45a3c31ddd619ec03835d0e3a22602ed786647f338f938e924", func := "messuage/messuagelaw09.DynParses", spec := "dynParses", inPlace := ["internal/bytealg.IndexByte"], named := ["messuage/dyn.pairs"], apart := false, laid := [("messuage/dyn.pairs", laid_messuage_dyn_pairs)] }
def DynParsesSaid : Prop := dynParsesRow.holds Tryd.pinned (OpenSpec.ofChange dynParsesSpec)

/-- ITS FALSE NEIGHBOUR: 'it returns false'. Refute it at one input. -/
def dynParsesWrong : ChangeSpec := { name := "dynParses", fn := fun _ => fun
  | [d] => { results := [.lit (.bool false)], args := [d] }
  | _ => none }
def DynParsesWrongFalsely : Prop := dynParsesRow.holds Tryd.pinned (OpenSpec.ofChange dynParsesWrong)

/-- 'messuagelaw09.DynNeeds': WHATEVER THE INPUT: true; the input reads as it did. -/
def dynNeedsSpec : ChangeSpec := { name := "dynNeeds", fn := fun _ => fun
  | [d] => { results := [.lit (.bool true)], args := [d] }
  | _ => none }
def dynNeedsRow : OpenClaim := { program := "ytibfiikjelmhmaadoor", sum := "9192b9397585bd45a3c31ddd619ec03835d0e3a22602ed786647f338f938e924", func := "messuage/messuagelaw09.DynNeeds", spec := "dynNeeds", inPlace := ["internal/bytealg.IndexByte"], named := ["messuage/dyn.pairs"], apart := false, laid := [("messuage/dyn.pairs", laid_messuage_dyn_pairs)] }
def DynNeedsSaid : Prop := dynNeedsRow.holds Tryd.pinned (OpenSpec.ofChange dynNeedsSpec)

/-- ITS FALSE NEIGHBOUR: 'it returns false'. Refute it at one input. -/
def dynNeedsWrong : ChangeSpec := { name := "dynNeeds", fn := fun _ => fun
  | [d] => { results := [.lit (.bool false)], args := [d] }
  | _ => none }
def DynNeedsWrongFalsely : Prop := dynNeedsRow.holds Tryd.pinned (OpenSpec.ofChange dynNeedsWrong)

/- THE SECOND FORM. 'bulk': how many values and letters a reading holds, each counted each time it is reached (what is shared counts as often as it is met; a slice's spare places count too). A statement '..UptoSaid' is the law's where the arguments, and the package variables that the reading takes, are together of bulk at most 1048576: NARROWER than '..Said'. Prove '..Said' where nothing that the law and all that it calls make is longer than what came in: it says more and counts as full. Else prove '..UptoSaid'. A law counts once. -/
mutual
def uptoBulk {H : Type} : DataW H → Nat
  | .lit (.string bytes) => bytes.length + 1
  | .lit _ => 1
  | .nil => 1
  | .ptr d => uptoBulk d + 1
  | .slice elems spare => uptoBulkAll elems + uptoBulkAll spare + 1
  | .agg parts => uptoBulkAll parts + 1
  | .iface _ d => uptoBulk d + 1
  | .map entries => uptoBulkEntries entries + 1
  | .held _ => 1
def uptoBulkAll {H : Type} : List (DataW H) → Nat
  | [] => 0
  | d :: r => uptoBulk d + uptoBulkAll r
def uptoBulkEntries {H : Type} : List (Lit × DataW H) → Nat
  | [] => 0
  | x :: r => uptoBulkEntry x + uptoBulkEntries r
def uptoBulkEntry {H : Type} : Lit × DataW H → Nat
  | (.string bytes, d) => bytes.length + uptoBulk d + 1
  | (_, d) => uptoBulk d + 1
 end
def uptoSmall : (H : Type) → List (DataW H) → Bool := fun _ ds => decide (uptoBulkAll ds ≤ 1048576)
def OpenSpec.upto (s : _root_.Go.ChangeSpec) : _root_.Go.OpenSpec := { _root_.Go.OpenSpec.ofChange s with cond := some uptoSmall }

/-- 'messuagelaw09.DynParses', WHERE WHAT IT READS IS OF BULK AT MOST 1048576: true; the input reads as it did. -/
def dynParsesUptoRow : OpenClaim := { program := "ytibfiikjelmhmaadoor", sum := "9192b9397585bd45a3c31ddd619ec03835d0e3a22602ed786647f338f938e924", func := "messuage/messuagelaw09.DynParses", spec := "dynParses", inPlace := ["internal/bytealg.IndexByte"], named := ["messuage/dyn.pairs"], apart := false, laid := [("messuage/dyn.pairs", laid_messuage_dyn_pairs)], narrowed := true }
def DynParsesUptoSaid : Prop := dynParsesUptoRow.holds Tryd.pinned (OpenSpec.upto dynParsesSpec)

/-- 'messuagelaw09.DynNeeds', WHERE WHAT IT READS IS OF BULK AT MOST 1048576: true; the input reads as it did. -/
def dynNeedsUptoRow : OpenClaim := { program := "ytibfiikjelmhmaadoor", sum := "9192b9397585bd45a3c31ddd619ec03835d0e3a22602ed786647f338f938e924", func := "messuage/messuagelaw09.DynNeeds", spec := "dynNeeds", inPlace := ["internal/bytealg.IndexByte"], named := ["messuage/dyn.pairs"], apart := false, laid := [("messuage/dyn.pairs", laid_messuage_dyn_pairs)], narrowed := true }
def DynNeedsUptoSaid : Prop := dynNeedsUptoRow.holds Tryd.pinned (OpenSpec.upto dynNeedsSpec)

end Rows
end Go.Proofs.YtibfiikjelmhmaaDoor
