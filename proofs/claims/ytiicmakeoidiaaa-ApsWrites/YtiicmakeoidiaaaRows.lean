/-
  No cell of these rows narrows 'for every input' (looked for: loops, veiled, ifaces, maps, wideKeys, modest, calm, conditions, laid).
  DERIVED. THE GIVEN ROWS OF THIS SEAT. 5 by the template 'for every input the law returns true; each argument reads behind the call as it read before'; 0 by the template 'total and deterministic' (their statements: YtiicmakeoidiaaaTotals.lean).
  GIVEN WITH THE SEED: the statements are not yours to turn. If you find one false, say at which input.
  Laid BY PROGRAM, IN A SANDBOX (cutbox-rows.mjs): the forced cells as the released guide's own fill.sh prints them over the translation fb6025bad229f6f9… (all of the seat's roots in one cut). By AI agents, Wed Nov 11 2026. No macro, syntax, notation, axiom, sorry.
-/
import Derived.Test.YtiicmakeoidiaaaChecked
import GoSem.Claim
import GoSem.ClaimJoined
import GoSem.ClaimMapViews
import Derived.JoinedTies
import Derived.KernelRfl
namespace Go.Proofs.Ytiicmakeoidiaaa
/- THE CELL 'sum', in the pinned program and in every row, IS THE sha256 OF THE DUMP (.gsa) THAT YtiicmakeoidiaaaProg.lean LOADS. Nothing in Lean hashes anything: it is a label: what it is worth is what the hold of that sum in a sandbox is worth. -/
noncomputable def Try.pinned : Pinned := { name := "ytiicmakeoidiaaa", sum := "fb6025bad229f6f9da471da24a241f09a5fa306aec90727025b6014bb5c45c2c", checked := Try.checked }
namespace Rows
def none {H : Type} : Left H := { results := [], args := [] }

/-- 'messuagelaw15.ApplyKinds': WHATEVER THE INPUT: true; the input reads as it did. -/
def applyKindsSpec : ChangeSpec := { name := "applyKinds", fn := fun _ => fun
  | [d1, d2] => { results := [.lit (.bool true)], args := [d1, d2] }
  | _ => none }
def applyKindsRow : OpenClaim := { program := "ytiicmakeoidiaaa", sum := "fb6025bad229f6f9da471da24a241f09a5fa306aec90727025b6014bb5c45c2c", func := "messuage/messuagelaw15.ApplyKinds", spec := "applyKinds", apart := false }
def ApplyKindsSaid : Prop := applyKindsRow.holds Try.pinned (OpenSpec.ofChange applyKindsSpec)

/-- ITS FALSE NEIGHBOUR: 'it returns false'. Refute it at one input. -/
def applyKindsWrong : ChangeSpec := { name := "applyKinds", fn := fun _ => fun
  | [d1, d2] => { results := [.lit (.bool false)], args := [d1, d2] }
  | _ => none }
def ApplyKindsWrongFalsely : Prop := applyKindsRow.holds Try.pinned (OpenSpec.ofChange applyKindsWrong)

/-- 'messuagelaw15.ApplyValues': WHATEVER THE INPUT: true; the input reads as it did. -/
def applyValuesSpec : ChangeSpec := { name := "applyValues", fn := fun _ => fun
  | [d] => { results := [.lit (.bool true)], args := [d] }
  | _ => none }
def applyValuesRow : OpenClaim := { program := "ytiicmakeoidiaaa", sum := "fb6025bad229f6f9da471da24a241f09a5fa306aec90727025b6014bb5c45c2c", func := "messuage/messuagelaw15.ApplyValues", spec := "applyValues", apart := false }
def ApplyValuesSaid : Prop := applyValuesRow.holds Try.pinned (OpenSpec.ofChange applyValuesSpec)

/-- ITS FALSE NEIGHBOUR: 'it returns false'. Refute it at one input. -/
def applyValuesWrong : ChangeSpec := { name := "applyValues", fn := fun _ => fun
  | [d] => { results := [.lit (.bool false)], args := [d] }
  | _ => none }
def ApplyValuesWrongFalsely : Prop := applyValuesRow.holds Try.pinned (OpenSpec.ofChange applyValuesWrong)

/-- 'messuagelaw15.ApplyMoves': WHATEVER THE INPUT: true; the input reads as it did. -/
def applyMovesSpec : ChangeSpec := { name := "applyMoves", fn := fun _ => fun
  | [d1, d2] => { results := [.lit (.bool true)], args := [d1, d2] }
  | _ => none }
def applyMovesRow : OpenClaim := { program := "ytiicmakeoidiaaa", sum := "fb6025bad229f6f9da471da24a241f09a5fa306aec90727025b6014bb5c45c2c", func := "messuage/messuagelaw15.ApplyMoves", spec := "applyMoves", apart := false }
def ApplyMovesSaid : Prop := applyMovesRow.holds Try.pinned (OpenSpec.ofChange applyMovesSpec)

/-- ITS FALSE NEIGHBOUR: 'it returns false'. Refute it at one input. -/
def applyMovesWrong : ChangeSpec := { name := "applyMoves", fn := fun _ => fun
  | [d1, d2] => { results := [.lit (.bool false)], args := [d1, d2] }
  | _ => none }
def ApplyMovesWrongFalsely : Prop := applyMovesRow.holds Try.pinned (OpenSpec.ofChange applyMovesWrong)

/-- 'messuagelaw15.ApplyAdds': WHATEVER THE INPUT: true; the input reads as it did. -/
def applyAddsSpec : ChangeSpec := { name := "applyAdds", fn := fun _ => fun
  | [d1, d2] => { results := [.lit (.bool true)], args := [d1, d2] }
  | _ => none }
def applyAddsRow : OpenClaim := { program := "ytiicmakeoidiaaa", sum := "fb6025bad229f6f9da471da24a241f09a5fa306aec90727025b6014bb5c45c2c", func := "messuage/messuagelaw15.ApplyAdds", spec := "applyAdds", apart := false }
def ApplyAddsSaid : Prop := applyAddsRow.holds Try.pinned (OpenSpec.ofChange applyAddsSpec)

/-- ITS FALSE NEIGHBOUR: 'it returns false'. Refute it at one input. -/
def applyAddsWrong : ChangeSpec := { name := "applyAdds", fn := fun _ => fun
  | [d1, d2] => { results := [.lit (.bool false)], args := [d1, d2] }
  | _ => none }
def ApplyAddsWrongFalsely : Prop := applyAddsRow.holds Try.pinned (OpenSpec.ofChange applyAddsWrong)

/-- 'messuagelaw14.ApsWrites': WHATEVER THE INPUT: true; the input reads as it did. -/
def apsWritesSpec : ChangeSpec := { name := "apsWrites", fn := fun _ => fun
  | [d1, d2] => { results := [.lit (.bool true)], args := [d1, d2] }
  | _ => none }
def apsWritesRow : OpenClaim := { program := "ytiicmakeoidiaaa", sum := "fb6025bad229f6f9da471da24a241f09a5fa306aec90727025b6014bb5c45c2c", func := "messuage/messuagelaw14.ApsWrites", spec := "apsWrites", apart := false }
def ApsWritesSaid : Prop := apsWritesRow.holds Try.pinned (OpenSpec.ofChange apsWritesSpec)

/-- ITS FALSE NEIGHBOUR: 'it returns false'. Refute it at one input. -/
def apsWritesWrong : ChangeSpec := { name := "apsWrites", fn := fun _ => fun
  | [d1, d2] => { results := [.lit (.bool false)], args := [d1, d2] }
  | _ => none }
def ApsWritesWrongFalsely : Prop := apsWritesRow.holds Try.pinned (OpenSpec.ofChange apsWritesWrong)

/- THE SECOND FORM. 'bulk': how many values and letters a reading holds, each counted each time it is reached (what is shared counts as often as it is met; a slice's spare places count too). A statement '..UptoSaid' is the law's where the arguments, and the package variables that the reading takes, are together of bulk at most 1048576: NARROWER than '..Said'. Prove '..Said' where nothing that the law and all that it calls make is longer than what came in: it says more and counts as full. Else prove '..UptoSaid'. A law counts once. -/
mutual
def uptoBulk {H : Type} : DataW H → Nat
  | .lit (.string bytes) => bytes.length + 1
  | .lit _ => 1
  | .nil => 1
  | .ptr d => uptoBulk d + 1
  | .slice elems spare => uptoBulkAll elems + uptoBulkAll spare + 1
  | .agg parts => uptoBulkAll parts + 1
  | .iface _ d => uptoBulk d + 1
  | .map entries => uptoBulkEntries entries + 1
  | .held _ => 1
def uptoBulkAll {H : Type} : List (DataW H) → Nat
  | [] => 0
  | d :: r => uptoBulk d + uptoBulkAll r
def uptoBulkEntries {H : Type} : List (Lit × DataW H) → Nat
  | [] => 0
  | x :: r => uptoBulkEntry x + uptoBulkEntries r
def uptoBulkEntry {H : Type} : Lit × DataW H → Nat
  | (.string bytes, d) => bytes.length + uptoBulk d + 1
  | (_, d) => uptoBulk d + 1
 end
def uptoSmall : (H : Type) → List (DataW H) → Bool := fun _ ds => decide (uptoBulkAll ds ≤ 1048576)
def OpenSpec.upto (s : _root_.Go.ChangeSpec) : _root_.Go.OpenSpec := { _root_.Go.OpenSpec.ofChange s with cond := some uptoSmall }

/-- 'messuagelaw15.ApplyKinds', WHERE WHAT IT READS IS OF BULK AT MOST 1048576: true; the input reads as it did. -/
def applyKindsUptoRow : OpenClaim := { program := "ytiicmakeoidiaaa", sum := "fb6025bad229f6f9da471da24a241f09a5fa306aec90727025b6014bb5c45c2c", func := "messuage/messuagelaw15.ApplyKinds", spec := "applyKinds", apart := false, narrowed := true }
def ApplyKindsUptoSaid : Prop := applyKindsUptoRow.holds Try.pinned (OpenSpec.upto applyKindsSpec)

/-- 'messuagelaw15.ApplyValues', WHERE WHAT IT READS IS OF BULK AT MOST 1048576: true; the input reads as it did. -/
def applyValuesUptoRow : OpenClaim := { program := "ytiicmakeoidiaaa", sum := "fb6025bad229f6f9da471da24a241f09a5fa306aec90727025b6014bb5c45c2c", func := "messuage/messuagelaw15.ApplyValues", spec := "applyValues", apart := false, narrowed := true }
def ApplyValuesUptoSaid : Prop := applyValuesUptoRow.holds Try.pinned (OpenSpec.upto applyValuesSpec)

/-- 'messuagelaw15.ApplyMoves', WHERE WHAT IT READS IS OF BULK AT MOST 1048576: true; the input reads as it did. -/
def applyMovesUptoRow : OpenClaim := { program := "ytiicmakeoidiaaa", sum := "fb6025bad229f6f9da471da24a241f09a5fa306aec90727025b6014bb5c45c2c", func := "messuage/messuagelaw15.ApplyMoves", spec := "applyMoves", apart := false, narrowed := true }
def ApplyMovesUptoSaid : Prop := applyMovesUptoRow.holds Try.pinned (OpenSpec.upto applyMovesSpec)

/-- 'messuagelaw15.ApplyAdds', WHERE WHAT IT READS IS OF BULK AT MOST 1048576: true; the input reads as it did. -/
def applyAddsUptoRow : OpenClaim := { program := "ytiicmakeoidiaaa", sum := "fb6025bad229f6f9da471da24a241f09a5fa306aec90727025b6014bb5c45c2c", func := "messuage/messuagelaw15.ApplyAdds", spec := "applyAdds", apart := false, narrowed := true }
def ApplyAddsUptoSaid : Prop := applyAddsUptoRow.holds Try.pinned (OpenSpec.upto applyAddsSpec)

/-- 'messuagelaw14.ApsWrites', WHERE WHAT IT READS IS OF BULK AT MOST 1048576: true; the input reads as it did. -/
def apsWritesUptoRow : OpenClaim := { program := "ytiicmakeoidiaaa", sum := "fb6025bad229f6f9da471da24a241f09a5fa306aec90727025b6014bb5c45c2c", func := "messuage/messuagelaw14.ApsWrites", spec := "apsWrites", apart := false, narrowed := true }
def ApsWritesUptoSaid : Prop := apsWritesUptoRow.holds Try.pinned (OpenSpec.upto apsWritesSpec)

end Rows
end Go.Proofs.Ytiicmakeoidiaaa
