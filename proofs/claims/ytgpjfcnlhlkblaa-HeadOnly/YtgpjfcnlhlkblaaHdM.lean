
/-
  Layer 8 (head): program headers and what they say, as plain data.
-/
import Derived.Test.YtgpjfcnlhlkblaaRefB
import Derived.Test.YtgpjfcnlhlkblaaNumH
import Derived.Test.YtgpjfcnlhlkblaaPutsA
import Derived.Laws.ResultCell
import Derived.Laws.Rows
import Derived.Deep.RegionHeldLaw
set_option linter.unusedVariables false
namespace Go.Proofs.Ytgpjfcnlhlkblaa
open Go.RowKit Go.PlainAid
theorem hide {p : Prop} (h : p) : Hid p := h
/-- The number of s bytes at a place; 0, if they aren't there. -/
def rd (l : List UInt8) (p s : Nat) : Nat := if p + s ≤ l.length then rdN (win l p s) else 0
theorem rd_lt (l : List UInt8) (p s : Nat) : rd l p s < 2 ^ (8 * s) := by
  unfold rd; split
  · exact rdN_win_lt l p s ‹_›
  · exact Nat.two_pow_pos _
theorem rd2 (l : List UInt8) (p : Nat) : rd l p 2 < 65536 := rd_lt l p 2
theorem rd4 (l : List UInt8) (p : Nat) : rd l p 4 < 4294967296 := rd_lt l p 4
theorem rd8 (l : List UInt8) (p : Nat) : rd l p 8 < 18446744073709551616 := rd_lt l p 8
theorem rd_in {l : List UInt8} {p s : Nat} (h : p + s ≤ l.length) : rd l p s = rdN (win l p s) := if_pos h
/-- A program header. -/
structure Ph where
  type : Nat
  flags : Nat
  off : Nat
  vaddr : Nat
  filesz : Nat
  memsz : Nat
  align : Nat
def Ph.cells (p : Ph) : List Value := [.int .u32 p.type, .int .u32 p.flags, .int .u64 p.off, .int .u64 p.vaddr, .int .u64 p.filesz, .int .u64 p.memsz, .int .u64 p.align]
def noPh : Ph := ⟨0, 0, 0, 0, 0, 0, 0⟩
structure Ph.ok (p : Ph) : Prop where
  type : p.type < 4294967296
  flags : p.flags < 4294967296
  off : p.off < 18446744073709551616
  vaddr : p.vaddr < 18446744073709551616
  filesz : p.filesz < 18446744073709551616
  memsz : p.memsz < 18446744073709551616
  align : p.align < 18446744073709551616
/-- The one at a place. -/
def phAt (l : List UInt8) (p : Nat) : Ph := ⟨rd l p 4, rd l (p + 4) 4, rd l (p + 8) 8, rd l (p + 16) 8, rd l (p + 32) 8, rd l (p + 40) 8, rd l (p + 48) 8⟩
theorem phAt_ok (l : List UInt8) (p : Nat) : (phAt l p).ok := ⟨rd4 _ _, rd4 _ _, rd8 _ _, rd8 _ _, rd8 _ _, rd8 _ _, rd8 _ _⟩
/-- What is wrong with a file's header. -/
def kindE (l : List UInt8) : Nat :=
  if l.length < 64 ∨ win l 0 4 ≠ [127, 69, 76, 70] then 80
  else if win l 4 3 ≠ [2, 1, 1] then 81
  else if rd l 16 2 ≠ 3 then 82
  else if rd l 18 2 ≠ 62 ∧ rd l 18 2 ≠ 183 then 83
  else 0
/-- Do the program headers fit? -/
def fits (l : List UInt8) : Bool := decide (rd l 52 2 = 64) && decide (rd l 54 2 = 56) && decide (1 ≤ rd l 56 2) && decide (rd l 56 2 ≤ 16) && decide (rd l 32 8 + rd l 56 2 * 56 ≤ l.length)
def tabFrom (l : List UInt8) (p m : Nat) : List Ph := (List.range m).map fun i => phAt l (p + i * 56)
def tableZ (l : List UInt8) : Except Nat (List Ph) :=
  if kindE l ≠ 0 then .error (kindE l) else if fits l then .ok (tabFrom l (rd l 32 8) (rd l 56 2)) else .error 84
/-- Where a part's last page ends. -/
def endN (p : Ph) : Nat := if p.vaddr + p.memsz + 255 ≤ 18446744073709551615 then (p.vaddr + p.memsz + 255) / 256 * 256 else 0
def insN (a s f r : Nat) : Bool := decide (f ≤ a ∧ a + s ≤ f + r)
theorem insN_is (a s f r : Nat) : inB (a : Int) (s : Int) (f : Int) (r : Int) = insN a s f r := by unfold inB insN; rw [decide_eq_decide]; omega
def partOk (p : Ph) (size : Nat) : Bool :=
  decide (p.vaddr % 256 = 0) && decide (p.off % 256 = 0) && decide (p.flags ≤ 7) && !decide (p.memsz = 0) && decide (p.filesz ≤ p.memsz) && insN p.off p.filesz 0 size && insN p.vaddr p.memsz 0 16384
/-- May these parts be, behind an end? -/
def loadsFrom (size : Nat) : Bool → Nat → List Ph → Bool
  | _, _, [] => true
  | first, e, p :: t => if partOk p size ∧ ¬ p.vaddr < e ∧ ¬ (first = true ∧ p.vaddr ≠ 0) then loadsFrom size false (endN p) t else false
def loadsOk (ps : List Ph) (size : Nat) : Bool := loadsFrom size true 0 ps && !decide (ps = [])
/-- Where bytes of memory stand in the file. -/
def offN : List Ph → Nat → Nat → Nat × Bool
  | [], _, _ => (0, false)
  | p :: t, a, s => if insN a s p.vaddr p.filesz then (if p.off + (a - p.vaddr) ≤ 18446744073709551615 then (p.off + (a - p.vaddr), true) else (0, false)) else offN t a s
def insideB (ps : List Ph) (a s : Nat) : Bool := ps.any fun p => insN a s p.vaddr p.memsz
def dynOk (ps : List Ph) (d : Ph) : Bool := (offN ps d.vaddr d.filesz).2 && !decide (d.filesz = 0) && decide (d.vaddr % 8 = 0)
def holdW : List Ph → Ph → Bool
  | [], _ => false
  | p :: t, r => if insN r.vaddr r.memsz p.vaddr (endN p - p.vaddr) then decide (p.flags / 2 % 2 = 1) else holdW t r
def relroOk (ps : List Ph) (r : Ph) : Bool := !decide (r.memsz = 0) && decide (r.vaddr % 256 = 0) && holdW ps r
def ofT (ps : List Ph) (k : Nat) : List Ph := ps.filter fun p => decide (p.type = k)
def spanN (ps : List Ph) : Nat := match ps.getLast? with | none => 0 | some p => endN p / 256
/-- What the headers of a library say. -/
structure Hd where
  machine : Nat
  loads : List Ph
  dynamic : Ph
  relro : Ph
def noHd : Hd := ⟨0, [], noPh, noPh⟩
def heads2 (m : Nat) (ls : List Ph) (d : Ph) (rs : List Ph) : Except Nat Hd :=
  match rs with
  | [] => .ok ⟨m, ls, d, noPh⟩
  | [r] => if relroOk ls r then .ok ⟨m, ls, d, r⟩ else .error 87
  | _ => .error 87
def heads1 (m : Nat) (ls ds rs : List Ph) : Except Nat Hd :=
  match ds with
  | [d] => if dynOk ls d then heads2 m ls d rs else .error 86
  | _ => .error 86
def headsOf (m size : Nat) (all : List Ph) : Except Nat Hd :=
  if loadsOk (ofT all 1) size then heads1 m (ofT all 1) (ofT all 2) (ofT all 1685382482) else .error 85
def parseZ (l : List UInt8) : Except Nat Hd :=
  match tableZ l with
  | .error e => .error e
  | .ok all => headsOf (rd l 18 2) l.length all
end Go.Proofs.Ytgpjfcnlhlkblaa
