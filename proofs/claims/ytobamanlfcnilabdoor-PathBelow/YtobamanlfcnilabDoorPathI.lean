/-
  Layer 4, the program's and the reference's: Archive and Same keep their contracts.
-/
import Derived.Test.YtobamanlfcnilabDoorPathH
set_option linter.unusedVariables false
namespace Go.Proofs.YtobamanlfcnilabDoor
open Go.RowKit Go.PlainAid
theorem below_drewN (w : World) (n : Nat) : Below w.heap.size w (w.drewN n) := ⟨rfl, rfl, rfl, Nat.le_refl _, fun _ _ => rfl⟩
/-- Both sides of the first !/, and whether there is one. -/
def arcA (l : List UInt8) : List UInt8 := (Lib.cut l [33, 47]).1
def arcB (l : List UInt8) : List UInt8 := (Lib.cut l [33, 47]).2.1
def arcC (l : List UInt8) : Bool := (Lib.cut l [33, 47]).2.2
set_option maxHeartbeats 400000 in
theorem path_Archive (s : ByteArray) (w : World) (hm : Mx w) (hs : s.size ≤ 100000000) :
    Calls Tryd.prog 15 #[.string s] w fun e w' => e = .returned (.tuple #[.string (tx (arcA s.data.toList)), .string (tx (arcB s.data.toList)), .bool (arcC s.data.toList)]) ∧ Below w.heap.size w w' := by
  obtain ⟨m, hm⟩ := hm
  have hC : Calls Tryd.prog 25 #[.string s, .string ⟨#[33, 47]⟩] w fun e w' => e = .returned (.tuple #[.string (tx (arcA s.data.toList)), .string (tx (arcB s.data.toList)), .bool (arcC s.data.toList)]) ∧ ∃ n, w' = w.drewN n := Tryd.strings_Cut s ⟨#[33, 47]⟩ m w (by omega) hm
  clear hm
  generalize tx (arcA s.data.toList) = A at *
  generalize tx (arcB s.data.toList) = B at *
  generalize arcC s.data.toList = C at *
  go_enter Tryd.func15, Tryd.ntmps15
  go_wp2_with (go_at_call 25; refine hC.mono ?_; rintro e w0 ⟨rfl, n, hw0⟩; rw [hw0]; clear hw0)
  go_ret3
  exact ⟨rfl, below_drewN _ _⟩
end Go.Proofs.YtobamanlfcnilabDoor
