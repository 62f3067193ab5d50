
/-
  An address space in plain words: sheets, rooms, spaces; what is used, where a room is free, which rooms have begun.
-/
import Derived.Test.YtdecbnmibjcnaaaProg
import Derived.WalkKit
import Derived.PlainAid
set_option linter.unusedVariables false
namespace Go.Proofs.Ytdecbnmibjcnaaa
open Go.RowKit Go.PlainAid
/-- A page of a room. -/
structure Sh where
  there : Bool
  prot : Int
  data : List UInt8
/-- A room: where it begins; the block in which its pages lie, and for how many that has room; its pages. -/
structure Rm where
  pos : Nat
  blk : Nat
  cap : Nat
  pages : List Sh
structure Sp where
  budget : Nat
  rooms : List Rm
def Rm.size (r : Rm) : Nat := r.pages.length * 256
def Rm.fin (r : Rm) : Nat := r.pos + r.size
def used : List Rm → Nat
  | [] => 0
  | r :: l => r.pages.length + used l
/-- The least place from f on at which n bytes are free, as the rooms are gone through. -/
def gapAt : List Rm → Nat → Nat → Nat
  | [], f, _ => f
  | r :: l, f, n => if f + n ≤ r.pos then f else gapAt l (max f r.fin) n
/-- How many rooms begin at a place or ahead of it. -/
def begun : List Rm → Nat → Nat
  | [], _ => 0
  | r :: l, a => if r.pos ≤ a then begun l a + 1 else 0
/-- A page as it must be. -/
structure Sh.ok (s : Sh) : Prop where
  p0 : 0 ≤ s.prot
  p1 : s.prot ≤ 7
  len : s.data.length = 256
/-- A room as it must be. -/
structure Rm.ok (r : Rm) : Prop where
  low : 256 ≤ r.pos
  page : r.pos % 256 = 0
  top : r.fin ≤ 1099511627776
  one : 1 ≤ r.pages.length
  most : r.pages.length ≤ 64
  cap0 : r.pages.length ≤ r.cap
  cap1 : r.cap ≤ maxLen
  each : ∀ s ∈ r.pages, s.ok
/-- A space as it must be. -/
structure Sp.ok (s : Sp) : Prop where
  b0 : 1 ≤ s.budget
  b1 : s.budget ≤ 1024
  use : used s.rooms ≤ s.budget
  each : ∀ r ∈ s.rooms, r.ok
  srt : s.rooms.Pairwise (fun a b => a.fin ≤ b.pos)
theorem used_append (a b : List Rm) : used (a ++ b) = used a + used b := by
  induction a with
  | nil => simp [used]
  | cons r l ih => simp [used, ih]; omega
theorem used_take_le (l : List Rm) (i : Nat) : used (l.take i) ≤ used l := by
  have := used_append (l.take i) (l.drop i)
  rw [List.take_append_drop] at this
  omega
theorem used_take_succ (l : List Rm) (i : Nat) (h : i < l.length) : used (l.take (i + 1)) = used (l.take i) + l[i].pages.length := by
  rw [List.take_add_one, used_append, List.getElem?_eq_getElem h]
  simp [used]
theorem used_len {l : List Rm} (h : ∀ r ∈ l, 1 ≤ r.pages.length) : l.length ≤ used l := by
  induction l with
  | nil => simp
  | cons r l ih =>
    have := ih fun x hx => h x (List.mem_cons_of_mem _ hx)
    have := h r List.mem_cons_self
    simp [used]; omega
theorem Sp.ok.len {s : Sp} (h : s.ok) : s.rooms.length ≤ 1024 := by
  have := used_len fun r hr => (h.each r hr).one
  have := h.use
  have := h.b1
  omega
end Go.Proofs.Ytdecbnmibjcnaaa
