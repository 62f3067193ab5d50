
/-
  What is made of parts; a space that is new; the rooms that it has: New and Regions keep their contracts.
-/
import Derived.Test.YtdecbnmibjcnaaaVmV
set_option linter.unusedVariables false
namespace Go.Proofs.Ytdecbnmibjcnaaa
open Go.RowKit Go.PlainAid
/-- Cells laid over others from an offset on. -/
theorem foldl_set (vs : List Value) : ∀ (k : Nat) (cells : Array Value) (off : Nat), off + k + vs.length ≤ cells.size →
    ((vs.zipIdx k).foldl (fun cs (x : Value × Nat) => cs.setIfInBounds (off + x.2) x.1) cells).toList = cells.toList.take (off + k) ++ vs ++ cells.toList.drop (off + k + vs.length) := by
  induction vs with
  | nil => intro k cells off _; simp
  | cons v vs ih =>
    intro k cells off h
    rw [List.length_cons] at h
    have hlt : off + k < cells.toList.length := by simp; omega
    rw [List.zipIdx_cons, List.foldl_cons, ih (k + 1) _ off (by simp; omega)]
    simp only [Array.toList_setIfInBounds]
    rw [← Nat.add_assoc, List.length_cons]
    have e1 : (cells.toList.set (off + k) v).take (off + k + 1) = cells.toList.take (off + k) ++ [v] := by
      rw [List.take_add_one, List.take_set_of_le (by omega), List.getElem?_set_self hlt]; rfl
    have e2 : (cells.toList.set (off + k) v).drop (off + k + 1 + vs.length) = cells.toList.drop (off + k + (vs.length + 1)) := by
      rw [List.drop_set_of_lt (by omega)]; congr 1; omega
    rw [e1, e2]
    simp
theorem fill_cons (place : Nat → Option (Nat × Nat)) (cells : Array Value) (i off size : Nat) (v : Value) (rest : List (Nat × Value)) (hp : place i = some (off, size)) (hs : v.cells.size = size) (hf : off + size ≤ cells.size) :
    Instr.fill place cells ((i, v) :: rest) = Instr.fill place (cells.toList.take off ++ v.cells.toList ++ cells.toList.drop (off + size)).toArray rest := by
  have e := foldl_set v.cells.toList 0 cells off (by simp; omega)
  have e2 : v.cells.zipIdx.foldl (fun cs (x : Value × Nat) => cs.setIfInBounds (off + x.2) x.1) cells = (cells.toList.take off ++ v.cells.toList ++ cells.toList.drop (off + size)).toArray := by
    apply Array.toList_inj.1
    rw [← Array.foldl_toList, Array.toList_zipIdx, e]
    simp [hs]
  simp only [Instr.fill, hp]
  rw [if_neg (by simp; omega)]
  exact congrArg (fun c => Instr.fill place c rest) e2
set_option maxHeartbeats 1000000 in
theorem vm_New_no (w : World) (b : Int) (h : b < 1 ∨ 1024 < b) : Calls Try.prog 16 #[.int .i64 b] w fun e w' => e = .returned (.tuple #[.pointer none, .int .i64 51]) ∧ w = w' := by
  rcases h with h | h
  · go_enter Try.func16, Try.ntmps16
    go_wp2
    go_ret2
    exact ⟨rfl, rfl⟩
  · have h1 : ¬ b < 1 := by omega
    go_enter Try.func16, Try.ntmps16
    go_wp2
    go_ret2
    exact ⟨rfl, rfl⟩
set_option maxHeartbeats 1000000 in
theorem vm_New (w : World) (b : Nat) (h0 : 1 ≤ b) (h1 : b ≤ 1024) : Calls Try.prog 16 #[.int .i64 b] w fun e w' => e = .returned (.tuple #[.pointer (some ⟨w.heap.size, 0, none⟩), .int .i64 0]) ∧ SpAt w' w.heap.size (.slice none 0 0) ⟨b, []⟩ ∧ Below w.heap.size w w' := by
  have a1 : ¬ (b : Int) < 1 := by omega
  have a2 : ¬ (1024 : Int) < (b : Int) := by omega
  go_enter Try.func16, Try.ntmps16
  go_wp2
  go_ret2
  refine ⟨rfl, ⟨heap_alloc_new w _, World.ownsRow_nil _ _ _ _, fun r hr => absurd hr (by simp), by simp [Value.ownBlock]⟩, (Below.refl _ w).alloc (Nat.le_refl _) _⟩
/-- What Regions tells: where each room begins, and how many pages it has. -/
def regs (l : List Rm) : List (Nat × Nat) := l.map (fun r => (r.pos, r.pages.length))
def regC (x : Nat × Nat) : List Value := [.int .u64 x.1, .int .i64 x.2]
def flatG (l : List (Nat × Nat)) : List Value := l.flatMap regC
theorem flatG_app (a b : List (Nat × Nat)) : flatG (a ++ b) = flatG a ++ flatG b := by unfold flatG; rw [List.flatMap_append]
end Go.Proofs.Ytdecbnmibjcnaaa
