
/-
  The chapter's examples of layer 2 ('alive') come out as the chapter says.
-/
import Derived.Test.YtgpjfcnlhlkblaaTextA
import Derived.Lib.SlBytesConst
set_option linter.unusedVariables false
namespace Go.Proofs.Ytgpjfcnlhlkblaa
open Go.RowKit Go.PlainAid
theorem Bf.below {w w' : World} {B R : Nat} {o : Option Nat} {l : List UInt8} (h : Bf w B R o l) (hb : Below w.heap.size w w') : Bf w' B R o l := by
  obtain ⟨h1, h2, ⟨v, h3, h4, h5⟩, h6, h7⟩ := h
  have hR : w'.heap[R]? = w.heap[R]? := hb.block R h1
  refine ⟨Nat.lt_of_lt_of_le h1 hb.size, h2, ⟨v, ?_, h4.stay hb, h5⟩, h6, ?_⟩
  · rw [World.cell?_of_block (a := ⟨R, 0, none⟩) hR]; exact h3
  · rw [World.frozen?_of_block (a := ⟨R, 0, none⟩) hR]; exact h7
theorem Bf.alloc {w : World} {B R : Nat} {o : Option Nat} {l : List UInt8} (h : Bf w B R o l) (x : Obj) : Bf (w.alloc x) B R o l := h.below ((Below.refl _ _).alloc (Nat.le_refl _) _)
theorem alive_n (w : World) (v : Value) (h : Arg w v [1, 2, 0, 0]) :
    Calls Try.prog 62 #[v, .int .u64 0] w fun e w' => e = .returned (.tuple #[.int .u32 513, .int .i64 0]) ∧ w = w' :=
  le_U32_yes w v [1, 2, 0, 0] h 0 (by simp)
theorem alive_ta (w : World) : Arg (w.alloc (.cells #[.int .u8 65, .int .u8 66, .int .u8 0] 5 (3, 4))) (.slice (some ⟨w.heap.size, 0, none⟩) 3 3) [65, 66, 0] :=
  ⟨some ⟨w.heap.size, 0, none⟩, 3, rfl, by simp, by simp [maxLen], by simp, .inr ⟨_, rfl, fun j hj => by
    rw [add_at]
    match j, hj with
    | 0, _ => simp [World.cell?_alloc_mark]
    | 1, _ => simp [World.cell?_alloc_mark]
    | 2, _ => simp [World.cell?_alloc_mark]⟩⟩
theorem alive_na (w : World) : Arg (w.alloc (.cells #[.int .u8 1, .int .u8 2, .int .u8 0, .int .u8 0] 5)) (.slice (some ⟨w.heap.size, 0, none⟩) 4 4) [1, 2, 0, 0] :=
  ⟨some ⟨w.heap.size, 0, none⟩, 4, rfl, by simp, by simp [maxLen], by simp, .inr ⟨_, rfl, fun j hj => by
    rw [add_at]
    match j, hj with
    | 0, _ => simp
    | 1, _ => simp
    | 2, _ => simp
    | 3, _ => simp⟩⟩
end Go.Proofs.Ytgpjfcnlhlkblaa
