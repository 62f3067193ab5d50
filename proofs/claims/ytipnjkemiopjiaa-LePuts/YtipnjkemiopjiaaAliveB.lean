/-
  The chapter's examples of layer 2 ('alive') come out as the chapter says.
-/
import Derived.Test.YtipnjkemiopjiaaTextA
import Derived.Lib.SlBytesConst
set_option linter.unusedVariables false
namespace Go.Proofs.Ytipnjkemiopjiaa
open Go.RowKit Go.PlainAid
theorem Bf.below {w w' : World} {B R : Nat} {o : Option Nat} {l : List UInt8} (h : Bf w B R o l) (hb : Below w.heap.size w w') : Bf w' B R o l := by
  obtain ⟨h1, h2, ⟨v, h3, h4, h5⟩, h6, h7⟩ := h
  have hR : w'.heap[R]? = w.heap[R]? := hb.block R h1
  refine ⟨Nat.lt_of_lt_of_le h1 hb.size, h2, ⟨v, ?_, h4.stay hb, h5⟩, h6, ?_⟩
  · rw [World.cell?_of_block (a := ⟨R, 0, none⟩) hR]; exact h3
  · rw [World.frozen?_of_block (a := ⟨R, 0, none⟩) hR]; exact h7
theorem Bf.alloc {w : World} {B R : Nat} {o : Option Nat} {l : List UInt8} (h : Bf w B R o l) (x : Obj) : Bf (w.alloc x) B R o l := h.below ((Below.refl _ _).alloc (Nat.le_refl _) _)
theorem alive_a (w : World) (B R : Nat) (o : Option Nat) (h : Bf w B R o []) (hB : B ≤ w.heap.size) :
    Calls Try.prog 21 #[.pointer (some ⟨R, 0, none⟩), .int .u16 258] w fun e w' => e = .returned (.tuple #[]) ∧ ∃ o', Bf w' B R o' [2, 1] ∧ Gr w w' R o ∧ Nx w o o' :=
  le_Put16 w B R o [] 258 h hB (by simp) (by omega)
theorem alive_b (w : World) (B R : Nat) (o : Option Nat) (h : Bf w B R o [2, 1]) (hB : B ≤ w.heap.size) :
    Calls Try.prog 23 #[.pointer (some ⟨R, 0, none⟩), .int .u32 1] w fun e w' => e = .returned (.tuple #[]) ∧ ∃ o', Bf w' B R o' [2, 1, 1, 0, 0, 0] ∧ Gr w w' R o ∧ Nx w o o' :=
  le_Put32 w B R o [2, 1] 1 h hB (by simp) (by omega)
theorem alive_c (w : World) (B R : Nat) (o : Option Nat) (h : Bf w B R o [2, 1, 1, 0, 0, 0]) (hB : B ≤ w.heap.size) :
    Calls Try.prog 28 #[.pointer (some ⟨R, 0, none⟩), .int .i64 8] w fun e w' => e = .returned (.tuple #[]) ∧ ∃ o', Bf w' B R o' [2, 1, 1, 0, 0, 0, 0, 0] ∧ Gr w w' R o ∧ Nx w o o' :=
  le_To_yes w B R o [2, 1, 1, 0, 0, 0] 8 h hB ⟨3, by omega, rfl⟩ (by omega) (by simp)
theorem alive_t (w : World) (v : Value) (h : Arg w v [65, 66, 0]) :
    Calls Try.prog 16 #[v, .int .u64 0] w fun e w' => e = .returned (.tuple #[.string ⟨#[65, 66]⟩, .int .i64 0]) ∧ Below w.heap.size w w' :=
  le_Text w v [65, 66, 0] h 0 (by omega)
theorem alive_n (w : World) (v : Value) (h : Arg w v [1, 2, 0, 0]) :
    Calls Try.prog 10 #[v, .int .u64 0] w fun e w' => e = .returned (.tuple #[.int .u32 513, .int .i64 0]) ∧ w = w' :=
  le_U32_yes w v [1, 2, 0, 0] h 0 (by simp)
theorem alive_ta (w : World) : Arg (w.alloc (.cells #[.int .u8 65, .int .u8 66, .int .u8 0] 5 (3, 4))) (.slice (some ⟨w.heap.size, 0, none⟩) 3 3) [65, 66, 0] :=
  ⟨some ⟨w.heap.size, 0, none⟩, 3, rfl, by simp, by simp [maxLen], by simp, .inr ⟨_, rfl, fun j hj => by
    rw [add_at]
    match j, hj with
    | 0, _ => simp [World.cell?_alloc_mark]
    | 1, _ => simp [World.cell?_alloc_mark]
    | 2, _ => simp [World.cell?_alloc_mark]⟩⟩
theorem alive_na (w : World) : Arg (w.alloc (.cells #[.int .u8 1, .int .u8 2, .int .u8 0, .int .u8 0] 5)) (.slice (some ⟨w.heap.size, 0, none⟩) 4 4) [1, 2, 0, 0] :=
  ⟨some ⟨w.heap.size, 0, none⟩, 4, rfl, by simp, by simp [maxLen], by simp, .inr ⟨_, rfl, fun j hj => by
    rw [add_at]
    match j, hj with
    | 0, _ => simp
    | 1, _ => simp
    | 2, _ => simp
    | 3, _ => simp⟩⟩
set_option maxHeartbeats 1000000 in
theorem alive02 (w : World) : Calls Try.prog 15 #[] w fun e w' => e = .returned (.bool true) ∧ Below w.heap.size w w' := by
  go_enter Try.func15, Try.ntmps15
  go_wp2_with fail
  refine (le_New _).mono ?_
  rintro e w1 ⟨rfl, hb1, b1, s1⟩
  go_wp2_with fail
  refine (alive_a _ _ _ _ hb1 b1.size).mono ?_
  rintro e w2 ⟨rfl, o2, hb2, g2, n2⟩
  have b2 : Below w.heap.size w w2 := b1.trans (g2.below (Nat.le_refl _) (fun k hk => (hb1.own_ge k hk).1) b1.size)
  go_wp2_with fail
  refine (alive_b _ _ _ _ hb2 b2.size).mono ?_
  rintro e w3 ⟨rfl, o3, hb3, g3, n3⟩
  have b3 : Below w.heap.size w w3 := b2.trans (g3.below (Nat.le_refl _) (fun k hk => (hb2.own_ge k hk).1) b2.size)
  go_wp2_with fail
  refine (alive_c _ _ _ _ hb3 b3.size).mono ?_
  rintro e w4 ⟨rfl, o4, hb4, g4, n4⟩
  have b4 : Below w.heap.size w w4 := b3.trans (g4.below (Nat.le_refl _) (fun k hk => (hb3.own_ge k hk).1) b3.size)
  clear hb1 hb2 hb3 g2 g3 g4 n2 n3 n4 b1 b2 b3 s1
  have kc := fun (w : World) (C : Array Value) (n c : Nat) => Lib.run_convert_bytes_const (P := Try.prog) w 22 5 C n c Try.underlying22 Try.underlying5
  go_wp2_with fail
  refine (alive_t _ _ (alive_ta _)).mono ?_
  rintro e w5 ⟨rfl, c5⟩
  have c5a := ((Below.refl w4.heap.size w4).alloc (Nat.le_refl _) (.cells #[.int .u8 65, .int .u8 66, .int .u8 0] 5 (3, 4)))
  have c5b := c5a.trans (c5.mono c5a.size)
  have b5 := b4.trans (c5b.mono b4.size)
  have hb5 := hb4.below c5b
  clear c5 c5a c5b hb4 b4
  go_wp2_with fail
  refine (alive_n _ _ (alive_na _)).mono ?_
  rintro e w6 ⟨rfl, rfl⟩
  have b6 := b5.trans (((Below.refl w5.heap.size w5).alloc (Nat.le_refl _) (.cells #[.int .u8 1, .int .u8 2, .int .u8 0, .int .u8 0] 5)).mono b5.size)
  have hb6 := hb5.alloc (.cells #[.int .u8 1, .int .u8 2, .int .u8 0, .int .u8 0] 5)
  clear b5 hb5
  go_wp2_with fail
  refine (le_Bytes _ _ _ _ _ hb6 (by simp)).mono ?_
  rintro e w7 ⟨v7, rfl, h7, b7⟩
  have t7 := h7.text (by simp)
  have b8 := b6.trans (b7.mono b6.size)
  obtain ⟨a7, n7, c7, rfl⟩ := h7.isSlice
  clear h7 b7 b6 hb6
  go_wp2
  go_ret
  exact ⟨rfl, b8⟩
end Go.Proofs.Ytipnjkemiopjiaa
