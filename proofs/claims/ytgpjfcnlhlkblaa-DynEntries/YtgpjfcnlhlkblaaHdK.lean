
/-
  Layer 8 (head): the small library of the statements, and what they ask of it.
-/
import Derived.Test.YtgpjfcnlhlkblaaHdJ
set_option linter.unusedVariables false
namespace Go.Proofs.Ytgpjfcnlhlkblaa
open Go.RowKit Go.PlainAid Go.Sort
def smHead : List UInt8 := [127, 69, 76, 70, 2, 1, 1] ++ List.replicate 9 0 ++ leN 2 3 ++ leN 2 62 ++ List.replicate 12 0 ++ leN 8 64 ++ List.replicate 12 0 ++ leN 2 64 ++ leN 2 56 ++ leN 2 2 ++ List.replicate 6 0
def sm0 : List UInt8 := smHead
def sm1 : List UInt8 := sm0 ++ leN 4 1 ++ leN 4 4 ++ leN 8 0 ++ leN 8 0 ++ leN 8 0 ++ leN 8 256 ++ leN 8 256 ++ leN 8 8
def sm2 : List UInt8 := sm1 ++ leN 4 2 ++ leN 4 4 ++ leN 8 192 ++ leN 8 192 ++ leN 8 0 ++ leN 8 16 ++ leN 8 16 ++ leN 8 8
def smI : Nat → List UInt8
  | 0 => sm0
  | 1 => sm1
  | _ => sm2
def smallB : List UInt8 := sm2 ++ List.replicate 80 0
/-- A row of bytes of the call's own, and nothing that was there has turned. -/
structure Sm (w w1 : World) (v : Value) (l : List UInt8) : Prop where
  own : Own w1 w.heap.size v l
  bel : Below w.heap.size w w1
theorem Gx.below {w w1 w2 : World} {v v' : Value} {l : List UInt8} (h : Sm w w1 v l) (hg : Gx w1 w2 v v') : Below w.heap.size w w2 :=
  h.bel.grown hg.1 h.bel.size (fun k hk => (h.own.base k hk).1)
theorem sm_Put {w w1 : World} {v : Value} {l : List UInt8} (h : Hid (Sm w w1 v l)) (hl : Hid (l.length ≤ 100000)) (n k : Nat) (hk : k ≤ 8) (hn : (n : Int) ≤ 18446744073709551615) :
    Calls Try.prog 48 #[v, .int .u64 n, .int .i64 k] w1 fun e w' => ∃ v', e = .returned v' ∧ Hid (Sm w w' v' (l ++ leN k n)) :=
  (ref_Put w1 w.heap.size v l n k h.out.own h.out.bel.size (by have := hl.out; omega) hn).mono fun e w' ⟨v', he, ho, hg⟩ => ⟨v', he, ⟨ho, hg.below h.out⟩⟩
theorem sm_Zeros {w w1 : World} {v : Value} {l : List UInt8} (h : Hid (Sm w w1 v l)) (hl : Hid (l.length ≤ 100000)) (z : Nat) (hz : z ≤ 4096) :
    Calls Try.prog 49 #[v, .int .i64 z] w1 fun e w' => ∃ v', e = .returned v' ∧ Hid (Sm w w' v' (l ++ List.replicate z 0)) :=
  (ref_Zeros w1 w.heap.size v l z h.out.own h.out.bel.size (by have := hl.out; omega) (by omega)).mono fun e w' ⟨v', he, ho, hg⟩ => ⟨v', he, ⟨by simpa using ho, hg.below h.out⟩⟩
theorem sm_To {w w1 : World} {v : Value} {l : List UInt8} (h : Hid (Sm w w1 v l)) (hl : Hid (l.length ≤ 100000)) (z : Int) (q : Nat) (h0 : -9223372036854775808 ≤ z) (hz : z ≤ 4096) (hq : ToIs l.length z q) :
    Calls Try.prog 55 #[v, .int .i64 z] w1 fun e w' => ∃ v', e = .returned v' ∧ Hid (Sm w w' v' (l ++ List.replicate q 0)) :=
  (ref_To w1 w.heap.size v l z q h.out.own h.out.bel.size (by have := hl.out; omega) h0 hz hq).mono fun e w' ⟨v', he, ho, hg⟩ => ⟨v', he, ⟨ho, hg.below h.out⟩⟩
/-- Beside it three blocks lie, which it doesn't touch. -/
structure Sk (w w1 : World) (v : Value) (l : List UInt8) (g : Nat) (x y z : Obj) : Prop where
  sm : Sm w w1 v l
  low : w.heap.size ≤ g
  lt : g + 2 < w1.heap.size
  far : v.ownBlock ≠ some g ∧ v.ownBlock ≠ some (g + 1) ∧ v.ownBlock ≠ some (g + 2)
  x : w1.heap[g]? = some x
  y : w1.heap[g + 1]? = some y
  z : w1.heap[g + 2]? = some z
theorem sk_Put {w w1 : World} {v : Value} {l : List UInt8} {g : Nat} {x y z : Obj} (h : Hid (Sk w w1 v l g x y z)) (hl : Hid (l.length ≤ 100000)) (n k : Nat) (hk : k ≤ 8) (hn : (n : Int) ≤ 18446744073709551615) :
    Calls Try.prog 48 #[v, .int .u64 n, .int .i64 k] w1 fun e w' => ∃ v', e = .returned v' ∧ Hid (Sk w w' v' (l ++ leN k n) g x y z) := by
  refine (ref_Put w1 w.heap.size v l n k h.out.sm.own h.out.sm.bel.size (by have := hl.out; omega) hn).mono fun e w' ⟨v', he, ho, hg⟩ => ⟨v', he, ⟨⟨ho, hg.below h.out.sm⟩, h.out.low, Nat.lt_of_lt_of_le h.out.lt hg.1.size, ?_, ?_, ?_, ?_⟩⟩
  · have hlt := h.out.lt
    rcases hg.2 with e | ⟨k, e, hk⟩
    · rw [e]; exact h.out.far
    · rw [e]; refine ⟨fun e => ?_, fun e => ?_, fun e => ?_⟩ <;> (injection e with e; omega)
  · rw [hg.1.block g (by have := h.out.lt; omega) (fun e => h.out.far.1 e.symm)]; exact h.out.x
  · rw [hg.1.block (g + 1) (by have := h.out.lt; omega) (fun e => h.out.far.2.1 e.symm)]; exact h.out.y
  · rw [hg.1.block (g + 2) (by have := h.out.lt; omega) (fun e => h.out.far.2.2 e.symm)]; exact h.out.z
theorem sm_start (w : World) : Sm w (w.alloc (.cells #[.int .u8 127, .int .u8 69, .int .u8 76, .int .u8 70, .int .u8 2, .int .u8 1, .int .u8 1] 5)) (.slice (some ⟨w.heap.size, 0, none⟩) 7 7) [127, 69, 76, 70, 2, 1, 1] := by
  refine ⟨?_, (Below.refl _ w).alloc (Nat.le_refl _) _⟩
  unfold Own
  refine ⟨rfl, .inr ⟨w.heap.size, 7, _, rfl, Nat.le_refl _, heap_alloc_new _ _, by decide, by decide, rfl, rfl⟩⟩
set_option maxHeartbeats 4000000 in
set_option maxRecDepth 20000 in
theorem law_small (w : World) : Calls Try.prog 35 #[] w fun e w' => ∃ v, e = .returned v ∧ Own w' w.heap.size v smallB ∧ Below w.heap.size w w' := by
  have S0 := hide (sm_start w)
  go_enter Try.func35, Try.ntmps35
  go_wp2_with fail
  refine (sm_Zeros S0 (by rw [Hid]; decide) 9 (by omega)).mono ?_
  rintro e w1 ⟨v1, rfl, S1⟩
  clear S0
  go_wp2_with fail
  refine (sm_Put S1 (by rw [Hid]; decide) 3 2 (by omega) (by omega)).mono ?_
  rintro e w2 ⟨v2, rfl, S2⟩
  clear S1
  go_wp2_with fail
  refine (sm_Put S2 (by rw [Hid]; decide) 62 2 (by omega) (by omega)).mono ?_
  rintro e w3 ⟨v3, rfl, S3⟩
  clear S2
  go_wp2_with fail
  refine (sm_Zeros S3 (by rw [Hid]; decide) 12 (by omega)).mono ?_
  rintro e w4 ⟨v4, rfl, S4⟩
  clear S3
  go_wp2_with fail
  refine (sm_Put S4 (by rw [Hid]; decide) 64 8 (by omega) (by omega)).mono ?_
  rintro e w5 ⟨v5, rfl, S5⟩
  clear S4
  go_wp2_with fail
  refine (sm_Zeros S5 (by rw [Hid]; decide) 12 (by omega)).mono ?_
  rintro e w6 ⟨v6, rfl, S6⟩
  clear S5
  go_wp2_with fail
  refine (sm_Put S6 (by rw [Hid]; decide) 64 2 (by omega) (by omega)).mono ?_
  rintro e w7 ⟨v7, rfl, S7⟩
  clear S6
  go_wp2_with fail
  refine (sm_Put S7 (by rw [Hid]; decide) 56 2 (by omega) (by omega)).mono ?_
  rintro e w8 ⟨v8, rfl, S8⟩
  clear S7
  go_wp2_with fail
  refine (sm_Put S8 (by rw [Hid]; decide) 2 2 (by omega) (by omega)).mono ?_
  rintro e w9 ⟨v9, rfl, S9⟩
  clear S8
  go_wp2_with fail
  refine (sm_Zeros S9 (by rw [Hid]; decide) 6 (by omega)).mono ?_
  rintro e wa ⟨va, rfl, SA⟩
  clear S9
  have SA : Hid (Sm w wa va sm0) := SA
  have SB : Hid (Sk w (((wa.alloc (.cells #[.int .u64 1, .int .u64 4, .int .u64 0, .int .u64 0, .int .u64 256] 30)).alloc (.cells #[.int .u64 2, .int .u64 4, .int .u64 192, .int .u64 192, .int .u64 16] 30)).alloc (.cells #[.slice (some ⟨wa.heap.size, 0, none⟩) 5 5, .slice (some ⟨wa.heap.size + 1, 0, none⟩) 5 5] 92)) va sm0 wa.heap.size
      (.cells #[.int .u64 1, .int .u64 4, .int .u64 0, .int .u64 0, .int .u64 256] 30) (.cells #[.int .u64 2, .int .u64 4, .int .u64 192, .int .u64 192, .int .u64 16] 30) (.cells #[.slice (some ⟨wa.heap.size, 0, none⟩) 5 5, .slice (some ⟨wa.heap.size + 1, 0, none⟩) 5 5] 92)) := by
    have b3 : Below wa.heap.size wa (((wa.alloc (.cells #[.int .u64 1, .int .u64 4, .int .u64 0, .int .u64 0, .int .u64 256] 30)).alloc (.cells #[.int .u64 2, .int .u64 4, .int .u64 192, .int .u64 192, .int .u64 16] 30)).alloc (.cells #[.slice (some ⟨wa.heap.size, 0, none⟩) 5 5, .slice (some ⟨wa.heap.size + 1, 0, none⟩) 5 5] 92)) :=
      (((Below.refl _ wa).alloc (Nat.le_refl _) _).alloc (by simp) _).alloc (by simp; omega) _
    have hlt := SA.out.own.base
    refine ⟨⟨SA.out.own.stay b3, SA.out.bel.trans (b3.mono SA.out.bel.size)⟩, SA.out.bel.size, by simp, ⟨fun e => ?_, fun e => ?_, fun e => ?_⟩, ?_, ?_, ?_⟩
    · have := hlt _ e; omega
    · have := hlt _ e; omega
    · have := hlt _ e; omega
    · rw [heap_alloc_old _ _ (by simp; omega), heap_alloc_old _ _ (by simp), heap_alloc_new]
    · rw [heap_alloc_old _ _ (by simp), show wa.heap.size + 1 = (wa.alloc (.cells #[.int .u64 1, .int .u64 4, .int .u64 0, .int .u64 0, .int .u64 256] 30)).heap.size by simp, heap_alloc_new]
    · rw [show wa.heap.size + 2 = ((wa.alloc (.cells #[.int .u64 1, .int .u64 4, .int .u64 0, .int .u64 0, .int .u64 256] 30)).alloc (.cells #[.int .u64 2, .int .u64 4, .int .u64 192, .int .u64 192, .int .u64 16] 30)).heap.size by simp, heap_alloc_new]
  clear SA
  go_wp2
  have SB : Hid (Sk w _ va (smI 0) wa.heap.size _ _ _) := SB
  generalize ((wa.alloc _).alloc _).alloc _ = wb at *
  generalize wa.heap.size = g at *
  go_loopw [1, 3, 4] (fun v1 v3 _ wr => ∃ i : Nat, i ≤ 2 ∧ v3 = .int .i64 i ∧ Hid (Sk w wr v1 (smI i) g (.cells #[.int .u64 1, .int .u64 4, .int .u64 0, .int .u64 0, .int .u64 256] 30) (.cells #[.int .u64 2, .int .u64 4, .int .u64 192, .int .u64 192, .int .u64 16] 30) (.cells #[.slice (some ⟨g, 0, none⟩) 5 5, .slice (some ⟨g + 1, 0, none⟩) 5 5] 92))) (fun _ v3 _ _ => 2 - (intOf v3).toNat)
  case atStart => exact ⟨0, by omega, rfl, SB⟩
  case round =>
    obtain ⟨i, hi, rfl, S0⟩ := hrel
    clear SB
    match i, hi with
    | 0, _ =>
      have S0 : Hid (Sk w _ _ sm0 g _ _ _) := S0
      have q0 := cells_of_block S0.out.z 0 _ rfl
      have g2 := S0.out.lt
      have c0 := cells_of_block S0.out.x 0 _ rfl
      go_wp2_with fail
      refine (sk_Put S0 (by rw [Hid]; decide) 1 4 (by omega) (by omega)).mono ?_
      rintro e w1 ⟨v1, rfl, S1⟩
      clear S0 c0 q0 g2
      have c0 := cells_of_block S1.out.x 1 _ rfl
      go_wp2_with fail
      refine (sk_Put S1 (by rw [Hid]; decide) 4 4 (by omega) (by omega)).mono ?_
      rintro e w2 ⟨v2, rfl, S2⟩
      clear S1 c0
      have c0 := cells_of_block S2.out.x 2 _ rfl
      go_wp2_with fail
      refine (sk_Put S2 (by rw [Hid]; decide) 0 8 (by omega) (by omega)).mono ?_
      rintro e w3 ⟨v3, rfl, S3⟩
      clear S2 c0
      have c0 := cells_of_block S3.out.x 3 _ rfl
      go_wp2_with fail
      refine (sk_Put S3 (by rw [Hid]; decide) 0 8 (by omega) (by omega)).mono ?_
      rintro e w4 ⟨v4, rfl, S4⟩
      clear S3 c0
      go_wp2_with fail
      refine (sk_Put S4 (by rw [Hid]; decide) 0 8 (by omega) (by omega)).mono ?_
      rintro e w5 ⟨v5, rfl, S5⟩
      clear S4
      have c0 := cells_of_block S5.out.x 4 _ rfl
      go_wp2_with fail
      refine (sk_Put S5 (by rw [Hid]; decide) 256 8 (by omega) (by omega)).mono ?_
      rintro e w6 ⟨v6, rfl, S6⟩
      clear S5 c0
      have c0 := cells_of_block S6.out.x 4 _ rfl
      go_wp2_with fail
      refine (sk_Put S6 (by rw [Hid]; decide) 256 8 (by omega) (by omega)).mono ?_
      rintro e w7 ⟨v7, rfl, S7⟩
      clear S6 c0
      go_wp2_with fail
      refine (sk_Put S7 (by rw [Hid]; decide) 8 8 (by omega) (by omega)).mono ?_
      rintro e w8 ⟨v8, rfl, S8⟩
      clear S7
      have S8 : Hid (Sk w w8 v8 (smI 1) g _ _ _) := S8
      go_wp2
      go_roundw
      case rel => exact ⟨1, by omega, by go_num, S8⟩
      case measure => simp [intOf]
    | 1, _ =>
      have S0 : Hid (Sk w _ _ sm1 g _ _ _) := S0
      have q0 := cells_of_block S0.out.z 1 _ rfl
      have g2 := S0.out.lt
      have c0 := cells_of_block S0.out.y 0 _ rfl
      go_wp2_with fail
      refine (sk_Put S0 (by rw [Hid]; decide) 2 4 (by omega) (by omega)).mono ?_
      rintro e w1 ⟨v1, rfl, S1⟩
      clear S0 c0 q0 g2
      have c0 := cells_of_block S1.out.y 1 _ rfl
      go_wp2_with fail
      refine (sk_Put S1 (by rw [Hid]; decide) 4 4 (by omega) (by omega)).mono ?_
      rintro e w2 ⟨v2, rfl, S2⟩
      clear S1 c0
      have c0 := cells_of_block S2.out.y 2 _ rfl
      go_wp2_with fail
      refine (sk_Put S2 (by rw [Hid]; decide) 192 8 (by omega) (by omega)).mono ?_
      rintro e w3 ⟨v3, rfl, S3⟩
      clear S2 c0
      have c0 := cells_of_block S3.out.y 3 _ rfl
      go_wp2_with fail
      refine (sk_Put S3 (by rw [Hid]; decide) 192 8 (by omega) (by omega)).mono ?_
      rintro e w4 ⟨v4, rfl, S4⟩
      clear S3 c0
      go_wp2_with fail
      refine (sk_Put S4 (by rw [Hid]; decide) 0 8 (by omega) (by omega)).mono ?_
      rintro e w5 ⟨v5, rfl, S5⟩
      clear S4
      have c0 := cells_of_block S5.out.y 4 _ rfl
      go_wp2_with fail
      refine (sk_Put S5 (by rw [Hid]; decide) 16 8 (by omega) (by omega)).mono ?_
      rintro e w6 ⟨v6, rfl, S6⟩
      clear S5 c0
      have c0 := cells_of_block S6.out.y 4 _ rfl
      go_wp2_with fail
      refine (sk_Put S6 (by rw [Hid]; decide) 16 8 (by omega) (by omega)).mono ?_
      rintro e w7 ⟨v7, rfl, S7⟩
      clear S6 c0
      go_wp2_with fail
      refine (sk_Put S7 (by rw [Hid]; decide) 8 8 (by omega) (by omega)).mono ?_
      rintro e w8 ⟨v8, rfl, S8⟩
      clear S7
      have S8 : Hid (Sk w w8 v8 (smI 2) g _ _ _) := S8
      go_wp2
      go_roundw
      case rel => exact ⟨2, by omega, by go_num, S8⟩
      case measure => simp [intOf]
    | 2, _ =>
      have S0 : Hid (Sm w _ _ sm2) := S0.out.sm
      go_wp2_with fail
      refine (sm_To S0 (by rw [Hid]; decide) 256 80 (by omega) (by omega) (.inl ⟨pow256_is, by omega, by decide, by omega⟩)).mono ?_
      rintro e w1 ⟨v1, rfl, S1⟩
      go_wp2
      go_ret
      exact ⟨_, rfl, S1.out.own, S1.out.bel⟩
end Go.Proofs.Ytgpjfcnlhlkblaa
