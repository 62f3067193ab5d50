
/-
  Layer 14 (aps): the chapter's examples ('alive') keep their contract, over Decode's.
-/
import Derived.Test.YtiicmakeoidiaaaApJ
set_option linter.unusedVariables false
namespace Go.Proofs.Ytiicmakeoidiaaa
open Go.RowKit Go.PlainAid
def DecSpec : Prop := ∀ (w : World) (v : Value) (l : List UInt8), Arg w v l → ∀ rela : Bool, Calls Try.prog 26 #[v, .bool rela] w fun e w' => ApsIs w (apsZ l rela) e w' ∧ Below w.heap.size w w'
def exRl : Rl := ⟨16, 8, 0, 3, true⟩
def exB : List UInt8 := [65, 80, 83, 50, 2, 0, 2, 3, 8, 6, 0]
theorem ex_enc : encA [exRl] true = some [65, 80, 83, 50, 1, 0, 1, 9, 8, 16, 3] := by kernel_rfl
theorem ex_dec : apsZ exB false = none := by kernel_rfl
theorem ex_nil : apsZ [] true = none := by kernel_rfl
def exO : Obj := .cells #[.int .u8 65, .int .u8 80, .int .u8 83, .int .u8 50, .int .u8 2, .int .u8 0, .int .u8 2, .int .u8 3, .int .u8 8, .int .u8 6, .int .u8 0] 5 (11, 12)
theorem ex_arg (w : World) : Arg (w.alloc exO) (.slice (some ⟨w.heap.size, 0, none⟩) 11 11) exB := by
  refine ⟨_, 11, rfl, by decide, by unfold maxLen; omega, by decide, .inr ⟨_, rfl, fun j hj => ?_⟩⟩
  rw [add_at, Nat.zero_add, cell_of_row _ _ j _ _ _ (heap_alloc_new w exO)]
  have h11 : j < 11 := hj
  match j, h11 with
  | 0, _ => rfl
  | 1, _ => rfl
  | 2, _ => rfl
  | 3, _ => rfl
  | 4, _ => rfl
  | 5, _ => rfl
  | 6, _ => rfl
  | 7, _ => rfl
  | 8, _ => rfl
  | 9, _ => rfl
  | 10, _ => rfl
theorem ex_conv (w : World) : (convert 42 42 (.slice (some ⟨w.heap.size, 0, none⟩) 11 11)).run Try.prog (w.alloc (.cells #[.int .u8 65, .int .u8 80, .int .u8 83, .int .u8 50, .int .u8 2, .int .u8 0, .int .u8 2, .int .u8 3, .int .u8 8, .int .u8 6, .int .u8 0] 5)) = .ok (.slice (some ⟨w.heap.size, 0, none⟩) 11 11) (w.alloc exO) :=
  Lib.run_convert_bytes_const (P := Try.prog) w 42 5 _ 11 11 Try.underlying42 Try.underlying5
theorem ex_rl (w : World) : ArgR (w.alloc (.cells #[.int .u64 16, .int .u32 8, .int .u32 0, .int .i64 3, .bool true] 59)) (.slice (some ⟨w.heap.size, 0, none⟩) 1 1) [exRl] := by
  refine ⟨fun r hr => ?_, _, 1, rfl, by simp, by unfold maxLen; omega, .inr ⟨w.heap.size, 0, rfl, by simp, fun j hj k hk => ?_⟩⟩
  · simp at hr
    subst hr
    exact ⟨by decide, by decide, by decide, by decide, by decide⟩
  · have hj0 : j = 0 := by simpa using hj
    subst hj0
    rw [Nat.zero_mul, Nat.add_zero, Nat.zero_add, cell_of_row _ _ k _ _ _ (heap_alloc_new w _)]
    match k, hk with
    | 0, _ => rfl
    | 1, _ => rfl
    | 2, _ => rfl
    | 3, _ => rfl
    | 4, _ => rfl
set_option maxHeartbeats 1000000 in
set_option maxRecDepth 20000 in
theorem alive14 (HD : DecSpec) (w : World) : Calls Try.prog 18 #[] w fun e w' => e = .returned (.bool true) ∧ Below w.heap.size w w' := by
  have hE := aps_Encode _ _ [exRl] true (ex_rl w) (by simp)
  rw [ex_enc] at hE
  have HB0 := hide (below1 w (.cells #[.int .u64 16, .int .u32 8, .int .u32 0, .int .i64 3, .bool true] 59))
  have HDD := hide HD
  clear HD
  go_enter Try.func18, Try.ntmps18
  go_wp2_with fail
  refine hE.mono ?_
  rintro e w1 ⟨⟨v1, rfl, hown⟩, hb1⟩
  have HB1 : Hid (Below w.heap.size w w1) := HB0.out.trans (hb1.mono HB0.out.size)
  have htx := fun W (hb : Below w1.heap.size w1 W) => (hown.stay hb).text (by simp)
  obtain ⟨a1, c1, hv1, _⟩ := hown.slice
  have hv2 : v1 = .slice a1 11 c1 := hv1
  clear hv1
  subst hv2
  have HTX := hide htx
  have hcv := ex_conv w1
  have hD := HDD.out _ _ _ (ex_arg w1) false
  rw [ex_dec] at hD
  have HB2 := hide (below1 w1 exO)
  clear hE hb1 hown htx
  go_wp2_with fail
  refine hD.mono ?_
  rintro e w2 ⟨he, hb2⟩
  have he2 : e = _ := he
  subst he2
  have HB3 : Hid (Below w1.heap.size w1 w2) := HB2.out.trans (hb2.mono HB2.out.size)
  have hD2 := HDD.out w2 (.slice none 0 0) [] ⟨none, 0, rfl, by simp, by simp, by simp, .inl ⟨rfl, rfl, rfl⟩⟩ true
  rw [ex_nil] at hD2
  clear hD hb2 hcv he
  go_wp2_with fail
  refine hD2.mono ?_
  rintro e w3 ⟨he, hb3⟩
  have he2 : e = _ := he
  subst he2
  have HB4 : Hid (Below w1.heap.size w1 w3) := HB3.out.trans (hb3.mono HB3.out.size)
  have tx := HTX.out w3 HB4.out
  have HB5 : Hid (Below w.heap.size w w3) := HB1.out.trans (HB4.out.mono HB1.out.size)
  clear hD2 hb3 he
  go_wp2
  go_ret
  exact ⟨rfl, HB5.out⟩
end Go.Proofs.Ytiicmakeoidiaaa
