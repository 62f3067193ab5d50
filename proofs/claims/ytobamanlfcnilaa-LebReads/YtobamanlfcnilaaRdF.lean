/-
  slices.Clone of bytes, leb.Read, and the chapter's examples of layer 3 ('alive') keep their contracts.
-/
import Derived.Test.YtobamanlfcnilaaRdE
import Derived.Test.YtobamanlfcnilaaLebB
set_option linter.unusedVariables false
namespace Go.Proofs.Ytobamanlfcnilaa
open Go.RowKit Go.PlainAid
/-- v is a slice of bytes, wherever it lies, and reads as l. -/
def Arg (w : World) (v : Value) (l : List UInt8) : Prop :=
  ∃ a cap, v = .slice a l.length cap ∧ l.length ≤ cap ∧ cap ≤ maxLen ∧ l.length ≤ 1000000000000 ∧
    ((a = none ∧ l = [] ∧ cap = 0) ∨ ∃ g o, a = some ⟨g, o, none⟩ ∧ ∀ j (hj : j < l.length), w.cell? ⟨g, o + j, none⟩ = some (.int .u8 (l[j].toNat : Int)))
theorem add_at (g o j : Nat) : (⟨g, o, none⟩ : Addr).add j = ⟨g, o + j, none⟩ := by
  unfold Addr.add; split
  · rename_i h; simp_all
  · rfl
theorem Own.arg {w : World} {B : Nat} {v : Value} {l : List UInt8} (h : Own w B v l) (hl : l.length ≤ 1000000000000) : Arg w v l := by
  by_cases hne : l = []
  · subst hne
    unfold Own at h
    rcases h.2 with ⟨rfl, hn⟩ | ⟨g, cap, cur, rfl, hb, hg, hn, hm, hc, ht⟩
    · exact ⟨none, 0, rfl, by simp, by simp, by simp, .inl ⟨rfl, rfl, rfl⟩⟩
    · exact ⟨_, cap, rfl, by simp, hm, by simp, .inr ⟨g, 0, rfl, fun j hj => absurd hj (by simp)⟩⟩
  · obtain ⟨g, cap, rfl, _, _, h1, h2, hc, _⟩ := h.form hne
    exact ⟨_, cap, rfl, h1, h2, hl, .inr ⟨g, 0, rfl, fun j hj => by simpa using hc j hj⟩⟩
theorem Own.row {w : World} {B R : Nat} {v : Value} {l : List UInt8} (h : Own w B v l) (hR : ∀ g, v.ownBlock = some g → g ≠ R) : Row w R v l := by
  by_cases hne : l = []
  · subst hne
    unfold Own at h
    rcases h.2 with ⟨rfl, hn⟩ | ⟨g, cap, cur, rfl, hb, hg, hn, hm, hc, ht⟩
    · exact ⟨none, 0, rfl, by simp, by simp, .inl rfl⟩
    · exact ⟨_, cap, rfl, by simp, hm, .inl rfl⟩
  · obtain ⟨g, cap, rfl, _, hlt, h1, h2, hc, _⟩ := h.form hne
    exact ⟨_, cap, rfl, h1, h2, .inr ⟨g, 0, rfl, hR g rfl, hlt, fun j hj => by simpa using hc j hj⟩⟩
theorem Own.slice {w : World} {B : Nat} {v : Value} {l : List UInt8} (h : Own w B v l) : ∃ a cap, v = .slice a l.length cap ∧ (∀ g, v.ownBlock = some g → B ≤ g ∧ g < w.heap.size) := by
  have hb := h.base
  unfold Own at h
  rcases h.2 with ⟨rfl, hn⟩ | ⟨g, cap, cur, rfl, _⟩
  · exact ⟨none, 0, by rw [hn], hb⟩
  · exact ⟨_, cap, rfl, hb⟩
set_option maxHeartbeats 400000 in
theorem lib_Clone (l : List UInt8) (v : Value) (w : World) (h : Arg w v l) :
    Calls Try.prog 21 #[v] w fun x w' => ∃ v', x = .returned v' ∧ Own w' w.heap.size v' l ∧ Below w.heap.size w w' := by
  obtain ⟨a, cap, rfl, h1, h2, h3, h4⟩ := h
  have qn : ∀ (w : World) (a : Option Addr) (n c n' c' : Nat), (binOp .eql 28 (.slice a n c) (.slice none n' c')).run Try.prog w = .ok (.bool a.isNone) w := fun w a n c n' c' => Lib.run_eql_slice_nil w _ _ a n c n' c' Try.underlying28
  rcases h4 with ⟨rfl, rfl, rfl⟩ | ⟨g, o, rfl, hc⟩
  · go_enter Try.func21, Try.ntmps21
    go_wp2
    go_ret
    exact ⟨_, rfl, Own.nil _ _, Below.refl _ _⟩
  · obtain ⟨i, hi, hz0, hz1, hz2⟩ := info_parts Try.info8
    have hown : Own (w.alloc (.cells #[] 5)) w.heap.size (.slice (some ⟨w.heap.size, 0, none⟩) 0 0) [] :=
      World.ownsRow_made w #[] 0 (Nat.le_refl _) (by simp) (by simp)
    go_enter Try.func21, Try.ntmps21
    go_wp2_with (at_builtin; refine wpList_append_own (P := Try.prog) _ rfl _ _ 28 rfl w.heap.size 5 i (.int .u8 0) 1 1 Try.underlying28 hi hz0 hz1 hz2 rfl (by decide) _ 0 [] rfl hown ⟨g, o, none⟩ l.length cap (bv l) rfl (by simp [bv]) ?c1 ?c2 ?c3 ?c4 ?c5 ?_)
    case c1 =>
      intro j u hj
      obtain ⟨c, hc1, rfl⟩ := bv_get l j u hj
      have hlt := (List.getElem?_eq_some_iff.1 hc1).1
      have hg := hc j hlt
      rw [add_at, World.cell?_alloc_lt _ _ _ (World.block_lt_of_cell? _ _ hg), hg]
      congr 2
      have := (List.getElem?_eq_some_iff.1 hc1).2
      rw [this]
    case c2 => intro u hu; unfold bv at hu; obtain ⟨c, _, rfl⟩ := List.mem_map.mp hu; rfl
    case c3 => unfold maxLen; omega
    case c4 => omega
    case c5 => simp
    · intro v' w1 q1 q2 _
      go_wp2
      go_ret
      refine ⟨_, rfl, ?_, ?_⟩
      · unfold Own; simpa using q1
      · exact ((Below.refl w.heap.size w).alloc (Nat.le_refl _) _).grown q2 (by simp) (fun k hk => by simp [Value.ownBlock] at hk; omega)
set_option maxHeartbeats 400000 in
theorem leb_Read (l : List UInt8) (v : Value) (w : World) (h : Arg w v l) :
    Calls Try.prog 8 #[v] w fun x w' => ∃ R, x = .returned (.pointer (some ⟨R, 0, none⟩)) ∧ Rd w' R l 0 ∧ w.heap.size ≤ R ∧ Below w.heap.size w w' := by
  have hC := lib_Clone l v w h
  go_enter Try.func8, Try.ntmps8
  go_wp2_with fail
  refine hC.mono ?_
  rintro x w1 ⟨v', rfl, hown, hb⟩
  obtain ⟨a, cap, rfl, _⟩ := hown.slice
  go_wp2
  go_ret
  refine ⟨w1.heap.size, rfl, ?_, hb.size, hb.alloc hb.size _⟩
  refine ⟨by simp, ⟨.slice a l.length cap, by simp, ?_⟩, by simp, by simp, by simp⟩
  exact Own.row (B := w.heap.size) (World.ownsRow.alloc hown _) (fun g hg => by have := (hown.base g hg).2; omega)
theorem alive_U (R : Nat) (w : World) (h : Rd w R [128, 0, 126] 0) :
    Calls Try.prog 12 #[.pointer (some ⟨R, 0, none⟩)] w fun x w' => x = .returned (.int .u64 0) ∧ Rd w' R [126] 0 ∧ w.grownBy w' (some R) :=
  leb_U_yes R [128, 0, 126] 0 w h (by unfold whole; decide) (by decide)
theorem alive_sv : sv (gv [126] 1) 1 (gl [126] 1) = -2 := by kernel_rfl
theorem alive_S (R : Nat) (w : World) (h : Rd w R [126] 0) :
    Calls Try.prog 10 #[.pointer (some ⟨R, 0, none⟩)] w fun x w' => x = .returned (.int .i64 (-2)) ∧ Rd w' R [] 0 ∧ w.grownBy w' (some R) := by
  have := leb_S_yes R [126] 0 w h (by unfold whole; decide) (by decide)
  have e : hiN 10 [126] = 0 := by decide
  rw [e, alive_sv] at this
  exact this
theorem alive_PutU (w : World) : Calls Try.prog 27 #[.int .u64 300] w fun e w' => ∃ v, e = .returned v ∧ Own w' w.heap.size v [172, 2] ∧ Below w.heap.size w w' := leb_PutU 300 w (by omega)
theorem alive_PutS (w : World) : Calls Try.prog 28 #[.int .i64 64] w fun e w' => ∃ v, e = .returned v ∧ Own w' w.heap.size v [192, 0] ∧ Below w.heap.size w w' := leb_PutS 64 w (by omega) (by omega)
theorem alive_arg (w : World) : Arg (w.alloc (.cells #[.int .u8 128, .int .u8 0, .int .u8 126] 5)) (.slice (some ⟨w.heap.size, 0, none⟩) 3 3) [128, 0, 126] :=
  ⟨some ⟨w.heap.size, 0, none⟩, 3, rfl, by simp, by simp [maxLen], by simp, .inr ⟨_, _, rfl, fun j hj => by
    match j, hj with
    | 0, _ => simp
    | 1, _ => simp
    | 2, _ => simp⟩⟩
set_option maxHeartbeats 1000000 in
theorem alive03 (w : World) : Calls Try.prog 16 #[] w fun e w' => e = .returned (.bool true) ∧ Below w.heap.size w w' := by
  have b0 := (Below.refl w.heap.size w).alloc (Nat.le_refl _) (.cells #[.int .u8 128, .int .u8 0, .int .u8 126] 5)
  have hA := alive_arg w
  go_enter Try.func16, Try.ntmps16
  go_wp2_with fail
  refine (leb_Read _ _ _ hA).mono ?_
  rintro e w1 ⟨R, rfl, hr1, hR, hb1⟩
  have hR' : w.heap.size ≤ R := Nat.le_trans b0.size hR
  have b1 := b0.trans (hb1.mono b0.size)
  go_wp2_with fail
  refine (alive_U R _ hr1).mono ?_
  rintro e w2 ⟨rfl, hr2, hg2⟩
  have b2 := b1.grown hg2 b1.size (fun k hk => by simp at hk; omega)
  go_wp2_with fail
  refine (alive_S R _ hr2).mono ?_
  rintro e w3 ⟨rfl, hr3, hg3⟩
  have b3 := b2.grown hg3 b2.size (fun k hk => by simp at hk; omega)
  go_wp2_with fail
  refine (leb_Fail R _ _ _ hr3).mono ?_
  rintro e w4 ⟨rfl, rfl⟩
  go_wp2_with fail
  refine (alive_PutU _).mono ?_
  rintro e w4 ⟨v4, rfl, ho4, hb4⟩
  have t4 := ho4.text (by simp)
  have b4 := b3.trans (hb4.mono b3.size)
  go_wp2_with fail
  refine (alive_PutS _).mono ?_
  rintro e w5 ⟨v5, rfl, ho5, hb5⟩
  have t5 := ho5.text (by simp)
  clear t4
  go_wp2
  go_ret
  exact ⟨rfl, b4.trans (hb5.mono b4.size)⟩
end Go.Proofs.Ytobamanlfcnilaa
